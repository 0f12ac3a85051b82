/- ReadBlanks' walk: blanks and remarks around a text change nothing. -/
import Derived.Test.YtfhiolnoalghmaaDoorKQuote
namespace Go.Proofs.YtfhiolnoalghmaaDoor
open Go.RowKit
def PreOk (pre : List UInt8) : Prop := Ahead pre ∧ pre.length ≤ 10
def PostOk (post : List UInt8) : Prop := Delim post ∧ skipB false post = [] ∧ post.length ≤ 10
theorem pre_ok0 : PreOk [32] := ⟨fun x r h1 h2 => by
  rw [List.singleton_append, skipB, if_pos (by decide)]
  exact skip_keep h1 h2, by decide⟩
theorem pre_ok1 : PreOk [10, 59, 120, 32, 40, 10] := ⟨fun x r h1 h2 => by
  simp only [List.cons_append, List.nil_append]
  rw [skipB, if_pos (by decide), skipB, if_neg (by decide), if_pos (by decide), skipB, if_neg (by decide), skipB, if_neg (by decide), skipB, if_neg (by decide), skipB, if_pos (by decide)]
  exact skip_keep h1 h2, by decide⟩
theorem pre_ok2 : PreOk [9, 32, 59, 59, 10, 32] := ⟨fun x r h1 h2 => by
  simp only [List.cons_append, List.nil_append]
  rw [skipB, if_pos (by decide), skipB, if_pos (by decide), skipB, if_neg (by decide), if_pos (by decide), skipB, if_neg (by decide), skipB, if_pos (by decide), skipB, if_pos (by decide)]
  exact skip_keep h1 h2, by decide⟩
theorem pre_ok3 : PreOk [] := ⟨ahead_nil, by decide⟩
theorem post_ok0 : PostOk [32] := ⟨delim_blank [], by decide, by decide⟩
theorem post_ok1 : PostOk [10, 59, 32, 41] := ⟨fun x q h => by injection h with h _; subst h; rfl, by decide, by decide⟩
theorem post_ok2 : PostOk [] := ⟨delim_nil, rfl, by decide⟩
theorem pre_cell {w : World} {b j : Nat} (h : w.heap[b]? = some (.cells #[.string ⟨#[32]⟩, .string ⟨#[10, 59, 120, 32, 40, 10]⟩, .string ⟨#[9, 32, 59, 59, 10, 32]⟩, .string ⟨#[]⟩] 9 (0, 0))) (hj : j < 4) : ∃ pre : List UInt8, w.cell? ⟨b, j, none⟩ = some (.string ⟨pre.toArray⟩) ∧ PreOk pre := by
  have hc : ∀ i, w.cell? ⟨b, i, none⟩ = (#[.string ⟨#[32]⟩, .string ⟨#[10, 59, 120, 32, 40, 10]⟩, .string ⟨#[9, 32, 59, 59, 10, 32]⟩, .string ⟨#[]⟩] : Array Value)[i]? := fun i => by simp [World.cell?, h]
  rw [hc]
  rcases (by omega : j = 0 ∨ j = 1 ∨ j = 2 ∨ j = 3) with rfl | rfl | rfl | rfl
  · exact ⟨_, rfl, pre_ok0⟩
  · exact ⟨_, rfl, pre_ok1⟩
  · exact ⟨_, rfl, pre_ok2⟩
  · exact ⟨_, rfl, pre_ok3⟩
theorem post_cell {w : World} {b j : Nat} (h : w.heap[b]? = some (.cells #[.string ⟨#[32]⟩, .string ⟨#[10, 59, 32, 41]⟩, .string ⟨#[]⟩] 9 (0, 0))) (hj : j < 3) : ∃ post : List UInt8, w.cell? ⟨b, j, none⟩ = some (.string ⟨post.toArray⟩) ∧ PostOk post := by
  have hc : ∀ i, w.cell? ⟨b, i, none⟩ = (#[.string ⟨#[32]⟩, .string ⟨#[10, 59, 32, 41]⟩, .string ⟨#[]⟩] : Array Value)[i]? := fun i => by simp [World.cell?, h]
  rw [hc]
  rcases (by omega : j = 0 ∨ j = 1 ∨ j = 2) with rfl | rfl | rfl
  · exact ⟨_, rfl, post_ok0⟩
  · exact ⟨_, rfl, post_ok1⟩
  · exact ⟨_, rfl, post_ok2⟩
theorem row_keep {w1 w2 : World} {N M : Nat} {items : List (DataW Unit)} {a : Option Addr} {len : Nat} (hb : Below w1.heap.size w1 w2) (h : RowD w1 (fun b => M ≤ b ∧ b < w1.heap.size) (Dat w1 (fun b => M ≤ b ∧ b < w1.heap.size) 40) items a len) (hN : N ≤ M) :
    RowD w2 (fun b => N ≤ b ∧ b < w2.heap.size) (Dat w2 (fun b => N ≤ b ∧ b < w2.heap.size) 40) items a len := by
  have hz := hb.size
  refine ⟨h.1, fun i t hi => ?_⟩
  obtain ⟨b, o, u0, u1, u2, u3, rfl, hS, c0, c1, c2, c3, hD⟩ := h.2 i t hi
  have kp : ∀ {q v}, w1.cell? q = some v → w2.cell? q = some v := fun {q v} h => (hb.cell (World.block_lt_of_cell? w1 q h)).trans h
  exact ⟨b, o, u0, u1, u2, u3, rfl, ⟨by omega, by omega⟩, kp c0, kp c1, kp c2, kp c3, Dat.keep (fun b hb' => ⟨hb.block b hb'.2, by omega, by omega⟩) 40 hD⟩
set_option maxRecDepth 100000 in
set_option maxHeartbeats 3000000 in
theorem readBlanks_walk (ra : Option Addr) (rn rc : Nat) (n : Int) (w : World) (hn : i64B n) (hR : Raws w w.heap.size ra rn) (h1 : rn ≤ rc) (h2 : rc ≤ maxLen) (hG : Globs w w.heap.size) :
    Calls Tryd.prog 6 #[.slice ra rn rc, .int .i64 n] w fun e w' => e = .returned (.bool true) ∧ Below w.heap.size w w' := by
  have HC := hid (Expr_tree w w.heap.size ra rn rc (Nat.le_refl _) hR h1 h2 hG)
  clear hR h1 h2
  go_enter Tryd.func6, Tryd.ntmps6
  go_wp2_with fail
  have hcall := HC.out
  go_fit hcall
  clear hcall HC
  rintro e w1 ⟨⟨t, rfl, hf, hd, hl⟩, hb1⟩
  have hn2 := num_250 hf hl
  have hok := fit_ok t hf
  have HD1 := hid (data_ok ⟨t.pr.toArray⟩ [t.dat] w1 w.heap.size (hG.below hb1) hb1.size (by rw [sz]; omega) (readT_tree t hok (by omega) (by omega) (by omega)))
  have HD2 := hid (fun w2 (hb2 : Below w1.heap.size w1 w2) w' (hb : Below w2.heap.size w2 w') pre post (hp : PreOk pre) (hq : PostOk post) => data_ok ⟨(pre ++ t.pr ++ post).toArray⟩ [t.dat] w' w.heap.size (hG.below ((hb1.trans (hb2.mono hb1.size)).trans (hb.mono (Nat.le_trans hb1.size hb2.size)))) (Nat.le_trans (Nat.le_trans hb1.size hb2.size) hb.size) (by rw [sz]; simp only [List.length_append]; have := hp.2; have := hq.2.2; omega) (readT_around t pre post hok (by omega) (by omega) hp.1 hq.1 hq.2.1 (by have := hp.2; have := hq.2.2; omega)))
  go_wp2_with fail
  have hcall := HD1.out
  go_fit hcall
  clear hcall HD1
  rintro e w2 ⟨⟨a, cap, rfl, hc1, _, hr1⟩, hb2⟩
  have HR1 := hid hr1
  clear hr1
  have HD2 := hid (HD2.out w2 hb2)
  simp only [List.length_cons, List.length_nil] at hc1
  go_upto_region 3 with fail
  refine wp_region_invA (fun _ w' => Below w2.heap.size w2 w') (fun _ w' w'' => Below w'.heap.size w' w'') (fun i v w' => match i with
    | 0 => ∃ b, v = .slice (some ⟨b, 0, none⟩) 4 4 ∧ w'.heap[b]? = some (.cells #[.string ⟨#[32]⟩, .string ⟨#[10, 59, 120, 32, 40, 10]⟩, .string ⟨#[9, 32, 59, 59, 10, 32]⟩, .string ⟨#[]⟩] 9 (0, 0))
    | 1 => v = .int .i64 n
    | 2 => ∃ j : Nat, v = .int .i64 j ∧ j < 4
    | 3 => ∃ b j, v = .pointer (some ⟨b, j, none⟩) ∧ j < 4 ∧ w'.heap[b]? = some (.cells #[.string ⟨#[32]⟩, .string ⟨#[10, 59, 120, 32, 40, 10]⟩, .string ⟨#[9, 32, 59, 59, 10, 32]⟩, .string ⟨#[]⟩] 9 (0, 0))
    | 4 => ∃ pre, v = .string ⟨pre.toArray⟩ ∧ PreOk pre
    | 5 => v = .string ⟨t.pr.toArray⟩
    | 6 => ∃ pre, v = .string ⟨(pre ++ t.pr).toArray⟩ ∧ PreOk pre
    | 7 => ∃ b, v = .slice (some ⟨b, 0, none⟩) 3 3 ∧ w'.heap[b]? = some (.cells #[.string ⟨#[32]⟩, .string ⟨#[10, 59, 32, 41]⟩, .string ⟨#[]⟩] 9 (0, 0))
    | 8 => v = .int .i64 n
    | 9 => ∃ j : Nat, v = .int .i64 j ∧ j < 3
    | 10 => ∃ b j, v = .pointer (some ⟨b, j, none⟩) ∧ j < 3 ∧ w'.heap[b]? = some (.cells #[.string ⟨#[32]⟩, .string ⟨#[10, 59, 32, 41]⟩, .string ⟨#[]⟩] 9 (0, 0))
    | 11 => ∃ post, v = .string ⟨post.toArray⟩ ∧ PostOk post
    | 12 => ∃ pre post, v = .string ⟨(pre ++ t.pr ++ post).toArray⟩ ∧ PreOk pre ∧ PostOk post
    | 13 => ∃ a cap, v = .tuple #[.slice a 1 cap, .bool true] ∧ 1 ≤ cap ∧ RowD w' (fun b => w2.heap.size ≤ b ∧ b < w'.heap.size) (Dat w' (fun b => w2.heap.size ≤ b ∧ b < w'.heap.size) 40) [t.dat] a 1
    | 14 => ∃ a cap, v = .tuple #[.slice a 1 cap, .bool true] ∧ 1 ≤ cap ∧ RowD w' (fun b => w2.heap.size ≤ b ∧ b < w'.heap.size) (Dat w' (fun b => w2.heap.size ≤ b ∧ b < w'.heap.size) 40) [t.dat] a 1
    | 15 => ∃ a cap, v = .slice a 1 cap ∧ 1 ≤ cap ∧ RowD w' (fun b => w2.heap.size ≤ b ∧ b < w'.heap.size) (Dat w' (fun b => w2.heap.size ≤ b ∧ b < w'.heap.size) 40) [t.dat] a 1
    | 16 => v = .bool true
    | 17 => ∃ a cap, v = .slice a 1 cap ∧ 1 ≤ cap ∧ RowD w' (fun b => w2.heap.size ≤ b ∧ b < w'.heap.size) (Dat w' (fun b => w2.heap.size ≤ b ∧ b < w'.heap.size) 40) [t.dat] a 1
    | 18 => v = .bool true
    | _ => True) (by kernel_rfl) (by kernel_rfl) (Below.refl _ _).drew ?hmono ⟨?o0, ?o1, ?o2, ?o3, ?o4, ?o5, ?o6, ?o7, ?o8, ?o9, ?o10, ?o11, ?o12, ?o13, ?o14, ?o15, ?o16, ?o17, ?o18, trivial⟩ ?hend
  case o0 =>
    intro dn a w' _ hS hF K hK
    rw [if_pos (by kernel_rfl)]
    go_simp
    have hb := (Below.refl w'.heap.size w').alloc (Nat.le_refl _) (.cells #[.string ⟨#[32]⟩, .string ⟨#[10, 59, 120, 32, 40, 10]⟩, .string ⟨#[9, 32, 59, 59, 10, 32]⟩, .string ⟨#[]⟩] 9)
    exact hK _ _ _ rfl (hS.trans (hb.mono hS.size)) hb ⟨_, rfl, heap_alloc_new w' _⟩
  case o1 =>
    intro dn a w' _ hS hF K hK
    have h1 := hF.out 1 (by kernel_rfl) rfl
    rw [if_pos (by kernel_rfl)]
    go_simp
    exact hK _ _ _ rfl hS (Below.refl _ _) rfl
  case o2 =>
    intro dn a w' _ hS hF K hK
    obtain ⟨v19, h19, rfl⟩ := hF.val 1 19 (by kernel_rfl) (by kernel_rfl)
    rw [if_pos (by kernel_rfl)]
    go_simp
    refine (picked_any n 4 w' hn.1 hn.2 (by omega) (by omega)).mono ?_
    rintro e w'' ⟨rfl, rfl⟩
    obtain ⟨j, hj, hjl⟩ := pick_nat n 4 (by omega)
    rw [hj]
    exact hK _ _ _ rfl hS (Below.refl _ _) ⟨j, rfl, by omega⟩
  case o3 =>
    intro dn a w' _ hS hF K hK
    obtain ⟨v18, h18, b18, rfl, hr18⟩ := hF.val 0 18 (by kernel_rfl) (by kernel_rfl)
    obtain ⟨v20, h20, j20, rfl, hj20⟩ := hF.val 2 20 (by kernel_rfl) (by kernel_rfl)
    rw [if_pos (by kernel_rfl)]
    have hj' : (j20 : Int) < 4 := by omega
    go_simp
    exact hK _ _ _ rfl hS (Below.refl _ _) ⟨b18, j20, rfl, hj20, hr18⟩
  case o4 =>
    intro dn a w' _ hS hF K hK
    obtain ⟨v21, h21, b21, j21, rfl, hj21, hr21⟩ := hF.val 3 21 (by kernel_rfl) (by kernel_rfl)
    rw [if_pos (by kernel_rfl)]
    obtain ⟨pre, hc, hp⟩ := pre_cell hr21 hj21
    go_simp
    exact hK _ _ _ rfl hS (Below.refl _ _) ⟨pre, rfl, hp⟩
  case o5 =>
    intro dn a w' _ hS hF K hK
    have h5 := hF.out 5 (by kernel_rfl) rfl
    rw [if_pos (by kernel_rfl)]
    go_simp
    exact hK _ _ _ rfl hS (Below.refl _ _) rfl
  case o6 =>
    intro dn a w' _ hS hF K hK
    obtain ⟨v22, h22, p22, rfl, hp22⟩ := hF.val 4 22 (by kernel_rfl) (by kernel_rfl)
    obtain ⟨v23, h23, rfl⟩ := hF.val 5 23 (by kernel_rfl) (by kernel_rfl)
    rw [if_pos (by kernel_rfl)]
    have hz := hp22.2
    go_simp
    rw [if_neg (by first | omega | (simp only [sz]; omega))]
    exact hK _ _ _ rfl hS (Below.refl _ _) ⟨p22, by rw [byt_app], hp22⟩
  case o7 =>
    intro dn a w' _ hS hF K hK
    rw [if_pos (by kernel_rfl)]
    go_simp
    have hb := (Below.refl w'.heap.size w').alloc (Nat.le_refl _) (.cells #[.string ⟨#[32]⟩, .string ⟨#[10, 59, 32, 41]⟩, .string ⟨#[]⟩] 9)
    exact hK _ _ _ rfl (hS.trans (hb.mono hS.size)) hb ⟨_, rfl, heap_alloc_new w' _⟩
  case o8 =>
    intro dn a w' _ hS hF K hK
    have h1 := hF.out 1 (by kernel_rfl) rfl
    rw [if_pos (by kernel_rfl)]
    go_simp
    exact hK _ _ _ rfl hS (Below.refl _ _) rfl
  case o9 =>
    intro dn a w' _ hS hF K hK
    obtain ⟨v26, h26, rfl⟩ := hF.val 8 26 (by kernel_rfl) (by kernel_rfl)
    rw [if_pos (by kernel_rfl)]
    go_simp
    refine (picked_any n 3 w' hn.1 hn.2 (by omega) (by omega)).mono ?_
    rintro e w'' ⟨rfl, rfl⟩
    obtain ⟨j, hj, hjl⟩ := pick_nat n 3 (by omega)
    rw [hj]
    exact hK _ _ _ rfl hS (Below.refl _ _) ⟨j, rfl, by omega⟩
  case o10 =>
    intro dn a w' _ hS hF K hK
    obtain ⟨v25, h25, b25, rfl, hr25⟩ := hF.val 7 25 (by kernel_rfl) (by kernel_rfl)
    obtain ⟨v27, h27, j27, rfl, hj27⟩ := hF.val 9 27 (by kernel_rfl) (by kernel_rfl)
    rw [if_pos (by kernel_rfl)]
    have hj' : (j27 : Int) < 3 := by omega
    go_simp
    exact hK _ _ _ rfl hS (Below.refl _ _) ⟨b25, j27, rfl, hj27, hr25⟩
  case o11 =>
    intro dn a w' _ hS hF K hK
    obtain ⟨v28, h28, b28, j28, rfl, hj28, hr28⟩ := hF.val 10 28 (by kernel_rfl) (by kernel_rfl)
    rw [if_pos (by kernel_rfl)]
    obtain ⟨post, hc, hp⟩ := post_cell hr28 hj28
    go_simp
    exact hK _ _ _ rfl hS (Below.refl _ _) ⟨post, rfl, hp⟩
  case o12 =>
    intro dn a w' _ hS hF K hK
    obtain ⟨v24, h24, p24, rfl, hp24⟩ := hF.val 6 24 (by kernel_rfl) (by kernel_rfl)
    obtain ⟨v29, h29, p29, rfl, hp29⟩ := hF.val 11 29 (by kernel_rfl) (by kernel_rfl)
    rw [if_pos (by kernel_rfl)]
    have hz := hp24.2
    have hy := hp29.2.2
    go_simp
    rw [if_neg (by first | omega | (simp only [sz, List.length_append]; omega))]
    exact hK _ _ _ rfl hS (Below.refl _ _) ⟨p24, p29, by rw [byt_app], hp24, hp29⟩
  case o13 =>
    intro dn a w' _ hS hF K hK
    obtain ⟨v30, h30, p30, q30, rfl, hp30, hq30⟩ := hF.val 12 30 (by kernel_rfl) (by kernel_rfl)
    rw [if_pos (by kernel_rfl)]
    have hcall := HD2.out w' hS p30 q30 hp30 hq30
    generalize (ByteArray.mk (p30 ++ t.pr ++ q30).toArray) = s30 at h30 hcall
    go_simp
    refine hcall.mono ?_
    rintro e w'' ⟨⟨a, cap, rfl, hc, _, hr⟩, hb⟩
    exact hK _ _ _ rfl (hS.trans (hb.mono hS.size)) hb ⟨a, cap, rfl, hc, row_keep (Below.refl _ _) hr hS.size⟩
  case o14 =>
    intro dn a w' _ hS hF K hK
    obtain ⟨v31, h31, a31, cap31, rfl, hc31, hr31⟩ := hF.val 13 31 (by kernel_rfl) (by kernel_rfl)
    rw [if_pos (by kernel_rfl)]
    go_simp
    exact hK _ _ _ rfl hS (Below.refl _ _) ⟨a31, cap31, rfl, hc31, hr31⟩
  case o15 =>
    intro dn a w' _ hS hF K hK
    obtain ⟨v17, h17, a17, cap17, rfl, hc17, hr17⟩ := hF.val 14 17 (by kernel_rfl) (by kernel_rfl)
    rw [if_pos (by kernel_rfl)]
    go_simp
    exact hK _ _ _ rfl hS (Below.refl _ _) ⟨a17, cap17, rfl, hc17, hr17⟩
  case o16 =>
    intro dn a w' _ hS hF K hK
    obtain ⟨v17, h17, a17, cap17, rfl, hc17, hr17⟩ := hF.val 14 17 (by kernel_rfl) (by kernel_rfl)
    rw [if_pos (by kernel_rfl)]
    go_simp
    exact hK _ _ _ rfl hS (Below.refl _ _) rfl
  case o17 =>
    intro dn a w' _ hS hF K hK
    obtain ⟨v32, h32, a32, cap32, rfl, hc32, hr32⟩ := hF.val 15 32 (by kernel_rfl) (by kernel_rfl)
    rw [if_pos (by kernel_rfl)]
    go_simp
    exact hK _ _ _ rfl hS (Below.refl _ _) ⟨a32, cap32, rfl, hc32, hr32⟩
  case o18 =>
    intro dn a w' _ hS hF K hK
    obtain ⟨v33, h33, rfl⟩ := hF.val 16 33 (by kernel_rfl) (by kernel_rfl)
    rw [if_pos (by kernel_rfl)]
    go_simp
    exact hK _ _ _ rfl hS (Below.refl _ _) rfl
  case hmono =>
    intro i j v w1 w2 _ _ _ _ ⟨_, hS⟩ hv hR
    rcases i with _ | _ | _ | _ | _ | _ | _ | _ | _ | _ | _ | _ | _ | _ | _ | _ | _ | _ | _ | i
    all_goals first | exact hv | (obtain ⟨b, h1, h2⟩ := hv; exact ⟨b, h1, (hR.block b (Array.getElem?_eq_some_iff.1 h2).1).trans h2⟩) | (obtain ⟨b, j, h1, h2, h3⟩ := hv; exact ⟨b, j, h1, h2, (hR.block b (Array.getElem?_eq_some_iff.1 h3).1).trans h3⟩) | (obtain ⟨a, cap, h1, h2, h3⟩ := hv; exact ⟨a, cap, h1, h2, row_keep hR h3 (Nat.le_refl _)⟩)
  case hend =>
    intro dn w3 vs hS hv
    obtain ⟨a', cap', e17, hc2, hr2⟩ := hv 17 (by decide)
    have e18 : vs 18 = .bool true := hv 18 (by decide)
    clear hv
    simp only [putsL, Nat.reduceAdd, Act.put, List.setIfInBounds_toArray, List.set_cons_zero, List.set_cons_succ, e17, e18]
    have HT := hid (tells_any w3 w.heap.size (hG.below ((hb1.trans (hb2.mono hb1.size)).trans (hS.mono (Nat.le_trans hb1.size hb2.size)))) (Nat.le_trans (Nat.le_trans hb1.size hb2.size) hS.size))
    go_wp2_with fail
    have hcall := HT.out
    go_fit hcall
    clear hcall HT
    rintro e w4 ⟨rfl, hb4⟩
    have HE := hid (kequal_any w4 _ _ 40 [t.dat] a a' 1 1 cap cap' w4 (Below.refl _ _) (by simp) (row_keep (hS.trans (hb4.mono hS.size)) HR1.out (Nat.le_refl _)) (row_keep hb4 hr2 (Nat.le_refl _)))
    go_wp2_with fail
    have hcall := HE.out
    go_fit hcall
    clear hcall HE
    rintro e w5 ⟨rfl, hb5⟩
    go_wp2_with fail
    go_ret
    exact ⟨rfl, (((hb1.trans (hb2.mono hb1.size)).trans (hS.mono (Nat.le_trans hb1.size hb2.size))).trans (hb4.mono (Nat.le_trans (Nat.le_trans hb1.size hb2.size) hS.size))).trans (hb5.mono (Nat.le_trans (Nat.le_trans (Nat.le_trans hb1.size hb2.size) hS.size) hb4.size))⟩
end Go.Proofs.YtfhiolnoalghmaaDoor
