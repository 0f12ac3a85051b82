/- The bard's expression, case leaf. -/
import Derived.Test.YtdfmimgjdchafaaGreatDoorBSub
import Derived.Deep.Cut
namespace Go.Proofs.YtdfmimgjdchafaaGreatDoor
set_option maxRecDepth 100000
open Go.RowKit
set_option linter.unusedVariables false
set_option linter.unusedSimpArgs false
set_option maxRecDepth 100000 in
set_option maxHeartbeats 4000000 in
theorem expr_leaf {B bb m : Nat} (w : World) (lv : Value) (names : List ByteArray) (d k x y z : Int) (hd0 : d ≤ 0) (hm : m ≤ 1000) (hB : B ≤ w.heap.size) (h : Bard w B bb lv names) (hT : TabB w B) (hN : NamesOk names m)
    (hx_k : i64B k) (hx_x : i64B x) (hx_y : i64B y) (hx_z : i64B z)
    (HN0 : Calls Tryz.prog 31 #[.pointer (some ⟨bb, 0, none⟩)] ((w.alloc (.cells #[.pointer (some ⟨bb, 0, none⟩)] 59)).alloc (.cells #[.int .i64 d] 3)) fun e w' => e = .returned (.agg #[.int .i64 k, .int .i64 x, .int .i64 y, .int .i64 z]) ∧ Bard w' B bb lv names ∧ Kept bb none ((w.alloc (.cells #[.pointer (some ⟨bb, 0, none⟩)] 59)).alloc (.cells #[.int .i64 d] 3)) w') :
    Calls Tryz.prog 17 #[.pointer (some ⟨bb, 0, none⟩), .int .i64 d] w fun e w' => (∃ v, e = .returned v ∧ InL (Tr 2 20) v) ∧ Stp B bb names names w w' := by
  have hlt := h.lt
  generalize hW1 : (w.alloc (.cells #[.pointer (some ⟨bb, 0, none⟩)] 59)).alloc (.cells #[.int .i64 d] 3) = W1 at HN0
  have hbel1 : Below w.heap.size w W1 := by rw [← hW1]; exact ((Below.refl _ _).alloc (Nat.le_refl _) _).alloc (by simp) _
  have hB1 : Bard W1 B bb lv names := h.keep hB hbel1
  have HN := hid HN0
  clear HN0
  have hsz : W1.heap.size = w.heap.size + 2 := by rw [← hW1]; simp
  have b0 : W1.cell? ⟨w.heap.size, 0, none⟩ = some (.pointer (some ⟨bb, 0, none⟩)) := by rw [← hW1, World.cell?_alloc_past _ _ _ (by simp), World.cell?_alloc_at _ _ _ _ rfl]; rfl
  have b1 : W1.cell? ⟨w.heap.size + 1, 0, none⟩ = some (.int .i64 d) := by rw [← hW1, World.cell?_alloc_at _ _ _ _ (by simp)]; rfl
  have hT1 : TabB W1 B := hT.below (hbel1.mono hB)
  have HNO := hid hN
  have HB := hid h
  clear hN
  go_enter Tryz.func17, Tryz.ntmps17
  go_wp2_with fail
  have hcall := HN.out
  go_fit hcall
  clear hcall
  rintro e w1 ⟨rfl, hb1, hK1⟩
  have hz1 := hK1.size
  have b0' := (hK1.cell (p := ⟨w.heap.size, 0, none⟩) (by simp only; omega) (by simp only; omega) (by simp)).trans b0
  have b1' := (hK1.cell (p := ⟨w.heap.size + 1, 0, none⟩) (by simp only; omega) (by simp only; omega) (by simp)).trans b1
  have hT2 : TabB w1 B := hT1.below (hK1.below h.own (fun g hg => by cases hg) (by omega))
  have hq0 : w.heap.size < w1.heap.size := by omega
  have hq1 : w.heap.size + 1 < w1.heap.size := by omega
  go_wp2_with fail
  have hO := h.own
  generalize hW2 : w1.alloc (.cells #[.int .i64 k, .int .i64 x, .int .i64 y, .int .i64 z] 46) = W2
  have hbel2 : Below w1.heap.size w1 W2 := by rw [← hW2]; exact (Below.refl _ _).alloc (Nat.le_refl _) _
  have hS12 : Stp B bb names names w W2 := by
    intro l hl
    obtain rfl := h.det hl
    exact ⟨lv, hb1.keep (by omega) hbel2, ((Kept.of_below hbel1 (Nat.le_refl _)).trans (row := lv.ownBlock) (row' := lv.ownBlock) ⟨hK1.os, hK1.tape, hK1.output, hK1.size, fun k hk h1 _ => hK1.block k hk h1 (by simp)⟩ (fun g hg => Or.inl hg)).trans (row' := none) (Kept.of_below hbel2 (Nat.le_refl _)) (by simp), fun g hg => Or.inl hg⟩
  have hB2 : Bard W2 B bb lv names := hb1.keep (by omega) hbel2
  have hrow := fun g hg => (h.row_ge (g := g) hg).2
  have apt : ∀ b, w.heap.size ≤ b → b < W2.heap.size → Apart B bb b W2 := fun b h1 h2 => ⟨h2, by omega, fun l _ k e => by
    obtain rfl := hB2.det k
    have := hrow b e
    omega⟩
  have hz2 : w1.heap.size < W2.heap.size := by rw [← hW2]; simp
  have D0 : Hid (Desk W2 B bb names w.heap.size w1.heap.size d k x y z) := hid
    ⟨⟨lv, hB2⟩, hT2.below (hbel2.mono (by omega)), (hbel2.cell (p := ⟨w.heap.size, 0, none⟩) hq0).trans b0', (hbel2.cell (p := ⟨w.heap.size + 1, 0, none⟩) hq1).trans b1',
      by rw [← hW2, World.cell?_alloc_at _ _ _ _ rfl]; rfl, by rw [← hW2, World.cell?_alloc_at _ _ _ _ rfl]; rfl, by rw [← hW2, World.cell?_alloc_at _ _ _ _ rfl]; rfl, by rw [← hW2, World.cell?_alloc_at _ _ _ _ rfl]; rfl,
      apt _ (by omega) (by omega), apt _ (by omega) (by omega), apt _ (by omega) (by omega), by omega⟩
  have S0 := hid hS12
  clear hW1 hW2 HN b0 b1 b0' b1' hT hT1 hT2 hb1 hK1 hbel1 hbel2 hB1 hB2 apt hrow hS12 hq0 hq1 hz1 hsz hlt hz2 hO
  generalize w.heap.size = p at *
  generalize w1.heap.size = q at *
  have hN := HNO.out
  have hD : 2 ≤ 2 := Nat.le_refl _
  have hM : 20 ≤ 20 := Nat.le_refl _
  refine wp_region_invA (fun _ w' => Desk w' B bb names p q d k x y z ∧ Stp B bb names names w w') (fun _ => Stp B bb names names) (fun i v w' => match i with
    | 0 => v = .pointer (some ⟨q, 1, none⟩)
    | 1 => v = .int .i64 x
    | 2 => ∃ j : Nat, v = .int .i64 j ∧ j < 12
    | 3 => ∃ z : Int, v = .int .i64 z ∧ -2 ≤ z ∧ z ≤ 9
    | 4 => InL (Tr 2 20) v
    | 5 => v = .pointer (some ⟨bb, 0, none⟩)
    | 6 => v = .pointer (some ⟨q, 1, none⟩)
    | 7 => v = .int .i64 x
    | 8 => InL (Tr 2 20) v
    | 9 => ∃ b, v = .slice (some ⟨b, 0, none⟩) 6 6 ∧ RowT B bb b 6 2 20 w'
    | 10 => v = .pointer (some ⟨q, 0, none⟩)
    | 11 => v = .int .i64 k
    | 12 => ∃ j : Nat, v = .int .i64 j ∧ j < 6
    | 13 => ∃ b j, v = .pointer (some ⟨b, j, none⟩) ∧ j < 6 ∧ RowT B bb b 6 2 20 w'
    | 14 => InL (Tr 2 20) v
    | 15 => InL (Tr 2 20) v
    | _ => True) (by kernel_rfl) (by kernel_rfl) ?hst ?hmono ⟨?o0, ?o1, ?o2, ?o3, ?o4, ?o5, ?o6, ?o7, ?o8, ?o9, ?o10, ?o11, ?o12, ?o13, ?o14, ?o15, trivial⟩ ?hend
  case hst => exact ⟨D0.out.step (Stp.of_below D0.out.size (drewN_below _ 1)), S0.out.trans (Stp.of_below D0.out.size (drewN_below _ 1))⟩
  case hmono =>
    intro i j v w1 w2 _ _ _ _ ⟨_, hS⟩ hv hR
    obtain ⟨l, hl⟩ := hS.1.bard
    rcases i with _ | _ | _ | _ | _ | _ | _ | _ | _ | _ | _ | _ | _ | _ | _ | _ | i
    all_goals first | exact hv | (obtain ⟨b, h1, h2⟩ := hv; exact ⟨b, h1, h2.step hR hl⟩) | (obtain ⟨b, j, h1, h2, h3⟩ := hv; exact ⟨b, j, h1, h2, h3.step hR hl⟩)
  case o0 =>
    intro dn a w' _ hS hF K hK
    have h5 := hF.out 5 (by kernel_rfl) rfl
    rw [if_pos (by kernel_rfl)]
    go_simp
    exact hK _ _ _ rfl hS (Stp.refl _ _ _ _) rfl
  case o1 =>
    intro dn a w' _ hS hF K hK
    obtain ⟨v17, h17, rfl⟩ := hF.val 0 17 (by kernel_rfl) (by kernel_rfl)
    have hc := hS.1.c1
    rw [if_pos (by kernel_rfl)]
    go_simp
    exact hK _ _ _ rfl hS (Stp.refl _ _ _ _) rfl
  case o2 =>
    intro dn a w' _ hS hF K hK
    obtain ⟨v18, h18, rfl⟩ := hF.val 1 18 (by kernel_rfl) (by kernel_rfl)
    rw [if_pos (by kernel_rfl)]
    go_simp
    refine (picked_any x 12 w' hx_x.1 hx_x.2 (by omega) (by omega)).mono ?_
    rintro e w'' ⟨rfl, rfl⟩
    obtain ⟨j, hj, hjl⟩ := pick_nat x 12 (by omega)
    rw [hj]
    exact hK _ _ _ rfl hS (Stp.refl _ _ _ _) ⟨j, rfl, by omega⟩
  case o3 =>
    intro dn a w' _ hS hF K hK
    obtain ⟨v19, h19, j19, rfl, hj19⟩ := hF.val 2 19 (by kernel_rfl) (by kernel_rfl)
    rw [if_pos (by kernel_rfl)]
    have hwr : IntKind.i64.wrap ((j19 : Int) - 2) = (j19 : Int) - 2 := by rw [IntKind.wrap_i64]; omega
    go_simp
    exact hK _ _ _ rfl hS (Stp.refl _ _ _ _) ⟨_, rfl, by omega, by omega⟩
  case o4 =>
    intro dn a w' _ hS hF K hK
    obtain ⟨v20, h20, z20, rfl, hz20, hy20⟩ := hF.val 3 20 (by kernel_rfl) (by kernel_rfl)
    rw [if_pos (by kernel_rfl)]
    go_simp
    refine (bItoa z20 (by omega) (by omega) w' hS.1.tab).mono ?_
    rintro e w'' ⟨rfl, hb⟩
    have hs := Stp.of_below (bb := bb) (names := names) hS.1.size hb
    exact hK _ _ _ rfl ⟨hS.1.step hs, hS.2.trans hs⟩ hs (itoa_ok hD hM _ (by omega) (by omega))
  case o5 =>
    intro dn a w' _ hS hF K hK
    have h2 := hF.out 2 (by kernel_rfl) rfl
    have hc := hS.1.box
    rw [if_pos (by kernel_rfl)]
    go_simp
    exact hK _ _ _ rfl hS (Stp.refl _ _ _ _) rfl
  case o6 =>
    intro dn a w' _ hS hF K hK
    have h5 := hF.out 5 (by kernel_rfl) rfl
    rw [if_pos (by kernel_rfl)]
    go_simp
    exact hK _ _ _ rfl hS (Stp.refl _ _ _ _) rfl
  case o7 =>
    intro dn a w' _ hS hF K hK
    obtain ⟨v23, h23, rfl⟩ := hF.val 6 23 (by kernel_rfl) (by kernel_rfl)
    have hc := hS.1.c1
    rw [if_pos (by kernel_rfl)]
    go_simp
    exact hK _ _ _ rfl hS (Stp.refl _ _ _ _) rfl
  case o8 =>
    intro dn a w' _ hS hF K hK
    obtain ⟨v22, h22, rfl⟩ := hF.val 5 22 (by kernel_rfl) (by kernel_rfl)
    obtain ⟨v24, h24, rfl⟩ := hF.val 7 24 (by kernel_rfl) (by kernel_rfl)
    rw [if_pos (by kernel_rfl)]
    obtain ⟨l, hl⟩ := hS.1.bard
    go_simp
    refine (local_any w' B bb l names x hl hN.pos (Nat.le_trans hN.len (by omega)) hx_x).mono ?_
    rintro e w'' ⟨⟨nm, hnm, rfl⟩, m, rfl⟩
    have hs := Stp.of_below (bb := bb) (names := names) hS.1.size (drewN_below w' m)
    exact hK _ _ _ rfl ⟨hS.1.step hs, hS.2.trans hs⟩ hs ((hN.ok nm hnm).tr hD hM)
  case o9 =>
    intro dn a w' _ hS hF K hK
    obtain ⟨v21, h21, hl21⟩ := hF.val 4 21 (by kernel_rfl) (by kernel_rfl)
    obtain ⟨s21, rfl⟩ := inL_str hl21
    obtain ⟨v25, h25, hl25⟩ := hF.val 8 25 (by kernel_rfl) (by kernel_rfl)
    obtain ⟨s25, rfl⟩ := inL_str hl25
    rw [if_pos (by kernel_rfl)]
    obtain ⟨l, hl⟩ := hS.1.bard
    go_simp
    have hs := Stp.of_below (bb := bb) (names := names) hS.1.size ((Below.refl w'.heap.size w').alloc (Nat.le_refl _) (.cells #[.string s21, .string s25, .string ⟨#[120]⟩, .string ⟨#[121]⟩, .string ⟨#[35, 116]⟩, .string ⟨#[39, 40, 41]⟩] 9))
    refine hK _ _ _ rfl ⟨hS.1.step hs, hS.2.trans hs⟩ hs ⟨_, rfl, _, ⟨heap_alloc_new w' _, Apart.new hl hS.1.size _⟩, rfl, row_of ⟨hl21, hl25, word_ok hD hM [120] (by decide +kernel), word_ok hD hM [121] (by decide +kernel), word_ok hD hM [35, 116] (by decide +kernel), tree_ok (.q (.l [])) [39, 40, 41] rfl rfl (by simp [Tx.dep, Tx.deps] <;> omega) (by simp <;> omega), trivial⟩⟩
  case o10 =>
    intro dn a w' _ hS hF K hK
    have h5 := hF.out 5 (by kernel_rfl) rfl
    rw [if_pos (by kernel_rfl)]
    go_simp
    exact hK _ _ _ rfl hS (Stp.refl _ _ _ _) rfl
  case o11 =>
    intro dn a w' _ hS hF K hK
    obtain ⟨v27, h27, rfl⟩ := hF.val 10 27 (by kernel_rfl) (by kernel_rfl)
    have hc := hS.1.c0
    rw [if_pos (by kernel_rfl)]
    go_simp
    exact hK _ _ _ rfl hS (Stp.refl _ _ _ _) rfl
  case o12 =>
    intro dn a w' _ hS hF K hK
    obtain ⟨v28, h28, rfl⟩ := hF.val 11 28 (by kernel_rfl) (by kernel_rfl)
    rw [if_pos (by kernel_rfl)]
    go_simp
    refine (picked_any k 6 w' hx_k.1 hx_k.2 (by omega) (by omega)).mono ?_
    rintro e w'' ⟨rfl, rfl⟩
    obtain ⟨j, hj, hjl⟩ := pick_nat k 6 (by omega)
    rw [hj]
    exact hK _ _ _ rfl hS (Stp.refl _ _ _ _) ⟨j, rfl, by omega⟩
  case o13 =>
    intro dn a w' _ hS hF K hK
    obtain ⟨v26, h26, b26, rfl, hr26⟩ := hF.val 9 26 (by kernel_rfl) (by kernel_rfl)
    obtain ⟨v29, h29, j29, rfl, hj29⟩ := hF.val 12 29 (by kernel_rfl) (by kernel_rfl)
    have hj' : (j29 : Int) < 6 := by omega
    rw [if_pos (by kernel_rfl)]
    go_simp
    exact hK _ _ _ rfl hS (Stp.refl _ _ _ _) ⟨b26, j29, rfl, by omega, hr26⟩
  case o14 =>
    intro dn a w' _ hS hF K hK
    obtain ⟨v30, h30, b30, j30, rfl, hj30, hr30⟩ := hF.val 13 30 (by kernel_rfl) (by kernel_rfl)
    obtain ⟨u, hc, hu⟩ := hr30.cell hj30
    rw [if_pos (by kernel_rfl)]
    go_simp
    exact hK _ _ _ rfl hS (Stp.refl _ _ _ _) hu
  case o15 =>
    intro dn a w' _ hS hF K hK
    obtain ⟨v31, h31, hl31⟩ := hF.val 14 31 (by kernel_rfl) (by kernel_rfl)
    obtain ⟨s31, rfl⟩ := inL_str hl31
    rw [if_pos (by kernel_rfl)]
    go_simp
    exact hK _ _ _ rfl hS (Stp.refl _ _ _ _) hl31
  case hend =>
    intro dn w' vs hS hv
    have hvL : InL (Tr 2 20) (vs 15) := hv 15 (by decide)
    clear hv
    simp only [putsL, Nat.reduceAdd, Act.put, List.setIfInBounds_toArray, List.set_cons_zero, List.set_cons_succ]
    generalize vs 15 = vL at hvL ⊢
    obtain ⟨s, rfl⟩ := inL_str hvL
    go_wp2
    go_ret
    exact ⟨⟨_, rfl, hvL⟩, hS.2⟩
end Go.Proofs.YtdfmimgjdchafaaGreatDoor
