/- ReadBack's walk: a datum is read as it was shown. -/
import Derived.Test.YtfhiolnoalghmaaDoorKQuote
import Derived.Test.YtfhiolnoalghmaaDoorKShow
import Derived.Test.YtfhiolnoalghmaaDoorShows4
namespace Go.Proofs.YtfhiolnoalghmaaDoor
open Go.RowKit
theorem un_read (t : Tx) (h : t.fit = true) (hd : t.dep ≤ 17) (hl : t.pr.length ≤ 250) : readT t.un.pr = .inr [t.dat] ∧ t.un.pr.length ≤ 2000 := by
  have h1 := num_le t h
  have h2 := un_len t
  have h3 := un_num t
  have h4 := un_dep t
  rw [← un_dat t]
  exact ⟨readT_tree t.un (un_ok t (fit_ok t h)) (by omega) (by omega) (by omega), by omega⟩
/-- The head of one datum's row, and what Show and Check say of it. -/
theorem one_datum {w1 w2 : World} {B : Nat} {t : Tx} {a : Option Addr} (hT : TabB w2 B) (h : t.fit = true) (hd : t.dep ≤ 17) (hl : t.pr.length ≤ 250) (hr : RowD w2 (fun b => w1.heap.size ≤ b ∧ b < w2.heap.size) (Dat w2 (fun b => w1.heap.size ≤ b ∧ b < w2.heap.size) 40) [t.dat] a 1) :
    ∃ b o k n s x l cp, a = some ⟨b, o, none⟩ ∧ w2.cell? ⟨b, o, none⟩ = some (.int .i64 k) ∧ w2.cell? ⟨b, o + 1, none⟩ = some (.int .i64 n) ∧ w2.cell? ⟨b, o + 2, none⟩ = some (.string s) ∧ w2.cell? ⟨b, o + 3, none⟩ = some (.slice x l cp) ∧
      (∀ w', Below w2.heap.size w2 w' → Calls Tryd.prog 9 #[.agg #[.int .i64 k, .int .i64 n, .string s, .slice x l cp]] w' fun e w'' => e = .returned (.tuple #[.string ⟨t.un.pr.toArray⟩, .int .i64 0]) ∧ Below w'.heap.size w' w'') ∧
      ∀ w', Below w2.heap.size w2 w' → Calls Tryd.prog 17 #[.agg #[.int .i64 k, .int .i64 n, .string s, .slice x l cp]] w' fun e w'' => e = .returned (.int .i64 0) ∧ Below w'.heap.size w' w'' := by
  obtain ⟨b, o, u0, u1, u2, u3, rfl, hS, c0, c1, c2, c3, hD⟩ := hr.2 0 t.dat rfl
  obtain ⟨k, n, s, x, l, cp, rfl, rfl, rfl, rfl⟩ := hD.shape
  rw [← un_dat t] at hD
  obtain ⟨h1, h2, h3⟩ := told_tree w2 _ (fun b hb => hb.2) t.un 40 k n s x l cp (un_ok t (fit_ok t h)) (un_noq t) (by have := un_dep t; omega) hD
  have hlen := (un_read t h hd hl).2
  refine ⟨b, o, k, n, s, x, l, cp, rfl, by simpa using c0, by simpa using c1, by simpa using c2, by simpa using c3, fun w' hb => ?_, fun w' hb => ?_⟩
  · have := Show_any w2 (hT.elim fun _ k => k.2.2) k n s x l cp w' hb h3 (fun _ => by rw [h1]; omega)
    unfold showE at this
    rw [if_pos h2, h1] at this
    exact this
  · have := check_any w2 k n s x l cp w' hb h3
    rw [h2] at this
    exact this
theorem row_keep3 {w1 w2 w3 : World} {items : List (DataW Unit)} {a : Option Addr} {len : Nat} (hb : Below w2.heap.size w2 w3) (h : RowD w2 (fun b => w1.heap.size ≤ b ∧ b < w2.heap.size) (Dat w2 (fun b => w1.heap.size ≤ b ∧ b < w2.heap.size) 40) items a len) :
    RowD w3 (fun b => w1.heap.size ≤ b ∧ b < w3.heap.size) (Dat w3 (fun b => w1.heap.size ≤ b ∧ b < w3.heap.size) 40) items a len := by
  have hz := hb.size
  refine ⟨h.1, fun i t hi => ?_⟩
  obtain ⟨b, o, u0, u1, u2, u3, rfl, hS, c0, c1, c2, c3, hD⟩ := h.2 i t hi
  have kp : ∀ {q v}, w2.cell? q = some v → w3.cell? q = some v := fun {q v} h => (hb.cell (World.block_lt_of_cell? w2 q h)).trans h
  exact ⟨b, o, u0, u1, u2, u3, rfl, ⟨by omega, by omega⟩, kp c0, kp c1, kp c2, kp c3, Dat.keep (fun b hb' => ⟨hb.block b hb'.2, by omega, by omega⟩) 40 hD⟩
set_option maxRecDepth 100000 in
set_option maxHeartbeats 3000000 in
theorem readBack_walk (ra : Option Addr) (rn rc : Nat) (w : World) (hR : Raws w w.heap.size ra rn) (h1 : rn ≤ rc) (h2 : rc ≤ maxLen) (hG : Globs w w.heap.size) :
    Calls Tryd.prog 5 #[.slice ra rn rc] w fun e w' => e = .returned (.bool true) ∧ Below w.heap.size w w' := by
  have HC := hid (Expr_tree w w.heap.size ra rn rc (Nat.le_refl _) hR h1 h2 hG)
  clear hR h1 h2
  go_enter Tryd.func5, Tryd.ntmps5
  go_wp2_with fail
  have hcall := HC.out
  go_fit hcall
  clear hcall HC
  rintro e w1 ⟨⟨t, rfl, hf, hd, hl⟩, hb1⟩
  have hn2 := num_250 hf hl
  have hok := fit_ok t hf
  obtain ⟨hrd, hln⟩ := un_read t hf hd hl
  have HD1 := hid (data_ok ⟨t.pr.toArray⟩ [t.dat] w1 w.heap.size (hG.below hb1) hb1.size (by rw [sz]; omega) (readT_tree t hok (by omega) (by omega) (by omega)))
  have HD2 := hid (fun w' (hb : Below w.heap.size w w') => data_ok ⟨t.un.pr.toArray⟩ [t.dat] w' w.heap.size (hG.below hb) hb.size (by rw [sz]; omega) hrd)
  go_wp2_with fail
  have hcall := HD1.out
  go_fit hcall
  clear hcall HD1
  rintro e w2 ⟨⟨a, cap, rfl, hc1, _, hr1⟩, hb2⟩
  have hbW := hb1.trans (hb2.mono hb1.size)
  simp only [List.length_cons, List.length_nil] at hc1 hr1
  obtain ⟨b, o, k, n, s, x, l, cp, rfl, c0, c1, c2, c3, hSh, hCk⟩ := one_datum (globs_tab (hG.below hbW)) hf hd hl hr1
  have HSh := hid hSh
  have HCk := hid hCk
  have HR1 := hid hr1
  clear hSh hCk hr1 hf hd hl hrd hok hn2 hln
  generalize t.un.pr = up at HSh HD2
  generalize t.dat = dd at HR1 HD2
  go_wp2_with fail
  have hcall := HSh.out w2 (Below.refl _ _)
  go_fit hcall
  clear hcall HSh
  rintro e w3 ⟨rfl, hb3⟩
  have hbW3 := hbW.trans (hb3.mono hbW.size)
  go_wp2_with fail
  have hcall := HD2.out w3 hbW3
  go_fit hcall
  clear hcall HD2
  rintro e w4 ⟨⟨a', cap', rfl, hc2, _, hr2⟩, hb4⟩
  simp only [List.length_cons, List.length_nil] at hc2 hr2
  have HCk := hid (fun w' (hb : Below w4.heap.size w4 w') => HCk.out w' ((hb3.trans (hb4.mono hb3.size)).trans (hb.mono (Nat.le_trans hb3.size hb4.size))))
  have HK := HCk
  have hbW4 := hbW3.trans (hb4.mono hbW3.size)
  have e0 := c0
  obtain ⟨b2, o2, k2, n2, s2, x2, l2, cp2, b', o', k', n', s', x', l', cp', hae, rfl, f0, f1, f2, f3, d0, d1, d2, d3, hS⟩ := two_data hb4 (row_keep3 hb3 HR1.out) hr2
  injection hae with hae
  injection hae with hae1 hae2
  subst hae1 hae2
  have kp : ∀ {q v}, w2.cell? q = some v → w4.cell? q = some v := fun {q v} h => ((hb3.trans (hb4.mono hb3.size)).cell (World.block_lt_of_cell? w2 q h)).trans h
  have g0 := (kp c0).symm.trans f0
  have g1 := (kp c1).symm.trans f1
  have g2 := (kp c2).symm.trans f2
  have g3 := (kp c3).symm.trans f3
  simp only [Option.some.injEq, Value.int.injEq, Value.string.injEq, Value.slice.injEq, true_and] at g0 g1 g2 g3
  obtain ⟨rfl, rfl, rfl⟩ := g3
  subst g0 g1 g2
  have HS := hid hS
  clear hS hr2 HR1 c0 c1 c2 c3 e0 kp HCk
  have c0 := f0
  have c1 := f1
  have c2 := f2
  have c3 := f3
  clear f0 f1 f2 f3
  have hlb := World.block_lt_of_cell? w4 _ c0
  have hlb' := World.block_lt_of_cell? w4 _ d0
  dsimp only at hlb hlb'
  have hbW := hbW4
  go_wp2_with fail
  refine wp_region_invA (fun _ w' => Below w4.heap.size w4 w') (fun _ w' w'' => Below w'.heap.size w' w'') (fun i v w' => match i with
    | 0 => v = .int .i64 0
    | 1 => v = .bool true
    | 2 => v = .bool true
    | 3 => v = .bool true
    | 4 => v = .bool true
    | 5 => v = .bool true
    | 6 => v = .slice (some ⟨b', o', none⟩) 1 cap'
    | 7 => v = .int .i64 1
    | 8 => v = .bool true
    | 9 => v = .bool true
    | 10 => v = .bool true
    | 11 => v = .slice (some ⟨b, o, none⟩) 1 cap
    | 12 => v = .pointer (some ⟨b, o, none⟩)
    | 13 => v = .agg #[.int .i64 k, .int .i64 n, .string s, .slice x l cp]
    | 14 => v = .slice (some ⟨b', o', none⟩) 1 cap'
    | 15 => v = .pointer (some ⟨b', o', none⟩)
    | 16 => v = .agg #[.int .i64 k', .int .i64 n', .string s', .slice x' l' cp']
    | 17 => v = .bool true
    | 18 => v = .bool true
    | 19 => v = .bool true
    | 20 => v = .slice (some ⟨b, o, none⟩) 1 cap
    | 21 => v = .pointer (some ⟨b, o, none⟩)
    | 22 => v = .agg #[.int .i64 k, .int .i64 n, .string s, .slice x l cp]
    | 23 => v = .int .i64 0
    | 24 => v = .bool true
    | 25 => v = .bool true
    | 26 => v = .bool true
    | _ => True) (by kernel_rfl) (by kernel_rfl) (Below.refl _ _).drew ?hmono ⟨?o0, ?o1, ?o2, ?o3, ?o4, ?o5, ?o6, ?o7, ?o8, ?o9, ?o10, ?o11, ?o12, ?o13, ?o14, ?o15, ?o16, ?o17, ?o18, ?o19, ?o20, ?o21, ?o22, ?o23, ?o24, ?o25, ?o26, trivial⟩ ?hend
  case o0 =>
    intro dn a w' _ hS hF K hK
    have h6 := hF.out 6 (by kernel_rfl) rfl
    rw [if_pos (by kernel_rfl)]
    go_simp
    exact hK _ _ _ rfl hS (Below.refl _ _) rfl
  case o1 =>
    intro dn a w' _ hS hF K hK
    obtain ⟨v34, h34, rfl⟩ := hF.val 0 34 (by kernel_rfl) (by kernel_rfl)
    rw [if_pos (by kernel_rfl)]
    go_simp
    exact hK _ _ _ rfl hS (Below.refl _ _) rfl
  case o2 =>
    intro dn a w' _ hS hF K hK
    obtain ⟨v35, h35, rfl⟩ := hF.val 1 35 (by kernel_rfl) (by kernel_rfl)
    rw [if_pos (by kernel_rfl)]
    go_simp
    exact hK _ _ _ rfl hS (Below.refl _ _) rfl
  case o3 =>
    intro dn a w' _ hS hF K hK
    have h8 := hF.out 8 (by kernel_rfl) rfl
    obtain ⟨v36, h36, rfl⟩ := hF.val 2 36 (by kernel_rfl) (by kernel_rfl)
    rw [if_pos (wanted_yes 2 rfl (by kernel_rfl) h36)]
    go_simp
    exact hK _ _ _ rfl hS (Below.refl _ _) rfl
  case o4 =>
    intro dn a w' _ hS hF K hK
    obtain ⟨v36, h36, rfl⟩ := hF.val 2 36 (by kernel_rfl) (by kernel_rfl)
    obtain ⟨v37, h37, rfl⟩ := hF.val 3 37 (by kernel_rfl) (by kernel_rfl)
    rw [if_pos (by kernel_rfl)]
    go_simp
    exact hK _ _ _ rfl hS (Below.refl _ _) rfl
  case o5 =>
    intro dn a w' _ hS hF K hK
    obtain ⟨v38, h38, rfl⟩ := hF.val 4 38 (by kernel_rfl) (by kernel_rfl)
    rw [if_pos (by kernel_rfl)]
    go_simp
    exact hK _ _ _ rfl hS (Below.refl _ _) rfl
  case o6 =>
    intro dn a w' _ hS hF K hK
    have h7 := hF.out 7 (by kernel_rfl) rfl
    obtain ⟨v39, h39, rfl⟩ := hF.val 5 39 (by kernel_rfl) (by kernel_rfl)
    rw [if_pos (wanted_yes 5 rfl (by kernel_rfl) h39)]
    go_simp
    exact hK _ _ _ rfl hS (Below.refl _ _) rfl
  case o7 =>
    intro dn a w' _ hS hF K hK
    obtain ⟨v40, h40, rfl⟩ := hF.val 6 40 (by kernel_rfl) (by kernel_rfl)
    obtain ⟨v39, h39, rfl⟩ := hF.val 5 39 (by kernel_rfl) (by kernel_rfl)
    rw [if_pos (wanted_yes 5 rfl (by kernel_rfl) h39)]
    go_simp
    exact hK _ _ _ rfl hS (Below.refl _ _) rfl
  case o8 =>
    intro dn a w' _ hS hF K hK
    obtain ⟨v41, h41, rfl⟩ := hF.val 7 41 (by kernel_rfl) (by kernel_rfl)
    obtain ⟨v39, h39, rfl⟩ := hF.val 5 39 (by kernel_rfl) (by kernel_rfl)
    rw [if_pos (wanted_yes 5 rfl (by kernel_rfl) h39)]
    go_simp
    exact hK _ _ _ rfl hS (Below.refl _ _) rfl
  case o9 =>
    intro dn a w' _ hS hF K hK
    obtain ⟨v39, h39, rfl⟩ := hF.val 5 39 (by kernel_rfl) (by kernel_rfl)
    obtain ⟨v42, h42, rfl⟩ := hF.val 8 42 (by kernel_rfl) (by kernel_rfl)
    rw [if_pos (by kernel_rfl)]
    go_simp
    exact hK _ _ _ rfl hS (Below.refl _ _) rfl
  case o10 =>
    intro dn a w' _ hS hF K hK
    obtain ⟨v43, h43, rfl⟩ := hF.val 9 43 (by kernel_rfl) (by kernel_rfl)
    rw [if_pos (by kernel_rfl)]
    go_simp
    exact hK _ _ _ rfl hS (Below.refl _ _) rfl
  case o11 =>
    intro dn a w' _ hS hF K hK
    have h3 := hF.out 3 (by kernel_rfl) rfl
    obtain ⟨v44, h44, rfl⟩ := hF.val 10 44 (by kernel_rfl) (by kernel_rfl)
    rw [if_pos (wanted_yes 10 rfl (by kernel_rfl) h44)]
    go_simp
    exact hK _ _ _ rfl hS (Below.refl _ _) rfl
  case o12 =>
    intro dn a w' _ hS hF K hK
    obtain ⟨v45, h45, rfl⟩ := hF.val 11 45 (by kernel_rfl) (by kernel_rfl)
    obtain ⟨v44, h44, rfl⟩ := hF.val 10 44 (by kernel_rfl) (by kernel_rfl)
    rw [if_pos (wanted_yes 10 rfl (by kernel_rfl) h44)]
    go_simp
    exact hK _ _ _ rfl hS (Below.refl _ _) rfl
  case o13 =>
    intro dn a w' _ hS hF K hK
    obtain ⟨v46, h46, rfl⟩ := hF.val 12 46 (by kernel_rfl) (by kernel_rfl)
    obtain ⟨v44, h44, rfl⟩ := hF.val 10 44 (by kernel_rfl) (by kernel_rfl)
    have c0' := (hS.cell (by dsimp only; omega)).trans c0
    have c1' := (hS.cell (by dsimp only; omega)).trans c1
    have c2' := (hS.cell (by dsimp only; omega)).trans c2
    have c3' := (hS.cell (by dsimp only; omega)).trans c3
    have d0' := (hS.cell (by dsimp only; omega)).trans d0
    have d1' := (hS.cell (by dsimp only; omega)).trans d1
    have d2' := (hS.cell (by dsimp only; omega)).trans d2
    have d3' := (hS.cell (by dsimp only; omega)).trans d3
    rw [if_pos (wanted_yes 10 rfl (by kernel_rfl) h44)]
    go_simp
    exact hK _ _ _ rfl hS (Below.refl _ _) rfl
  case o14 =>
    intro dn a w' _ hS hF K hK
    have h7 := hF.out 7 (by kernel_rfl) rfl
    obtain ⟨v44, h44, rfl⟩ := hF.val 10 44 (by kernel_rfl) (by kernel_rfl)
    rw [if_pos (wanted_yes 10 rfl (by kernel_rfl) h44)]
    go_simp
    exact hK _ _ _ rfl hS (Below.refl _ _) rfl
  case o15 =>
    intro dn a w' _ hS hF K hK
    obtain ⟨v48, h48, rfl⟩ := hF.val 14 48 (by kernel_rfl) (by kernel_rfl)
    obtain ⟨v44, h44, rfl⟩ := hF.val 10 44 (by kernel_rfl) (by kernel_rfl)
    rw [if_pos (wanted_yes 10 rfl (by kernel_rfl) h44)]
    go_simp
    exact hK _ _ _ rfl hS (Below.refl _ _) rfl
  case o16 =>
    intro dn a w' _ hS hF K hK
    obtain ⟨v49, h49, rfl⟩ := hF.val 15 49 (by kernel_rfl) (by kernel_rfl)
    obtain ⟨v44, h44, rfl⟩ := hF.val 10 44 (by kernel_rfl) (by kernel_rfl)
    have c0' := (hS.cell (by dsimp only; omega)).trans c0
    have c1' := (hS.cell (by dsimp only; omega)).trans c1
    have c2' := (hS.cell (by dsimp only; omega)).trans c2
    have c3' := (hS.cell (by dsimp only; omega)).trans c3
    have d0' := (hS.cell (by dsimp only; omega)).trans d0
    have d1' := (hS.cell (by dsimp only; omega)).trans d1
    have d2' := (hS.cell (by dsimp only; omega)).trans d2
    have d3' := (hS.cell (by dsimp only; omega)).trans d3
    rw [if_pos (wanted_yes 10 rfl (by kernel_rfl) h44)]
    go_simp
    exact hK _ _ _ rfl hS (Below.refl _ _) rfl
  case o17 =>
    intro dn a w' _ hS hF K hK
    obtain ⟨v47, h47, rfl⟩ := hF.val 13 47 (by kernel_rfl) (by kernel_rfl)
    obtain ⟨v50, h50, rfl⟩ := hF.val 16 50 (by kernel_rfl) (by kernel_rfl)
    obtain ⟨v44, h44, rfl⟩ := hF.val 10 44 (by kernel_rfl) (by kernel_rfl)
    rw [if_pos (wanted_yes 10 rfl (by kernel_rfl) h44)]
    go_simp
    refine (HS.out w' hS).mono ?_
    rintro e w'' ⟨rfl, hb4⟩
    exact hK _ _ _ rfl (hS.trans (hb4.mono hS.size)) hb4 rfl
  case o18 =>
    intro dn a w' _ hS hF K hK
    obtain ⟨v44, h44, rfl⟩ := hF.val 10 44 (by kernel_rfl) (by kernel_rfl)
    obtain ⟨v51, h51, rfl⟩ := hF.val 17 51 (by kernel_rfl) (by kernel_rfl)
    rw [if_pos (by kernel_rfl)]
    go_simp
    exact hK _ _ _ rfl hS (Below.refl _ _) rfl
  case o19 =>
    intro dn a w' _ hS hF K hK
    obtain ⟨v52, h52, rfl⟩ := hF.val 18 52 (by kernel_rfl) (by kernel_rfl)
    rw [if_pos (by kernel_rfl)]
    go_simp
    exact hK _ _ _ rfl hS (Below.refl _ _) rfl
  case o20 =>
    intro dn a w' _ hS hF K hK
    have h3 := hF.out 3 (by kernel_rfl) rfl
    obtain ⟨v53, h53, rfl⟩ := hF.val 19 53 (by kernel_rfl) (by kernel_rfl)
    rw [if_pos (wanted_yes 19 rfl (by kernel_rfl) h53)]
    go_simp
    exact hK _ _ _ rfl hS (Below.refl _ _) rfl
  case o21 =>
    intro dn a w' _ hS hF K hK
    obtain ⟨v54, h54, rfl⟩ := hF.val 20 54 (by kernel_rfl) (by kernel_rfl)
    obtain ⟨v53, h53, rfl⟩ := hF.val 19 53 (by kernel_rfl) (by kernel_rfl)
    rw [if_pos (wanted_yes 19 rfl (by kernel_rfl) h53)]
    go_simp
    exact hK _ _ _ rfl hS (Below.refl _ _) rfl
  case o22 =>
    intro dn a w' _ hS hF K hK
    obtain ⟨v55, h55, rfl⟩ := hF.val 21 55 (by kernel_rfl) (by kernel_rfl)
    obtain ⟨v53, h53, rfl⟩ := hF.val 19 53 (by kernel_rfl) (by kernel_rfl)
    have c0' := (hS.cell (by dsimp only; omega)).trans c0
    have c1' := (hS.cell (by dsimp only; omega)).trans c1
    have c2' := (hS.cell (by dsimp only; omega)).trans c2
    have c3' := (hS.cell (by dsimp only; omega)).trans c3
    have d0' := (hS.cell (by dsimp only; omega)).trans d0
    have d1' := (hS.cell (by dsimp only; omega)).trans d1
    have d2' := (hS.cell (by dsimp only; omega)).trans d2
    have d3' := (hS.cell (by dsimp only; omega)).trans d3
    rw [if_pos (wanted_yes 19 rfl (by kernel_rfl) h53)]
    go_simp
    exact hK _ _ _ rfl hS (Below.refl _ _) rfl
  case o23 =>
    intro dn a w' _ hS hF K hK
    obtain ⟨v56, h56, rfl⟩ := hF.val 22 56 (by kernel_rfl) (by kernel_rfl)
    obtain ⟨v53, h53, rfl⟩ := hF.val 19 53 (by kernel_rfl) (by kernel_rfl)
    rw [if_pos (wanted_yes 19 rfl (by kernel_rfl) h53)]
    go_simp
    refine (HK.out w' hS).mono ?_
    rintro e w'' ⟨rfl, hb4⟩
    exact hK _ _ _ rfl (hS.trans (hb4.mono hS.size)) hb4 rfl
  case o24 =>
    intro dn a w' _ hS hF K hK
    obtain ⟨v57, h57, rfl⟩ := hF.val 23 57 (by kernel_rfl) (by kernel_rfl)
    obtain ⟨v53, h53, rfl⟩ := hF.val 19 53 (by kernel_rfl) (by kernel_rfl)
    rw [if_pos (wanted_yes 19 rfl (by kernel_rfl) h53)]
    go_simp
    exact hK _ _ _ rfl hS (Below.refl _ _) rfl
  case o25 =>
    intro dn a w' _ hS hF K hK
    obtain ⟨v53, h53, rfl⟩ := hF.val 19 53 (by kernel_rfl) (by kernel_rfl)
    obtain ⟨v58, h58, rfl⟩ := hF.val 24 58 (by kernel_rfl) (by kernel_rfl)
    rw [if_pos (by kernel_rfl)]
    go_simp
    exact hK _ _ _ rfl hS (Below.refl _ _) rfl
  case o26 =>
    intro dn a w' _ hS hF K hK
    obtain ⟨v59, h59, rfl⟩ := hF.val 25 59 (by kernel_rfl) (by kernel_rfl)
    rw [if_pos (by kernel_rfl)]
    go_simp
    exact hK _ _ _ rfl hS (Below.refl _ _) rfl
  case hmono =>
    intro i j v w1 w2 _ _ _ _ _ hv _
    exact hv
  case hend =>
    intro dn w5 vs hS hv
    have hvL : vs 26 = .bool true := hv 26 (by decide)
    clear hv
    simp only [putsL, Nat.reduceAdd, Act.put, List.setIfInBounds_toArray, List.set_cons_zero, List.set_cons_succ, hvL]
    go_wp2
    go_ret
    exact ⟨rfl, hbW.trans (hS.mono hbW.size)⟩
end Go.Proofs.YtfhiolnoalghmaaDoor
