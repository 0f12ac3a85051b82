/- ReadQuote's walk: a quote is read as a list of two. -/
import Derived.Test.YtfhiolnoalghmaaDoorBFull
import Derived.Test.YtfhiolnoalghmaaDoorKData
import Derived.Test.YtfhiolnoalghmaaDoorKSame
import Derived.Test.YtfhiolnoalghmaaDoorLaid
namespace Go.Proofs.YtfhiolnoalghmaaDoor
open Go.RowKit
theorem globs_tab {w : World} {B : Nat} (h : Globs w B) : TabB w B := h.tab
/-- Expr, its tree named. -/
theorem Expr_tree (w : World) (B : Nat) (ra : Option Addr) (rn rc : Nat) (hB : B ≤ w.heap.size) (hR : Raws w B ra rn) (h1 : rn ≤ rc) (h2 : rc ≤ maxLen) (hG : Globs w B) :
    Calls Tryd.prog 15 #[.slice ra rn rc] w fun e w' => (∃ t : Tx, e = .returned (.string ⟨t.pr.toArray⟩) ∧ t.fit = true ∧ t.dep ≤ 17 ∧ t.pr.length ≤ 250) ∧ Below B w w' := by
  refine (Expr_any w B ra rn rc hB hR h1 h2 (globs_tab hG)).mono ?_
  rintro e w' ⟨⟨v, rfl, l, rfl, t, rfl, h3, h4, h5⟩, hb⟩
  exact ⟨⟨t, rfl, h3, h4, h5⟩, hb⟩
theorem num_250 {t : Tx} (h : t.fit = true) (hl : t.pr.length ≤ 250) : t.num ≤ 250 := by
  have := num_le t h
  omega
theorem wordD_quote : wordD [113, 117, 111, 116, 101] = .lit (.string [113, 117, 111, 116, 101]) := by kernel_rfl
def quoted (t : Tx) : Tx := .l [.w [113, 117, 111, 116, 101], t]
theorem quoted_dat (t : Tx) : (quoted t).dat = (Tx.q t).dat := by
  simp only [quoted, Tx.dat, Tx.dats, wordD_quote, quoteT]
theorem quoted_read (t : Tx) (h : t.fit = true) (hd : t.dep ≤ 17) (hl : t.pr.length ≤ 250) : readT (Tx.q t).pr = .inr [(Tx.q t).dat] ∧ readT (quoted t).pr = .inr [(Tx.q t).dat] := by
  have hn := num_250 h hl
  have hok := fit_ok t h
  refine ⟨readT_tree _ (by simpa [Tx.ok] using hok) (by simp only [Tx.dep]; omega) (by simp only [Tx.num]; omega) (by simp only [Tx.pr, List.length_cons]; omega), ?_⟩
  rw [← quoted_dat]
  refine readT_tree _ (by simp only [quoted, Tx.ok, Tx.oks, hok, Bool.and_true]; decide +kernel) (by simp only [quoted, Tx.dep, Tx.deps]; omega) (by simp only [quoted, Tx.num, Tx.nums]; omega) ?_
  simp only [quoted, Tx.pr, Tx.prs, List.length_cons, List.length_append, List.length_nil]
  omega
theorem quoted_pr (t : Tx) : (quoted t).pr = [40, 113, 117, 111, 116, 101, 32] ++ t.pr ++ [41] := by simp [quoted, Tx.pr, Tx.prs]
theorem sz (l : List UInt8) : (ByteArray.mk l.toArray).size = l.length := by show l.toArray.size = _; simp
/-- Two rows of one datum each, the same: the heads of both, and what sameDatum says of them. -/
theorem two_data {w1 w2 w3 : World} {dd : DataW Unit} {a a' : Option Addr} (hb : Below w2.heap.size w2 w3)
    (h : RowD w2 (fun b => w1.heap.size ≤ b ∧ b < w2.heap.size) (Dat w2 (fun b => w1.heap.size ≤ b ∧ b < w2.heap.size) 40) [dd] a 1)
    (h' : RowD w3 (fun b => w2.heap.size ≤ b ∧ b < w3.heap.size) (Dat w3 (fun b => w2.heap.size ≤ b ∧ b < w3.heap.size) 40) [dd] a' 1) :
    ∃ b o k n s x l cp b' o' k' n' s' x' l' cp', a = some ⟨b, o, none⟩ ∧ a' = some ⟨b', o', none⟩ ∧ w3.cell? ⟨b, o, none⟩ = some (.int .i64 k) ∧ w3.cell? ⟨b, o + 1, none⟩ = some (.int .i64 n) ∧ w3.cell? ⟨b, o + 2, none⟩ = some (.string s) ∧ w3.cell? ⟨b, o + 3, none⟩ = some (.slice x l cp) ∧
      w3.cell? ⟨b', o', none⟩ = some (.int .i64 k') ∧ w3.cell? ⟨b', o' + 1, none⟩ = some (.int .i64 n') ∧ w3.cell? ⟨b', o' + 2, none⟩ = some (.string s') ∧ w3.cell? ⟨b', o' + 3, none⟩ = some (.slice x' l' cp') ∧
      ∀ w4, Below w3.heap.size w3 w4 → Calls Tryd.prog 16 #[.agg #[.int .i64 k, .int .i64 n, .string s, .slice x l cp], .agg #[.int .i64 k', .int .i64 n', .string s', .slice x' l' cp']] w4 fun e w' => e = .returned (.bool true) ∧ Below w4.heap.size w4 w' := by
  obtain ⟨b, o, u0, u1, u2, u3, rfl, hS, c0, c1, c2, c3, hD⟩ := h.2 0 dd rfl
  obtain ⟨b', o', v0, v1, v2, v3, rfl, hS', c0', c1', c2', c3', hD'⟩ := h'.2 0 dd rfl
  obtain ⟨k, n, s, x, l, cp, rfl, rfl, rfl, rfl⟩ := hD.shape
  obtain ⟨k', n', s', x', l', cp', rfl, rfl, rfl, rfl⟩ := hD'.shape
  have kp : ∀ {q v}, w2.cell? q = some v → w3.cell? q = some v := fun {q v} h => (hb.cell (World.block_lt_of_cell? w2 q h)).trans h
  have hD3 := Dat.keep (S' := fun b => w1.heap.size ≤ b ∧ b < w2.heap.size) (fun b hb' => ⟨hb.block b hb'.2, hb'⟩) 40 hD
  refine ⟨b, o, k, n, s, x, l, cp, b', o', k', n', s', x', l', cp', rfl, rfl, ?_, ?_, ?_, ?_, ?_, ?_, ?_, ?_, fun w4 h4 => ksame_any w3 _ _ 40 dd k k' n n' s s' x x' l l' cp cp' w4 h4 hD3 hD'⟩
  · simpa using kp c0
  · simpa using kp c1
  · simpa using kp c2
  · simpa using kp c3
  · simpa using c0'
  · simpa using c1'
  · simpa using c2'
  · simpa using c3'
set_option maxRecDepth 100000 in
set_option maxHeartbeats 2000000 in
theorem readQuote_walk (ra : Option Addr) (rn rc : Nat) (w : World) (hR : Raws w w.heap.size ra rn) (h1 : rn ≤ rc) (h2 : rc ≤ maxLen) (hG : Globs w w.heap.size) :
    Calls Tryd.prog 8 #[.slice ra rn rc] w fun e w' => e = .returned (.bool true) ∧ Below w.heap.size w w' := by
  have HC := hid (Expr_tree w w.heap.size ra rn rc (Nat.le_refl _) hR h1 h2 hG)
  clear hR h1 h2
  go_enter Tryd.func8, Tryd.ntmps8
  go_wp2_with fail
  have hcall := HC.out
  go_fit hcall
  clear hcall HC
  rintro e w1 ⟨⟨t, rfl, hf, hd, hl⟩, hb1⟩
  obtain ⟨r1, r2⟩ := quoted_read t hf hd hl
  have e1 : ByteArray.mk #[39] ++ ByteArray.mk t.pr.toArray = ⟨(Tx.q t).pr.toArray⟩ := by rw [show (ByteArray.mk #[39]) = ⟨[39].toArray⟩ from rfl, byt_app]; rfl
  have e2 : ByteArray.mk #[40, 113, 117, 111, 116, 101, 32] ++ ByteArray.mk t.pr.toArray ++ ByteArray.mk #[41] = ⟨(quoted t).pr.toArray⟩ := by
    rw [show (ByteArray.mk #[40, 113, 117, 111, 116, 101, 32]) = ⟨[40, 113, 117, 111, 116, 101, 32].toArray⟩ from rfl, show (ByteArray.mk #[41]) = ⟨[41].toArray⟩ from rfl, byt_app, byt_app, quoted_pr]
  have hq1 : (Tx.q t).pr.length ≤ 251 := by simp only [Tx.pr, List.length_cons]; omega
  have hq2 : (quoted t).pr.length ≤ 258 := by rw [quoted_pr]; simp only [List.length_append, List.length_cons, List.length_nil]; omega
  have HD1 := hid (data_ok ⟨(Tx.q t).pr.toArray⟩ [(Tx.q t).dat] w1 w.heap.size (hG.below hb1) hb1.size (by rw [sz]; omega) r1)
  have HD2 := hid (fun w2 (hb : Below w1.heap.size w1 w2) => data_ok ⟨(quoted t).pr.toArray⟩ [(Tx.q t).dat] w2 w.heap.size (hG.below (hb1.trans (hb.mono hb1.size))) (Nat.le_trans hb1.size hb.size) (by rw [sz]; omega) r2)
  have hl1 : ¬ 9223372036854775807 < 1 + t.pr.length := by omega
  have hl2 : ¬ 9223372036854775807 < 7 + t.pr.length := by omega
  have hl3 : ¬ 9223372036854775807 < 7 + t.pr.length + 1 := by omega
  clear r1 r2 hf hd hl hq1 hq2
  generalize (Tx.q t).dat = dd at HD1 HD2
  go_wp2_with fail
  have hcall := HD1.out
  rw [← e1] at hcall
  go_fit hcall
  clear hcall HD1
  rintro e w2 ⟨⟨a, cap, rfl, hc1, _, hr1⟩, hb2⟩
  have HR1 := hid hr1
  clear hr1
  have hcall := HD2.out w2 hb2
  rw [← e2] at hcall
  clear HD2 e1 e2
  go_wp2_with fail
  go_fit hcall
  clear hcall
  rintro e w3 ⟨⟨a', cap', rfl, hc2, _, hr2⟩, hb3⟩
  obtain ⟨b, o, k, n, s, x, l, cp, b', o', k', n', s', x', l', cp', rfl, rfl, c0, c1, c2, c3, d0, d1, d2, d3, hS⟩ := two_data hb3 HR1.out hr2
  have HS := hid hS
  clear hS hr2 HR1
  simp only [List.length_cons, List.length_nil] at hc1 hc2
  have hlb := World.block_lt_of_cell? w3 _ c0
  have hlb' := World.block_lt_of_cell? w3 _ d0
  dsimp only at hlb hlb'
  go_wp2_with fail
  refine wp_region_invA (fun _ w' => Below w3.heap.size w3 w') (fun _ w' w'' => Below w'.heap.size w' w'') (fun i v w' => match i with
    | 0 => v = .bool true
    | 1 => v = .bool true
    | 2 => v = .bool true
    | 3 => v = .bool true
    | 4 => v = .bool true
    | 5 => v = .slice (some ⟨b, o, none⟩) 1 cap
    | 6 => v = .int .i64 1
    | 7 => v = .bool true
    | 8 => v = .bool true
    | 9 => v = .bool true
    | 10 => v = .slice (some ⟨b', o', none⟩) 1 cap'
    | 11 => v = .int .i64 1
    | 12 => v = .bool true
    | 13 => v = .bool true
    | 14 => v = .bool true
    | 15 => v = .slice (some ⟨b, o, none⟩) 1 cap
    | 16 => v = .pointer (some ⟨b, o, none⟩)
    | 17 => v = .agg #[.int .i64 k, .int .i64 n, .string s, .slice x l cp]
    | 18 => v = .slice (some ⟨b', o', none⟩) 1 cap'
    | 19 => v = .pointer (some ⟨b', o', none⟩)
    | 20 => v = .agg #[.int .i64 k', .int .i64 n', .string s', .slice x' l' cp']
    | 21 => v = .bool true
    | 22 => v = .bool true
    | 23 => v = .bool true
    | _ => True) (by kernel_rfl) (by kernel_rfl) (Below.refl _ _).drew ?hmono ⟨?o0, ?o1, ?o2, ?o3, ?o4, ?o5, ?o6, ?o7, ?o8, ?o9, ?o10, ?o11, ?o12, ?o13, ?o14, ?o15, ?o16, ?o17, ?o18, ?o19, ?o20, ?o21, ?o22, ?o23, trivial⟩ ?hend
  case o0 =>
    intro dn a w' _ hS hF K hK
    have h5 := hF.out 5 (by kernel_rfl) rfl
    rw [if_pos (by kernel_rfl)]
    go_simp
    exact hK _ _ _ rfl hS (Below.refl _ _) rfl
  case o1 =>
    intro dn a w' _ hS hF K hK
    obtain ⟨v23, h23, rfl⟩ := hF.val 0 23 (by kernel_rfl) (by kernel_rfl)
    rw [if_pos (by kernel_rfl)]
    go_simp
    exact hK _ _ _ rfl hS (Below.refl _ _) rfl
  case o2 =>
    intro dn a w' _ hS hF K hK
    have h7 := hF.out 7 (by kernel_rfl) rfl
    obtain ⟨v24, h24, rfl⟩ := hF.val 1 24 (by kernel_rfl) (by kernel_rfl)
    rw [if_pos (wanted_yes 1 rfl (by kernel_rfl) h24)]
    go_simp
    exact hK _ _ _ rfl hS (Below.refl _ _) rfl
  case o3 =>
    intro dn a w' _ hS hF K hK
    obtain ⟨v24, h24, rfl⟩ := hF.val 1 24 (by kernel_rfl) (by kernel_rfl)
    obtain ⟨v25, h25, rfl⟩ := hF.val 2 25 (by kernel_rfl) (by kernel_rfl)
    rw [if_pos (by kernel_rfl)]
    go_simp
    exact hK _ _ _ rfl hS (Below.refl _ _) rfl
  case o4 =>
    intro dn a w' _ hS hF K hK
    obtain ⟨v26, h26, rfl⟩ := hF.val 3 26 (by kernel_rfl) (by kernel_rfl)
    rw [if_pos (by kernel_rfl)]
    go_simp
    exact hK _ _ _ rfl hS (Below.refl _ _) rfl
  case o5 =>
    intro dn a w' _ hS hF K hK
    have h4 := hF.out 4 (by kernel_rfl) rfl
    obtain ⟨v27, h27, rfl⟩ := hF.val 4 27 (by kernel_rfl) (by kernel_rfl)
    rw [if_pos (wanted_yes 4 rfl (by kernel_rfl) h27)]
    go_simp
    exact hK _ _ _ rfl hS (Below.refl _ _) rfl
  case o6 =>
    intro dn a w' _ hS hF K hK
    obtain ⟨v28, h28, rfl⟩ := hF.val 5 28 (by kernel_rfl) (by kernel_rfl)
    obtain ⟨v27, h27, rfl⟩ := hF.val 4 27 (by kernel_rfl) (by kernel_rfl)
    rw [if_pos (wanted_yes 4 rfl (by kernel_rfl) h27)]
    go_simp
    exact hK _ _ _ rfl hS (Below.refl _ _) rfl
  case o7 =>
    intro dn a w' _ hS hF K hK
    obtain ⟨v29, h29, rfl⟩ := hF.val 6 29 (by kernel_rfl) (by kernel_rfl)
    obtain ⟨v27, h27, rfl⟩ := hF.val 4 27 (by kernel_rfl) (by kernel_rfl)
    rw [if_pos (wanted_yes 4 rfl (by kernel_rfl) h27)]
    go_simp
    exact hK _ _ _ rfl hS (Below.refl _ _) rfl
  case o8 =>
    intro dn a w' _ hS hF K hK
    obtain ⟨v27, h27, rfl⟩ := hF.val 4 27 (by kernel_rfl) (by kernel_rfl)
    obtain ⟨v30, h30, rfl⟩ := hF.val 7 30 (by kernel_rfl) (by kernel_rfl)
    rw [if_pos (by kernel_rfl)]
    go_simp
    exact hK _ _ _ rfl hS (Below.refl _ _) rfl
  case o9 =>
    intro dn a w' _ hS hF K hK
    obtain ⟨v31, h31, rfl⟩ := hF.val 8 31 (by kernel_rfl) (by kernel_rfl)
    rw [if_pos (by kernel_rfl)]
    go_simp
    exact hK _ _ _ rfl hS (Below.refl _ _) rfl
  case o10 =>
    intro dn a w' _ hS hF K hK
    have h6 := hF.out 6 (by kernel_rfl) rfl
    obtain ⟨v32, h32, rfl⟩ := hF.val 9 32 (by kernel_rfl) (by kernel_rfl)
    rw [if_pos (wanted_yes 9 rfl (by kernel_rfl) h32)]
    go_simp
    exact hK _ _ _ rfl hS (Below.refl _ _) rfl
  case o11 =>
    intro dn a w' _ hS hF K hK
    obtain ⟨v33, h33, rfl⟩ := hF.val 10 33 (by kernel_rfl) (by kernel_rfl)
    obtain ⟨v32, h32, rfl⟩ := hF.val 9 32 (by kernel_rfl) (by kernel_rfl)
    rw [if_pos (wanted_yes 9 rfl (by kernel_rfl) h32)]
    go_simp
    exact hK _ _ _ rfl hS (Below.refl _ _) rfl
  case o12 =>
    intro dn a w' _ hS hF K hK
    obtain ⟨v34, h34, rfl⟩ := hF.val 11 34 (by kernel_rfl) (by kernel_rfl)
    obtain ⟨v32, h32, rfl⟩ := hF.val 9 32 (by kernel_rfl) (by kernel_rfl)
    rw [if_pos (wanted_yes 9 rfl (by kernel_rfl) h32)]
    go_simp
    exact hK _ _ _ rfl hS (Below.refl _ _) rfl
  case o13 =>
    intro dn a w' _ hS hF K hK
    obtain ⟨v32, h32, rfl⟩ := hF.val 9 32 (by kernel_rfl) (by kernel_rfl)
    obtain ⟨v35, h35, rfl⟩ := hF.val 12 35 (by kernel_rfl) (by kernel_rfl)
    rw [if_pos (by kernel_rfl)]
    go_simp
    exact hK _ _ _ rfl hS (Below.refl _ _) rfl
  case o14 =>
    intro dn a w' _ hS hF K hK
    obtain ⟨v36, h36, rfl⟩ := hF.val 13 36 (by kernel_rfl) (by kernel_rfl)
    rw [if_pos (by kernel_rfl)]
    go_simp
    exact hK _ _ _ rfl hS (Below.refl _ _) rfl
  case o15 =>
    intro dn a w' _ hS hF K hK
    have h4 := hF.out 4 (by kernel_rfl) rfl
    obtain ⟨v37, h37, rfl⟩ := hF.val 14 37 (by kernel_rfl) (by kernel_rfl)
    rw [if_pos (wanted_yes 14 rfl (by kernel_rfl) h37)]
    go_simp
    exact hK _ _ _ rfl hS (Below.refl _ _) rfl
  case o16 =>
    intro dn a w' _ hS hF K hK
    obtain ⟨v38, h38, rfl⟩ := hF.val 15 38 (by kernel_rfl) (by kernel_rfl)
    obtain ⟨v37, h37, rfl⟩ := hF.val 14 37 (by kernel_rfl) (by kernel_rfl)
    rw [if_pos (wanted_yes 14 rfl (by kernel_rfl) h37)]
    go_simp
    exact hK _ _ _ rfl hS (Below.refl _ _) rfl
  case o17 =>
    intro dn a w' _ hS hF K hK
    obtain ⟨v39, h39, rfl⟩ := hF.val 16 39 (by kernel_rfl) (by kernel_rfl)
    obtain ⟨v37, h37, rfl⟩ := hF.val 14 37 (by kernel_rfl) (by kernel_rfl)
    have c0' := (hS.cell (by dsimp only; omega)).trans c0
    have c1' := (hS.cell (by dsimp only; omega)).trans c1
    have c2' := (hS.cell (by dsimp only; omega)).trans c2
    have c3' := (hS.cell (by dsimp only; omega)).trans c3
    have d0' := (hS.cell (by dsimp only; omega)).trans d0
    have d1' := (hS.cell (by dsimp only; omega)).trans d1
    have d2' := (hS.cell (by dsimp only; omega)).trans d2
    have d3' := (hS.cell (by dsimp only; omega)).trans d3
    rw [if_pos (wanted_yes 14 rfl (by kernel_rfl) h37)]
    go_simp
    exact hK _ _ _ rfl hS (Below.refl _ _) rfl
  case o18 =>
    intro dn a w' _ hS hF K hK
    have h6 := hF.out 6 (by kernel_rfl) rfl
    obtain ⟨v37, h37, rfl⟩ := hF.val 14 37 (by kernel_rfl) (by kernel_rfl)
    rw [if_pos (wanted_yes 14 rfl (by kernel_rfl) h37)]
    go_simp
    exact hK _ _ _ rfl hS (Below.refl _ _) rfl
  case o19 =>
    intro dn a w' _ hS hF K hK
    obtain ⟨v41, h41, rfl⟩ := hF.val 18 41 (by kernel_rfl) (by kernel_rfl)
    obtain ⟨v37, h37, rfl⟩ := hF.val 14 37 (by kernel_rfl) (by kernel_rfl)
    rw [if_pos (wanted_yes 14 rfl (by kernel_rfl) h37)]
    go_simp
    exact hK _ _ _ rfl hS (Below.refl _ _) rfl
  case o20 =>
    intro dn a w' _ hS hF K hK
    obtain ⟨v42, h42, rfl⟩ := hF.val 19 42 (by kernel_rfl) (by kernel_rfl)
    obtain ⟨v37, h37, rfl⟩ := hF.val 14 37 (by kernel_rfl) (by kernel_rfl)
    have c0' := (hS.cell (by dsimp only; omega)).trans c0
    have c1' := (hS.cell (by dsimp only; omega)).trans c1
    have c2' := (hS.cell (by dsimp only; omega)).trans c2
    have c3' := (hS.cell (by dsimp only; omega)).trans c3
    have d0' := (hS.cell (by dsimp only; omega)).trans d0
    have d1' := (hS.cell (by dsimp only; omega)).trans d1
    have d2' := (hS.cell (by dsimp only; omega)).trans d2
    have d3' := (hS.cell (by dsimp only; omega)).trans d3
    rw [if_pos (wanted_yes 14 rfl (by kernel_rfl) h37)]
    go_simp
    exact hK _ _ _ rfl hS (Below.refl _ _) rfl
  case o21 =>
    intro dn a w' _ hS hF K hK
    obtain ⟨v40, h40, rfl⟩ := hF.val 17 40 (by kernel_rfl) (by kernel_rfl)
    obtain ⟨v43, h43, rfl⟩ := hF.val 20 43 (by kernel_rfl) (by kernel_rfl)
    obtain ⟨v37, h37, rfl⟩ := hF.val 14 37 (by kernel_rfl) (by kernel_rfl)
    rw [if_pos (wanted_yes 14 rfl (by kernel_rfl) h37)]
    go_simp
    refine (HS.out w' hS).mono ?_
    rintro e w'' ⟨rfl, hb4⟩
    exact hK _ _ _ rfl (hS.trans (hb4.mono hS.size)) hb4 rfl
  case o22 =>
    intro dn a w' _ hS hF K hK
    obtain ⟨v37, h37, rfl⟩ := hF.val 14 37 (by kernel_rfl) (by kernel_rfl)
    obtain ⟨v44, h44, rfl⟩ := hF.val 21 44 (by kernel_rfl) (by kernel_rfl)
    rw [if_pos (by kernel_rfl)]
    go_simp
    exact hK _ _ _ rfl hS (Below.refl _ _) rfl
  case o23 =>
    intro dn a w' _ hS hF K hK
    obtain ⟨v45, h45, rfl⟩ := hF.val 22 45 (by kernel_rfl) (by kernel_rfl)
    rw [if_pos (by kernel_rfl)]
    go_simp
    exact hK _ _ _ rfl hS (Below.refl _ _) rfl
  case hmono =>
    intro i j v w1 w2 _ _ _ _ _ hv _
    exact hv
  case hend =>
    intro dn w4 vs hS hv
    have hvL : vs 23 = .bool true := hv 23 (by decide)
    clear hv
    simp only [putsL, Nat.reduceAdd, Act.put, List.setIfInBounds_toArray, List.set_cons_zero, List.set_cons_succ, hvL]
    go_wp2
    go_ret
    exact ⟨rfl, ((hb1.trans (hb2.mono hb1.size)).trans (hb3.mono (Nat.le_trans hb1.size hb2.size))).trans (hS.mono (Nat.le_trans (Nat.le_trans hb1.size hb2.size) hb3.size))⟩
end Go.Proofs.YtfhiolnoalghmaaDoor
