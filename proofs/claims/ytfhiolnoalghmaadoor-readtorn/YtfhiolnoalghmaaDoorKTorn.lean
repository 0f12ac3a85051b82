/- ReadTorn's walk: a text that is cut within its parentheses is too short. -/
import Derived.Test.YtfhiolnoalghmaaDoorKQuote
import Derived.Test.YtfhiolnoalghmaaDoorKTornP
namespace Go.Proofs.YtfhiolnoalghmaaDoor
open Go.RowKit
def one (t : Tx) : Tx := .l [t]
theorem one_pr (t : Tx) : (one t).pr = [40] ++ t.pr ++ [41] := by simp [one, Tx.pr, Tx.prs]
theorem one_cut (t : Tx) (h : t.fit = true) (hd : t.dep ≤ 17) (hl : t.pr.length ≤ 250) (j : Nat) (h0 : 0 < j) (hj : j < t.pr.length + 2) :
    readT ((one t).pr.take j) = .inl (5, []) ∨ ∃ q, q ≠ [] ∧ readT ((one t).pr.take j) = .inl (4, q) := by
  have hn := num_250 h hl
  have hlen : (one t).pr.length = t.pr.length + 2 := by rw [one_pr]; simp only [List.length_append, List.length_cons, List.length_nil]; omega
  obtain ⟨i, rfl⟩ : ∃ i, j = i + 1 := ⟨j - 1, by omega⟩
  have hc := cut_trees [t] 39 i 1 [] 400 (by simpa [Tx.fits] using h) (by simp only [Tx.deps]; omega) (by simp only [Tx.prs]; omega) (by simp only [Tx.nums]; omega) (by simp only [Tx.nums]; omega)
  have e : (one t).pr.take (i + 1) = 40 :: (Tx.prs [t]).take i := by
    simp only [one, Tx.pr, List.take_succ_cons]
    rw [List.take_append_of_le_length (by simp only [Tx.prs]; omega)]
  have hsk : skipB false (40 :: (Tx.prs [t]).take i) = 40 :: (Tx.prs [t]).take i := skip_keep (by decide) (by decide)
  have hp : pDatum 40 (40 :: (Tx.prs [t]).take i) 0 = pItems (pDatum 39) 401 [] (skipB false ((Tx.prs [t]).take i)) 1 := by
    rw [pDatum, hsk]
    simp only []
    rw [if_neg (by decide), if_neg (by decide), if_pos (by decide)]
  have hr : readT ((one t).pr.take (i + 1)) = match pItems (pDatum 39) 401 [] (skipB false ((Tx.prs [t]).take i)) 1 with | .inl e => .inl e | .inr (t, q, c') => pAll 400 ([] ++ [t]) (skipB false q) c' := by
    unfold readT
    rw [if_neg (by simp only [List.length_take]; omega), e, hsk]
    unfold pAll
    rw [if_neg (by simp), hp]
    rfl
  rw [hr]
  rcases hc with hc | ⟨q, hq, hc⟩
  · rw [hc]; exact Or.inl rfl
  · rw [hc]; exact Or.inr ⟨q, hq, rfl⟩
theorem one_more (t : Tx) (h : t.fit = true) (hd : t.dep ≤ 17) (hl : t.pr.length ≤ 250) : readT ((one t).pr ++ [41]) = .inl (4, [41]) := by
  have hn := num_250 h hl
  have hlen : (one t).pr.length = t.pr.length + 2 := by rw [one_pr]; simp only [List.length_append, List.length_cons, List.length_nil]; omega
  have hok : (one t).ok = true := by simpa [one, Tx.ok, Tx.oks] using fit_ok t h
  obtain ⟨x, r, e, h1, h2, _⟩ := pr_head (one t) hok
  have hsk : skipB false ((one t).pr ++ [41]) = (one t).pr ++ [41] := by rw [e]; exact skip_keep h1 h2
  have hrt := read_tree (one t) 40 [41] 0 hok (by simp only [one, Tx.dep, Tx.deps]; omega) (delim_close []) (by simp only [one, Tx.num, Tx.nums]; omega)
  unfold readT
  rw [if_neg (by simp only [List.length_append, List.length_cons, List.length_nil]; omega), hsk]
  unfold pAll
  rw [if_neg (by rw [e]; simp), hrt]
  simp only []
  have hs41 : skipB false [41] = [41] := skip_keep (by decide) (by decide)
  rw [hs41]
  unfold pAll
  rw [if_neg (by simp)]
  have hp : ∀ c, c ≤ 399 → pDatum 40 [41] c = .inl (4, [41]) := by
    intro c hc
    rw [pDatum, hs41]
    simp only []
    rw [if_neg (by omega), if_pos (by decide)]
  rw [hp _ (by simp only [one, Tx.num, Tx.nums]; omega)]
set_option maxRecDepth 100000 in
set_option maxHeartbeats 3000000 in
theorem readTorn_walk (ra : Option Addr) (rn rc : Nat) (n : Int) (w : World) (hn : i64B n) (hR : Raws w w.heap.size ra rn) (h1 : rn ≤ rc) (h2 : rc ≤ maxLen) (hG : Globs w w.heap.size) :
    Calls Tryd.prog 7 #[.slice ra rn rc, .int .i64 n] w fun e w' => e = .returned (.bool true) ∧ Below w.heap.size w w' := by
  have HC := hid (Expr_tree w w.heap.size ra rn rc (Nat.le_refl _) hR h1 h2 hG)
  clear hR h1 h2
  go_enter Tryd.func7, Tryd.ntmps7
  go_wp2_with fail
  have hcall := HC.out
  go_fit hcall
  clear hcall HC
  rintro e w1 ⟨⟨t, rfl, hf, hd, hl⟩, hb1⟩
  have hlen : (one t).pr.length = t.pr.length + 2 := by rw [one_pr]; simp only [List.length_append, List.length_cons, List.length_nil]; omega
  have hcut := hid (one_cut t hf hd hl)
  have hmore := hid (one_more t hf hd hl)
  have e1 : ByteArray.mk #[40] ++ ByteArray.mk t.pr.toArray ++ ByteArray.mk #[41] = ⟨(one t).pr.toArray⟩ := by
    rw [show (ByteArray.mk #[40]) = ⟨[40].toArray⟩ from rfl, show (ByteArray.mk #[41]) = ⟨[41].toArray⟩ from rfl, byt_app, byt_app, one_pr]
  have hl1 : ¬ 9223372036854775807 < 1 + t.pr.length := by omega
  have hl2 : ¬ 9223372036854775807 < 1 + t.pr.length + 1 := by omega
  have hN0 : 2 ≤ (one t).pr.length := by omega
  have hN1 : (one t).pr.length ≤ 252 := by omega
  rw [← hlen] at hcut
  clear hf hd hl hlen
  generalize (one t).pr = l at *
  generalize t.pr = tp at *
  have e2 : ByteArray.mk l.toArray ++ ByteArray.mk #[41] = ⟨(l ++ [41]).toArray⟩ := by
    rw [show (ByteArray.mk #[41]) = ⟨[41].toArray⟩ from rfl, byt_app]
  obtain ⟨j, hj, hjl⟩ := pick_nat n ((l.length : Int) - 1) (by omega)
  have HP := hid (picked_any n ((l.length : Int) - 1) w1 hn.1 hn.2 (by omega) (by omega))
  rw [hj] at HP
  have hw1 : IntKind.i64.wrap ((l.length : Int) - 1) = (l.length : Int) - 1 := by rw [IntKind.wrap_i64]; omega
  have hw2 : IntKind.i64.wrap (1 + (j : Int)) = ((1 + j : Nat) : Int) := by rw [IntKind.wrap_i64]; omega
  have hcut2 := hid (hcut.out (1 + j) (by omega) (by omega))
  have HR2 := hid (fun w2 (hb : Below w.heap.size w w2) => read_any ⟨(l ++ [41]).toArray⟩ w2 w.heap.size (hG.below hb) hb.size (by rw [sz]; simp only [List.length_append, List.length_cons, List.length_nil]; omega))
  have HR1 := hid (read_any ⟨(l.take (1 + j)).toArray⟩ w1 w.heap.size (hG.below hb1) hb1.size (by rw [sz]; simp only [List.length_take]; omega))
  clear hj hcut
  go_wp2_with fail
  have hcall := HP.out
  go_fit hcall
  clear hcall HP
  rintro e w2 ⟨rfl, rfl⟩
  have hkl : 1 + j ≤ l.length := by omega
  have hkl2 : ((1 + j : Nat) : Int) ≤ l.length := by omega
  go_wp2_with fail
  have ex : (ByteArray.mk l.toArray).extract 0 (1 + j) = ⟨(l.take (1 + j)).toArray⟩ := by
    apply ByteArray.ext
    simp [ByteArray.data_extract]
  have hcall := HR1.out
  rw [← ex] at hcall
  go_fit hcall
  clear hcall HR1
  rintro e w3 ⟨hO1, hb3⟩
  have hbW := hb1.trans (hb3.mono hb1.size)
  have hT1 : (ByteArray.mk (l.take (1 + j)).toArray).data.toList = l.take (1 + j) := by simp
  rw [ex] at hO1
  try rw [hT1] at hO1
  have hT2 : (ByteArray.mk (l ++ [41]).toArray).data.toList = l ++ [41] := by simp
  have hl3 : ¬ 9223372036854775807 < l.length + 1 := by omega
  have fin : ∀ w4 (e4 : Ending), OutR w3 w4 ⟨(l ++ [41]).toArray⟩ (readT (ByteArray.mk (l ++ [41]).toArray).data.toList) e4 → e4 = .returned (.tuple #[.slice none 0 0, .int .i64 (l.length : Int), .int .i64 4]) := by
    intro w4 e4 h
    try rw [hT2] at h
    rw [hmore.out] at h
    have : e4 = _ := h
    rw [this, sz]
    simp
  have HF := hid fin
  clear fin
  rcases hcut2.out with hc | ⟨q, hq, hc⟩
  · rw [hc] at hO1
    have he : e = .returned (.tuple #[.slice none 0 0, .int .i64 ((1 + j : Nat) : Int), .int .i64 5]) := by
      have : e = _ := hO1
      rw [this, sz]
      simp only [List.length_take, List.length_nil, Nat.sub_zero]
      rw [show min (1 + j) l.length = 1 + j from by omega]
    subst he
    clear hO1 hT1 hc hcut2 ex
    go_wp2_with fail
    have hcall := HR2.out w3 hbW
    rw [← e2] at hcall
    go_fit hcall
    clear hcall HR2
    rintro e w4 ⟨hO2, hb4⟩
    rw [e2] at hO2
    have he := HF.out w4 e hO2
    subst he
    clear hO2 HF
    go_wp2_with fail
    go_ret
    exact ⟨rfl, hbW.trans (hb4.mono hbW.size)⟩
  · rw [hc] at hO1
    obtain ⟨m, hm, hmk⟩ : ∃ m : Nat, e = .returned (.tuple #[.slice none 0 0, .int .i64 (m : Int), .int .i64 4]) ∧ m < 1 + j := by
      have : e = _ := hO1
      refine ⟨_, this, ?_⟩
      rw [sz]
      simp only [List.length_take]
      have : 0 < q.length := List.length_pos_iff.2 hq
      omega
    subst hm
    have hmk2 : (m : Int) < 1 + (j : Int) := by omega
    clear hO1 hT1 hc hcut2 ex
    go_wp2_with fail
    have hcall := HR2.out w3 hbW
    rw [← e2] at hcall
    go_fit hcall
    clear hcall HR2
    rintro e w4 ⟨hO2, hb4⟩
    rw [e2] at hO2
    have he := HF.out w4 e hO2
    subst he
    clear hO2 HF
    go_wp2_with fail
    go_ret
    exact ⟨rfl, hbW.trans (hb4.mono hbW.size)⟩
end Go.Proofs.YtfhiolnoalghmaaDoor
