/- The reader's list. -/
import Derived.Test.YtfhiolnoalghmaaDoorLst
namespace Go.Proofs.YtfhiolnoalghmaaDoor
open Go.RowKit
set_option linter.unusedSimpArgs false
theorem info_datum : (Tryd.prog.info? 24).map (fun i => (i.zero, i.size, i.bytes)) = some (some (.agg #[.int .i64 0, .int .i64 0, .string ⟨#[]⟩, .slice none 0 0]), 4, 56) := by kernel_rfl
theorem pItems_done {p : List UInt8 → Nat → Res} {m : Nat} {acc : List (DataW Unit)} {r : List UInt8} {c : Nat} (h : r.head?.map UInt8.toNat = some 41) : pItems p (m + 1) acc r c = .inr (.slice acc [], r.tail, c) := by
  simp only [pItems]; rw [if_pos h]
theorem pItems_err {p : List UInt8 → Nat → Res} {m : Nat} {acc : List (DataW Unit)} {r : List UInt8} {c : Nat} {e : Int × List UInt8} (h : ¬ r.head?.map UInt8.toNat = some 41) (hp : p r c = .inl e) : pItems p (m + 1) acc r c = .inl e := by
  simp only [pItems]; rw [if_neg h, hp]
theorem pItems_next {p : List UInt8 → Nat → Res} {m : Nat} {acc : List (DataW Unit)} {r : List UInt8} {c : Nat} {t : DataW Unit} {q : List UInt8} {c' : Nat} (h : ¬ r.head?.map UInt8.toNat = some 41) (hp : p r c = .inr (t, q, c')) :
    pItems p (m + 1) acc r c = pItems p m (acc ++ [t]) (skipB false q) c' := by
  simp only [pItems]; rw [if_neg h, hp]
theorem ended_no (rb : Nat) (s : ByteArray) (p c : Nat) (w : World) (hR : R w rb s p c) (h : p < s.size) :
    Calls Tryd.prog 38 #[.pointer (some ⟨rb, 0, none⟩)] w fun e w' => e = .returned (.bool false) ∧ ∃ n, w' = w.drewN n := by
  have := ended_any rb s p c w hR
  rwa [show decide (s.size ≤ p) = false from by simp; omega] at this
theorem ended_yes (rb : Nat) (s : ByteArray) (p c : Nat) (w : World) (hR : R w rb s p c) (h : ¬ p < s.size) :
    Calls Tryd.prog 38 #[.pointer (some ⟨rb, 0, none⟩)] w fun e w' => e = .returned (.bool true) ∧ ∃ n, w' = w.drewN n := by
  have := ended_any rb s p c w hR
  rwa [show decide (s.size ≤ p) = true from by simp; omega] at this
theorem skipTo_le (s : ByteArray) (p : Nat) : skipTo s.data.toList p ≤ s.size := by unfold skipTo; simp
theorem drop_skipTo (s : ByteArray) (p : Nat) : s.data.toList.drop (skipTo s.data.toList p) = skipB false (s.data.toList.drop p) :=
  drop_of_suffix ((skip_suffix false _).trans (List.drop_suffix _ _))
theorem drop_len {s : ByteArray} {q : List UInt8} (h : q <:+ s.data.toList) : s.data.toList.drop (s.size - q.length) = q := by
  have := drop_of_suffix h
  simpa using this
theorem Past.grown {rb : Nat} {w w1 w' : World} {row : Option Nat} (h : Past rb w w1) (hg : w1.grownBy w' row) (hr : ∀ k, row = some k → w.heap.size ≤ k) : Past rb w w' := by
  have e := (Below.refl 0 w1).grown hg (Nat.zero_le _) (fun _ _ => Nat.zero_le _)
  refine ⟨e.os.trans h.os, e.tape.trans h.tape, e.output.trans h.output, Nat.le_trans h.size e.size, fun k hk hn => ?_⟩
  rw [hg.block k (Nat.lt_of_lt_of_le hk h.size) (fun e => by have := hr k e.symm; omega)]
  exact h.block k hk hn
theorem elem_news (w2 : World) (k n : Int) (z : ByteArray) (a : Option Addr) (len cap : Nat) (ty : TypeId) : ∀ j u, [Value.int .i64 k, .int .i64 n, .string z, .slice a len cap][j]? = some u →
    ((w2.alloc (.cells #[.int .i64 k, .int .i64 n, .string z, .slice a len cap] ty)).alloc (.cells #[.int .i64 k, .int .i64 n, .string z, .slice a len cap] ty)).cell? ((⟨w2.heap.size + 1, 0, none⟩ : Addr).add j) = some u := fun j u hj => by
  have hadd : (⟨w2.heap.size + 1, 0, none⟩ : Addr).add j = ⟨w2.heap.size + 1, j, none⟩ := by unfold Addr.add; split <;> simp_all
  rw [hadd, World.cell?_alloc_at _ _ _ j (by simp)]
  simpa using hj
theorem list_end {w wr : World} {rb B d nq : Nat} {s : ByteArray} {pl cc : Nat} {acc : List (DataW Unit)} {a : Option Addr} {cap : Nat} (hrb : rb < w.heap.size) (hB : B = w.heap.size + 1) (hR : R wr rb s pl cc) (hlt : pl < s.size) (hcap : acc.length ≤ cap) (hac : acc.length ≤ 400)
    (hrow : RowD wr (fun b => B ≤ b ∧ b < wr.heap.size) (Dat wr (fun b => B ≤ b ∧ b < wr.heap.size) d) acc a acc.length) :
    Out w ((((((wr.drewN nq).setCell ⟨rb, 1, none⟩ (.int .i64 ((pl : Int) + 1))).setCell ⟨w.heap.size, 0, none⟩ (.int .i64 4)).setCell ⟨w.heap.size, 1, none⟩ (.int .i64 0)).setCell ⟨w.heap.size, 2, none⟩ (.string ⟨#[]⟩)).setCell ⟨w.heap.size, 3, none⟩ (.slice a acc.length cap)) rb s (d + 1)
      (.inr (.slice acc [], (s.data.toList.drop pl).tail, cc)) (.returned (.tuple #[.agg #[.int .i64 4, .int .i64 0, .string ⟨#[]⟩, .slice a acc.length cap], .int .i64 0])) := by
  refine ⟨_, _, _, _, rfl, ?_, Or.inr ⟨acc, a, acc.length, cap, rfl, rfl, rfl, rfl, rfl, ⟨hcap, by omega⟩, ?_⟩⟩
  · rw [show s.size - (s.data.toList.drop pl).tail.length = pl + 1 from by simp; omega]
    exact ((hR.drewN nq).setPlace (pl + 1) _ (by omega)).set4 (by omega) _ _ _ _
  · refine RowD.keep (fun b hb => ⟨?_, by omega, by simp; exact hb.2⟩) hrow
    rw [heap_set4 _ (by omega), Below.heap_setCell _ _ _ _ (by show ¬ b = rb; omega)]
    rfl
set_option maxRecDepth 100000 in
set_option maxHeartbeats 4000000 in
theorem list_any (d : Nat) (ih : DatumSaid d) (rb : Nat) (s : ByteArray) (p c : Nat) (w : World) (B : Nat) (o : Int) (hG : Globs w B) (hB : B ≤ rb) (hR : R w rb s p c) (hp : p < s.size) (hs : s.size ≤ 3000) (hc : c ≤ 400) (ho : 0 ≤ o) (hd : o + (d + 1) = 40) :
    Calls Tryd.prog 55 #[.pointer (some ⟨rb, 0, none⟩), .int .i64 o] w fun e w' => Out w w' rb s (d + 1) (pItems (pDatum d) 401 [] (skipB false (s.data.toList.drop (p + 1))) c) e ∧ Past rb w w' := by
  have hrb := hR.lt
  obtain ⟨X, hX⟩ : ∃ X, X = (w.setCell ⟨rb, 1, none⟩ (.int .i64 ((p : Int) + 1))).alloc (.cells #[.int .i64 0, .int .i64 0, .string ⟨#[]⟩, .slice none 0 0] 24) := ⟨_, rfl⟩
  have HRX : Hid (R X rb s (p + 1) c) := by rw [hX]; exact (hR.setPlace (p + 1) _ (by omega)).alloc _
  have HPX : Hid (Past rb w X) := by rw [hX]; exact (Past.setCell (p := ⟨rb, 1, none⟩) (Past.refl rb w) (Or.inl rfl) _).alloc _
  have HBX : Hid (Box X w.heap.size (.int .i64 0) (.int .i64 0) (.string ⟨#[]⟩) (.slice none 0 0)) := by
    rw [hX]
    have := Box.new (w.setCell ⟨rb, 1, none⟩ (.int .i64 ((p : Int) + 1))) (.int .i64 0) (.int .i64 0) (.string ⟨#[]⟩) (.slice none 0 0) 24
    exact hid (by simpa using this)
  have hzX : X.heap.size = w.heap.size + 1 := by rw [hX]; simp
  have hcall := skip_any rb s (p + 1) c X HRX.out (by omega) hs
  have HX := hid hX
  obtain ⟨c0, c1, c2, f1, f2⟩ := hR
  rw [hX] at hcall
  clear hX
  obtain ⟨i0, hi, hz0, hz1, hz2⟩ := info_parts info_datum
  have HI := hid hi
  have HZ0 := hid hz0
  have HZ1 := hid hz1
  have HZ2 := hid hz2
  clear hi hz0 hz1 hz2
  go_enter Tryd.func55, Tryd.ntmps55
  go_wp2_with fail
  go_fit hcall
  clear hcall
  rw [← HX.out]
  rintro e w1 ⟨rfl, hR1, hP1⟩
  have HD1 := hid (drop_skipTo s (p + 1))
  go_wp2_with fail
  go_loopg [6] 401 (fun k v wr => ∃ acc pl cc, pItems (pDatum d) k acc (s.data.toList.drop pl) cc = pItems (pDatum d) 401 [] (skipB false (s.data.toList.drop (p + 1))) c ∧ acc.length ≤ cc ∧ cc ≤ 400 ∧ 401 ≤ k + cc ∧ pl ≤ s.size ∧
    R wr rb s pl cc ∧ Past rb w wr ∧ Box wr w.heap.size (.int .i64 0) (.int .i64 0) (.string ⟨#[]⟩) (.slice none 0 0) ∧ Lst wr (w.heap.size + 1) 24 d v acc)
  case atStart => exact ⟨[], _, c, by rw [HD1.out], Nat.zero_le _, hc, by omega, skipTo_le s _, hR1, HPX.out.trans hP1, HBX.out.past hP1 (by omega), Lst.nil _ _ _ _⟩
  case round =>
    obtain ⟨acc, pl, cc, hit, hac, hcc, hk, hpl, hRr, hPr, hBr, hLr⟩ := hrel
    obtain ⟨m, rfl⟩ : ∃ m, gk = m + 1 := ⟨gk - 1, by omega⟩
    have HIT := hid hit
    have HLr := hid hLr
    have HRr := hid hRr
    have hzr := hPr.size
    have hzr2 := hBr.lt
    obtain ⟨x0, x1, x2, x3, y0, y1, y2, y3⟩ := hBr
    obtain ⟨a, cap, hv, hcap, hrow⟩ := hLr.shape
    have HRow := hid hrow
    clear hit hrow hLr
    subst hv
    by_cases hex : ∃ h : pl < s.size, (s[pl].toNat : Int) = 41
    · obtain ⟨hlt, h41⟩ := hex
      have hpli : (pl : Int) < s.size := by omega
      have hD0 := drop_at s pl hlt
      have q41 : ((s[pl].toNat : Int) != 41) = false := by simp [h41]
      have HDone := hid (HIT.out.symm.trans (pItems_done (by rw [hD0]; simp; omega)))
      clear hD0
      obtain ⟨d0, d1, d2, e1, e2⟩ := hRr
      go_wp2_with fail
      go_quiet ((go_at_call 38; exact Calls.quiet_of (ended_no rb s pl cc _ (HRr.out.drewN _) hlt)))
      go_wp2_with fail
      refine bodyPost_ret (v := .tuple #[.agg #[.int .i64 4, .int .i64 0, .string ⟨#[]⟩, .slice a acc.length cap], .int .i64 0]) (by simp [results, Tryd.results55, go_sem, x0, x1, x2, x3]) rfl ?_
      refine ⟨?_, past_set4 (Past.setCell (p := ⟨rb, 1, none⟩) (hPr.drewN _) (Or.inl rfl) _) (Nat.le_refl _) _ _ _ _⟩
      rw [HDone.out]
      exact list_end hrb rfl HRr.out hlt hcap (by omega) HRow.out
    · have hhead : ¬ (s.data.toList.drop pl).head?.map UInt8.toNat = some 41 := by
        intro hh
        by_cases hlt : pl < s.size
        · rw [drop_at s pl hlt] at hh
          simp at hh
          exact hex ⟨hlt, by omega⟩
        · rw [List.drop_of_length_le (by simp; omega)] at hh
          simp at hh
      have hgo : (∃ h : pl < s.size, (pl : Int) < s.size ∧ ((s[pl].toNat : Int) != 41) = true) ∨ ¬ pl < s.size := by
        by_cases hlt : pl < s.size
        · exact Or.inl ⟨hlt, by omega, by simp; intro e; exact hex ⟨hlt, by omega⟩⟩
        · exact Or.inr hlt
      have hgood := pDatum_good d (s.data.toList.drop pl) cc
      have HH := hid hhead
      have HOwn : Hid (∀ k, (Value.slice a acc.length cap).ownBlock = some k → w.heap.size + 1 ≤ k ∧ k < wr.heap.size) := fun k hk => HLr.out.own_lt hk
      clear hhead hex
      obtain ⟨d0, d1, d2, e1, e2⟩ := hRr
      cases hD : pDatum d (s.data.toList.drop pl) cc with
      | inl eq =>
        obtain ⟨x, q⟩ := eq
        rw [hD] at hgood
        have hx0 := hgood.2
        have HErr := hid (HIT.out.symm.trans (pItems_err HH.out hD))
        have HD := hid hD
        clear hD hgood
        rcases hgo with ⟨hlt, hpli, q41⟩ | hnl
        all_goals
          go_wp2_with fail
          go_quiet ((go_at_call 38; first | exact Calls.quiet_of (ended_no rb s pl cc _ (HRr.out.drewN _) (by assumption)) | exact Calls.quiet_of (ended_yes rb s pl cc _ (HRr.out.drewN _) (by assumption))))
          go_wp2_with fail
          have hcall := ih rb s pl cc (wr.drewN nq) B (o + 1) (hG.past (hPr.drewN nq) hB (by omega)) hB (HRr.out.drewN nq) hpl hs hcc (by omega) (by omega)
          rw [HD.out] at hcall
          go_fit hcall
          clear hcall
          rintro e w2 ⟨⟨rfl, c', hR2⟩, hP2⟩
          have hPW : Past rb w w2 := (hPr.drewN nq).trans hP2
          obtain ⟨z0, z1, z2, z3, k0, k1, k2, k3⟩ := (show Box (wr.drewN nq) w.heap.size (.int .i64 0) (.int .i64 0) (.string ⟨#[]⟩) (.slice none 0 0) from ⟨x0, x1, x2, x3, y0, y1, y2, y3⟩).past hP2 (by omega)
          have hzw : w.heap.size < w2.heap.size := by have := hP2.size; simp at this; omega
          go_wp2_with fail
          refine bodyPost_ret (v := .tuple #[.agg #[.int .i64 0, .int .i64 0, .string ⟨#[]⟩, .slice none 0 0], .int .i64 x]) (by simp [results, Tryd.results55, go_sem, z0, z1, z2, z3, hzw]) rfl ?_
          refine ⟨?_, (past_set4 hPW (Nat.le_refl _) _ _ _ _).alloc _⟩
          rw [HErr.out]
          exact ⟨rfl, c', (hR2.set4 (by omega) _ _ _ _).alloc _⟩
      | inr tq =>
        obtain ⟨t, q, c'⟩ := tq
        rw [hD] at hgood
        obtain ⟨hg1, hg2, hg3⟩ := hgood
        have HNext := hid (HIT.out.symm.trans (pItems_next HH.out hD))
        have HD := hid hD
        have HQ := hid (drop_len (hg1.trans (List.drop_suffix _ _)))
        have hql : q.length ≤ s.size := by have := (hg1.trans (List.drop_suffix pl _)).length_le; simpa using this
        clear hD hg1
        rcases hgo with ⟨hlt, hpli, q41⟩ | hnl
        all_goals
          go_wp2_with fail
          go_quiet ((go_at_call 38; first | exact Calls.quiet_of (ended_no rb s pl cc _ (HRr.out.drewN _) (by assumption)) | exact Calls.quiet_of (ended_yes rb s pl cc _ (HRr.out.drewN _) (by assumption))))
          go_wp2_with fail
          have hcall := ih rb s pl cc (wr.drewN nq) B (o + 1) (hG.past (hPr.drewN nq) hB (by omega)) hB (HRr.out.drewN nq) hpl hs hcc (by omega) (by omega)
          rw [HD.out] at hcall
          go_fit hcall
          clear hcall
          rintro e w2 ⟨⟨u0, u1, u2, u3, rfl, hR2, hDat⟩, hP2⟩
          obtain ⟨k, n, z, a', len', cap', rfl, rfl, rfl, rfl⟩ := hDat.shape
          have HDat := hid hDat
          have HR2 := hid hR2
          have HL2 : Hid (Lst w2 (w.heap.size + 1) 24 d (.slice a acc.length cap) acc) := (HLr.out.keep (w' := wr.drewN nq) (Nat.le_refl _) (fun _ _ _ => rfl)).past hP2 (by omega)
          clear hDat hR2
          have hPW : Past rb w w2 := (hPr.drewN nq).trans hP2
          have HB2 := hid ((show Box (wr.drewN nq) w.heap.size (.int .i64 0) (.int .i64 0) (.string ⟨#[]⟩) (.slice none 0 0) from ⟨x0, x1, x2, x3, y0, y1, y2, y3⟩).past hP2 (by omega))
          have hzw : w.heap.size < w2.heap.size := by have := hP2.size; simp at this; omega
          have hz2 : wr.heap.size ≤ w2.heap.size := by have := hP2.size; simpa using this
          obtain ⟨Wa, hWa⟩ : ∃ Wa, Wa = (w2.alloc (.cells #[.int .i64 k, .int .i64 n, .string z, .slice a' len' cap'] 24)).alloc (.cells #[.int .i64 k, .int .i64 n, .string z, .slice a' len' cap'] 24) := ⟨_, rfl⟩
          have hBa : Below w2.heap.size w2 Wa := by rw [hWa]; exact ((Below.refl _ _).alloc (Nat.le_refl _) _).alloc (by simp) _
          have hza : Wa.heap.size = w2.heap.size + 2 := by rw [hWa]; simp
          have hel := elem_news w2 k n z a' len' cap' 24
          rw [← hWa] at hel
          obtain ⟨cells, hown, hitems⟩ := HL2.out.keep (w' := Wa) (by omega) (fun b _ h2 => hBa.block b h2)
          have HEl := hid hel
          have HOwn2 := hid hown
          have HIt := hid hitems
          have HWa := hid hWa
          have HBa := hid hBa
          have hclen := hown.1
          clear hel hown hitems hBa hWa
          go_wp2_with (at_builtin; rw [← HWa.out]; refine wpList_append_lies _ rfl (.tmp 45) (.tmp 47) 22 rfl (w.heap.size + 1) 24 i0 (.agg #[.int .i64 0, .int .i64 0, .string ⟨#[]⟩, .slice none 0 0]) 4 56 Tryd.underlying22 HI.out HZ0.out HZ1.out HZ2.out rfl (by decide) _ acc.length cells rfl HOwn2.out ⟨w2.heap.size + 1, 0, none⟩ 1 1 [.int .i64 k, .int .i64 n, .string z, .slice a' len' cap'] rfl rfl HEl.out (by simp [Value.oneCell']) (by decide) (by unfold maxLen; omega) (by omega) (by omega) _ rfl ?_; intro g cap3 w3 hown3 hgrow3 hat3 hlt3)
          have hPa : Past rb w Wa := hPW.trans (Past.of_below HBa.out)
          have hP3 : Past rb w w3 := hPa.grown hgrow3 (fun k' hk' => by have := (HOwn.out k' hk').1; omega)
          have hRa := HR2.out.below HBa.out
          have hR3 : R w3 rb s (s.size - q.length) c' := hRa.of_block (hgrow3.block rb hRa.lt (fun e => by have := (HOwn.out rb e.symm).1; omega))
          have hBxa := HB2.out.below HBa.out (by omega)
          have hB3 : Box w3 w.heap.size (.int .i64 0) (.int .i64 0) (.string ⟨#[]⟩) (.slice none 0 0) := hBxa.of_block (hgrow3.block _ hBxa.lt (fun e => by have := (HOwn.out _ e.symm).1; omega))
          have hDa := Dat.keep (w' := Wa) (S' := fun b => wr.heap.size ≤ b ∧ b < Wa.heap.size) (fun b hb => ⟨HBa.out.block b hb.2, by simpa using hb.1, by have := hb.2; omega⟩) d HDat.out
          have hL3 := Lst.append HIt.out hclen hDa (by omega) (fun k' hk' => (HOwn.out k' hk').2) hown3 hgrow3 hat3 rfl
          have HL3 := hid hL3
          have HP3 := hid hP3
          have HB3 := hid hB3
          have hcall2 := skip_any rb s (s.size - q.length) c' w3 hR3 (by omega) hs
          clear hPa hP3 hRa hR3 hBxa hB3 hDa hL3 hown3 hgrow3 hat3
          go_fit hcall2
          clear hcall2
          rintro e w4 ⟨rfl, hR4, hP4⟩
          have HDr := hid ((drop_skipTo s (s.size - q.length)).trans (by rw [HQ.out]))
          go_wp2_with fail
          go_roundg m
          case measure => omega
          case rel => exact ⟨acc ++ [t], skipTo s.data.toList (s.size - q.length), c', by rw [HDr.out]; exact HNext.out.symm, by simp; omega, hg3, by omega, skipTo_le s _, hR4, HP3.out.trans hP4, HB3.out.past hP4 (by omega), HL3.out.past hP4 (by omega)⟩
end Go.Proofs.YtfhiolnoalghmaaDoor
