/- All data of a text: read.Read answers as P1.4 says. -/
import Derived.Test.YtfhiolnoalghmaaDoorDatum
namespace Go.Proofs.YtfhiolnoalghmaaDoor
open Go.RowKit
set_option linter.unusedSimpArgs false
theorem pAll_done {m : Nat} {acc : List (DataW Unit)} {r : List UInt8} {c : Nat} (h : r = []) : pAll (m + 1) acc r c = .inr acc := by
  simp only [pAll]; rw [if_pos h]
theorem pAll_err {m : Nat} {acc : List (DataW Unit)} {r : List UInt8} {c : Nat} {e : Int × List UInt8} (h : ¬ r = []) (hp : pDatum 40 r c = .inl e) : pAll (m + 1) acc r c = .inl e := by
  simp only [pAll]; rw [if_neg h, hp]
theorem pAll_next {m : Nat} {acc : List (DataW Unit)} {r : List UInt8} {c : Nat} {t : DataW Unit} {q : List UInt8} {c' : Nat} (h : ¬ r = []) (hp : pDatum 40 r c = .inr (t, q, c')) :
    pAll (m + 1) acc r c = pAll m (acc ++ [t]) (skipB false q) c' := by
  simp only [pAll]; rw [if_neg h, hp]
/-- How the call that reads all data ends. -/
def OutA (w w' : World) (rb : Nat) (s : ByteArray) (o : (Int × List UInt8) ⊕ List (DataW Unit)) (e : Ending) : Prop :=
  match o with
  | .inl (x, q) => e = .returned (.tuple #[.slice none 0 0, .int .i64 x]) ∧ ¬ x = 0 ∧ ∃ c, R w' rb s (s.size - q.length) c
  | .inr items => ∃ a cap, e = .returned (.tuple #[.slice a items.length cap, .int .i64 0]) ∧ items.length ≤ cap ∧ items.length ≤ 400 ∧ RowD w' (fun b => w.heap.size ≤ b ∧ b < w'.heap.size) (Dat w' (fun b => w.heap.size ≤ b ∧ b < w'.heap.size) 40) items a items.length
set_option maxRecDepth 100000 in
set_option maxHeartbeats 4000000 in
theorem all_any (rb : Nat) (s : ByteArray) (w : World) (B : Nat) (hG : Globs w B) (hB : B ≤ rb) (hR : R w rb s 0 0) (hs : s.size ≤ 3000) :
    Calls Tryd.prog 25 #[.pointer (some ⟨rb, 0, none⟩)] w fun e w' => OutA w w' rb s (pAll 401 [] (skipB false s.data.toList) 0) e ∧ Past rb w w' := by
  have hrb := hR.lt
  have hcall := skip_any rb s 0 0 w hR (by omega) hs
  obtain ⟨i0, hi, hz0, hz1, hz2⟩ := info_parts info_datum
  have HI := hid hi
  have HZ0 := hid hz0
  have HZ1 := hid hz1
  have HZ2 := hid hz2
  clear hi hz0 hz1 hz2
  go_enter Tryd.func25, Tryd.ntmps25
  go_wp2_with fail
  go_fit hcall
  clear hcall
  rintro e w1 ⟨rfl, hR1, hP1⟩
  have HD1 := hid (drop_skipTo s 0)
  go_wp2_with fail
  go_loopg [4] 401 (fun k v wr => ∃ acc pl cc, pAll k acc (s.data.toList.drop pl) cc = pAll 401 [] (skipB false s.data.toList) 0 ∧ acc.length ≤ cc ∧ cc ≤ 400 ∧ 401 ≤ k + cc ∧ pl ≤ s.size ∧
    R wr rb s pl cc ∧ Past rb w wr ∧ Lst wr w.heap.size 24 40 v acc)
  case atStart => exact ⟨[], _, 0, by rw [HD1.out]; rfl, Nat.le_refl _, by omega, by omega, skipTo_le s _, hR1, hP1, Lst.nil _ _ _ _⟩
  case round =>
    obtain ⟨acc, pl, cc, hit, hac, hcc, hk, hpl, hRr, hPr, hLr⟩ := hrel
    obtain ⟨m, rfl⟩ : ∃ m, gk = m + 1 := ⟨gk - 1, by omega⟩
    have HIT := hid hit
    have HLr := hid hLr
    have HRr := hid hRr
    have hzr := hPr.size
    obtain ⟨a, cap, hv, hcap, hrow⟩ := hLr.shape
    have HRow := hid hrow
    clear hit hrow hLr
    subst hv
    by_cases hlt : pl < s.size
    · have hne : ¬ s.data.toList.drop pl = [] := by rw [drop_at s pl hlt]; simp
      have hgood := pDatum_good 40 (s.data.toList.drop pl) cc
      have HH := hid hne
      have HOwn : Hid (∀ k, (Value.slice a acc.length cap).ownBlock = some k → w.heap.size ≤ k ∧ k < wr.heap.size) := fun k hk => HLr.out.own_lt hk
      clear hne
      have hE := ended_no rb s pl cc wr HRr.out hlt
      obtain ⟨d0, d1, d2, e1, e2⟩ := hRr
      cases hD : pDatum 40 (s.data.toList.drop pl) cc with
      | inl eq =>
        obtain ⟨x, q⟩ := eq
        rw [hD] at hgood
        have hx0 := hgood.2
        have HErr := hid (HIT.out.symm.trans (pAll_err HH.out hD))
        have HD := hid hD
        clear hD hgood
        go_wp2_with fail
        go_fit hE
        clear hE
        rintro e w0 ⟨rfl, nq, rfl⟩
        go_wp2_with fail
        have hcall := datum_any 40 rb s pl cc (wr.drewN nq) B 0 (hG.past (hPr.drewN nq) hB (by omega)) hB (HRr.out.drewN nq) hpl hs hcc (by omega) (by omega)
        rw [HD.out] at hcall
        go_fit hcall
        clear hcall
        rintro e w2 ⟨⟨rfl, c', hR2⟩, hP2⟩
        have hPW : Past rb w w2 := (hPr.drewN nq).trans hP2
        go_wp2_with fail
        go_ret2
        refine ⟨?_, hPW.alloc _⟩
        rw [HErr.out]
        exact ⟨rfl, hx0, c', hR2.alloc _⟩
      | inr tq =>
        obtain ⟨t, q, c'⟩ := tq
        rw [hD] at hgood
        obtain ⟨hg1, hg2, hg3⟩ := hgood
        have HNext := hid (HIT.out.symm.trans (pAll_next HH.out hD))
        have HD := hid hD
        have HQ := hid (drop_len (hg1.trans (List.drop_suffix _ _)))
        have hql : q.length ≤ s.size := by have := (hg1.trans (List.drop_suffix pl _)).length_le; simpa using this
        clear hD hg1
        go_wp2_with fail
        go_fit hE
        clear hE
        rintro e w0 ⟨rfl, nq, rfl⟩
        go_wp2_with fail
        have hcall := datum_any 40 rb s pl cc (wr.drewN nq) B 0 (hG.past (hPr.drewN nq) hB (by omega)) hB (HRr.out.drewN nq) hpl hs hcc (by omega) (by omega)
        rw [HD.out] at hcall
        go_fit hcall
        clear hcall
        rintro e w2 ⟨⟨u0, u1, u2, u3, rfl, hR2, hDat⟩, hP2⟩
        obtain ⟨k, n, z, a', len', cap', rfl, rfl, rfl, rfl⟩ := hDat.shape
        have HDat := hid hDat
        have HR2 := hid hR2
        have HL2 : Hid (Lst w2 w.heap.size 24 40 (.slice a acc.length cap) acc) := (HLr.out.keep (w' := wr.drewN nq) (Nat.le_refl _) (fun _ _ _ => rfl)).past hP2 hrb
        clear hDat hR2
        have hPW : Past rb w w2 := (hPr.drewN nq).trans hP2
        have hz2 : wr.heap.size ≤ w2.heap.size := by have := hP2.size; simpa using this
        obtain ⟨Wa, hWa⟩ : ∃ Wa, Wa = (w2.alloc (.cells #[.int .i64 k, .int .i64 n, .string z, .slice a' len' cap'] 24)).alloc (.cells #[.int .i64 k, .int .i64 n, .string z, .slice a' len' cap'] 24) := ⟨_, rfl⟩
        have hBa : Below w2.heap.size w2 Wa := by rw [hWa]; exact ((Below.refl _ _).alloc (Nat.le_refl _) _).alloc (by simp) _
        have hza : Wa.heap.size = w2.heap.size + 2 := by rw [hWa]; simp
        have hel := elem_news w2 k n z a' len' cap' 24
        rw [← hWa] at hel
        obtain ⟨cells, hown, hitems⟩ := HL2.out.keep (w' := Wa) (by omega) (fun b _ h2 => hBa.block b h2)
        have HEl := hid hel
        have HOwn2 := hid hown
        have HIt := hid hitems
        have HWa := hid hWa
        have HBa := hid hBa
        have hclen := hown.1
        clear hel hown hitems hBa hWa
        go_wp2_with (at_builtin; rw [← HWa.out]; refine wpList_append_lies _ rfl (.tmp 22) (.tmp 24) 22 rfl w.heap.size 24 i0 (.agg #[.int .i64 0, .int .i64 0, .string ⟨#[]⟩, .slice none 0 0]) 4 56 Tryd.underlying22 HI.out HZ0.out HZ1.out HZ2.out rfl (by decide) _ acc.length cells rfl HOwn2.out ⟨w2.heap.size + 1, 0, none⟩ 1 1 [.int .i64 k, .int .i64 n, .string z, .slice a' len' cap'] rfl rfl HEl.out (by simp [Value.oneCell']) (by decide) (by unfold maxLen; omega) (by omega) (by omega) _ rfl ?_; intro g cap3 w3 hown3 hgrow3 hat3 hlt3)
        have hPa : Past rb w Wa := hPW.trans (Past.of_below HBa.out)
        have hP3 : Past rb w w3 := hPa.grown hgrow3 (fun k' hk' => by have := (HOwn.out k' hk').1; omega)
        have hRa := HR2.out.below HBa.out
        have hR3 : R w3 rb s (s.size - q.length) c' := hRa.of_block (hgrow3.block rb hRa.lt (fun e => by have := (HOwn.out rb e.symm).1; omega))
        have hDa := Dat.keep (w' := Wa) (S' := fun b => wr.heap.size ≤ b ∧ b < Wa.heap.size) (fun b hb => ⟨HBa.out.block b hb.2, by simpa using hb.1, by have := hb.2; omega⟩) 40 HDat.out
        have hL3 := Lst.append HIt.out hclen hDa (by omega) (fun k' hk' => (HOwn.out k' hk').2) hown3 hgrow3 hat3 rfl
        have HL3 := hid hL3
        have HP3 := hid hP3
        have hcall2 := skip_any rb s (s.size - q.length) c' w3 hR3 (by omega) hs
        clear hPa hP3 hRa hR3 hDa hL3 hown3 hgrow3 hat3
        go_fit hcall2
        clear hcall2
        rintro e w4 ⟨rfl, hR4, hP4⟩
        have HDr := hid ((drop_skipTo s (s.size - q.length)).trans (by rw [HQ.out]))
        go_wp2_with fail
        go_roundg m
        case measure => omega
        case rel => exact ⟨acc ++ [t], skipTo s.data.toList (s.size - q.length), c', by rw [HDr.out]; exact HNext.out.symm, by simp; omega, hg3, by omega, skipTo_le s _, hR4, HP3.out.trans hP4, HL3.out.past hP4 (by omega)⟩
    · have hE := ended_yes rb s pl cc wr hRr hlt
      have HDone := hid (HIT.out.symm.trans (pAll_done (List.drop_of_length_le (by simp; omega))))
      go_wp2_with fail
      go_fit hE
      clear hE
      rintro e w0 ⟨rfl, nq, rfl⟩
      go_wp2_with fail
      go_ret2
      refine ⟨?_, hPr.drewN _⟩
      rw [HDone.out]
      exact ⟨a, cap, rfl, hcap, by omega, RowD.keep (fun b hb => ⟨rfl, hb⟩) HRow.out⟩
end Go.Proofs.YtfhiolnoalghmaaDoor
