/- The bringer brings the roots: bringRoots. -/
import Derived.Test.YtfjfobpdlmdddaaHCollP
import Derived.Test.YtfjfobpdlmdddaaHBring
import Derived.Laws.MakeOwn
import Derived.Deep.LoopGhost
namespace Go.Proofs.Ytfjfobpdlmdddaa
set_option maxRecDepth 100000
open Go.RowKit Go.Maps
/-- A row that is none of the bringer's. -/
def Sep (cb pb mb nb : Nat) (v u vr : Value) : Prop := ∀ g, vr.ownBlock = some g → ¬ g = cb ∧ ¬ g = pb ∧ ¬ g = mb ∧ ¬ g = nb ∧ ¬ v.ownBlock = some g ∧ ¬ u.ownBlock = some g
theorem BrM.lts {w : World} {B cb : Nat} {a : Option Addr} {len cap : Nat} {l : List Wd} {v : Value} {acc : List Th} {pb mb : Nat} {ms : List (Int × Int)} {nb : Nat} {u : Value} {st : Br} (h : BrM w B cb a len cap l v acc pb mb ms nb u st) :
    ∀ b, (b = cb ∨ b = pb ∨ b = mb ∨ b = nb ∨ v.ownBlock = some b ∨ u.ownBlock = some b) → b < w.heap.size := by
  intro b hb
  rcases hb with rfl | rfl | rfl | rfl | hb | hb
  · exact h.ch.lt
  · exact h.ch.pl.lt
  · exact h.ch.mv.lt
  · exact h.nw.lt
  · exact (h.ch.row.own_lt hb).2
  · exact (h.row.own_lt hb).2
theorem one_word (w : World) (k n : Int) (s : ByteArray) (t : TypeId) : ∀ j x, (wcs [⟨k, n, s⟩])[j]? = some x → (w.alloc (.cells #[.int .i64 k, .int .i64 n, .string s] t)).cell? ((⟨w.heap.size, 0, none⟩ : Addr).add j) = some x := by
  intro j x hx
  have e : wcs [⟨k, n, s⟩] = [.int .i64 k, .int .i64 n, .string s] := by simp [wcs]
  rw [e] at hx
  exact news3v w _ _ _ t j x hx
set_option maxHeartbeats 4000000 in
theorem bringRoots_any (w : World) (B cb : Nat) (a : Option Addr) (len cap : Nat) (l : List Wd) (v : Value) (acc : List Th) (pb mb : Nat) (ms : List (Int × Int)) (nb : Nat) (u : Value) (st : Br) (lim : Int) (hM : BrM w B cb a len cap l v acc pb mb ms nb u st) (hok : OkC lim l acc ms) (hlen : len = l.length) (hcap : len ≤ cap)
    (ord : List Th) (hI : Inv l acc st ord 0 0) (ra : Option Addr) (rl rc : Nat) (R : List Wd) (hR : Wds w B ra R) (hrl : rl = R.length) (hrb : rl * 32 ≤ 140737488355328) (hwf : wfL R) (hv5 : ∀ x ∈ R, x.k = 5 → hasI (plOf acc) x.n = true) :
    Calls Try.prog 26 #[.pointer (some ⟨cb, 0, none⟩), .slice ra rl rc] w fun e w' => ∃ vr u', e = .returned vr ∧ WdL w' B vr (brgs l ms st R).2 ∧ BrM w' B cb a len cap l v acc pb mb ms nb u' (brgs l ms st R).1 ∧ Sep cb pb mb nb v u' vr ∧ Below B w w' := by
  have HRl := hid hrl
  have HLen := hid hlen
  clear hrl hlen
  obtain ⟨i0, hi, iz0, iz1, iz2⟩ := info_parts infoWd
  have HI := hid hi
  have HZ0 := hid iz0
  have HZ1 := hid iz1
  have HZ2 := hid iz2
  have hBw : B ≤ w.heap.size := by have := hM.ch.hcb; have := hM.ch.lt; omega
  obtain ⟨w1, hrun, hown, hgr⟩ := run_make_own (P := Try.prog) w B 22 37 i0 _ 3 Try.underlying22 hi iz0 iz1 .i64 .i64 rl (by rw [iz2]; omega) (by unfold maxLen; omega) hBw
  clear hi iz0 iz1 iz2
  have HSt : Hid (∃ vr u', vr = .slice (some ⟨w.heap.size, 0, none⟩) 0 rl ∧ WdL w1 B vr (brgs l ms st (R.take 0)).2 ∧ BrM w1 B cb a len cap l v acc pb mb ms nb u' (brgs l ms st (R.take 0)).1 ∧ Sep cb pb mb nb v u' vr ∧ Below B w w1) := hid (by
    have hb1 : Below w.heap.size w w1 := (Below.refl _ _).grown hgr (Nat.le_refl _) (fun j hj => by cases hj)
    refine ⟨_, u, rfl, hown, hM.below hb1, fun g hg => ?_, hb1.mono hBw⟩
    simp [Value.ownBlock] at hg
    subst hg
    have hl := hM.lts
    refine ⟨fun e => ?_, fun e => ?_, fun e => ?_, fun e => ?_, fun e => ?_, fun e => ?_⟩
    · have := hl cb (by simp); omega
    · have := hl pb (by simp); omega
    · have := hl mb (by simp); omega
    · have := hl nb (by simp); omega
    · have := hl _ (Or.inr (Or.inr (Or.inr (Or.inr (Or.inl e))))); omega
    · have := hl _ (Or.inr (Or.inr (Or.inr (Or.inr (Or.inr e))))); omega)
  have HInv := hid (fun q => Inv.brgs hok (R.take q) st ord hI (fun x hx => hv5 x (List.mem_of_mem_take hx)))
  have HHok := hid hok
  have hrl9 : (rl : Int) ≤ 9223372036854775807 := by omega
  clear hown hgr hM
  go_enter Try.func26, Try.ntmps26
  go_wp2_with fail
  go_loopw [5, 13] (fun vr i wr => ∃ q : Nat, q ≤ rl ∧ i = .int .i64 q ∧ WdL wr B vr (brgs l ms st (R.take q)).2 ∧ (∃ u', BrM wr B cb a len cap l v acc pb mb ms nb u' (brgs l ms st (R.take q)).1 ∧ Sep cb pb mb nb v u' vr) ∧ Below B w wr) (fun _ i _ => rl - (intOf i).toNat)
  case atStart =>
    obtain ⟨vr, u', rfl, h1, h2, h3, h4⟩ := HSt.out
    exact ⟨0, Nat.zero_le _, rfl, h1, ⟨u', h2, h3⟩, h4⟩
  case round =>
    obtain ⟨q, hq, rfl, hvr, ⟨u', hMr, hsep⟩, hbr⟩ := hrel
    by_cases hlt : q < rl
    · have hlt2 : (q : Int) < rl := by omega
      have hq2 : q < R.length := by rw [← HRl.out]; exact hlt
      obtain ⟨b, o, rfl, hbB, c0, c1, c2⟩ := (hR.below hbr) q hq2
      have hwq := (hwf q hq2).1
      have hx5 := hv5 R[q] (List.getElem_mem hq2)
      have hsn := brgs_snoc l ms R[q] (R.take q) st
      rw [← List.take_succ_eq_append_getElem hq2] at hsn
      have hln := brgs_len l ms (R.take q) st
      rw [List.length_take, Nat.min_eq_left (by omega)] at hln
      obtain ⟨ord', hI'⟩ := HInv.out q
      obtain ⟨hw6, hn6, _⟩ := hI'.small HHok.out.chain
      have hr6 := HHok.out.room
      have hh6 := HHok.out.hi
      have HSn := hid hsn
      clear hsn hI'
      generalize R[q] = x at *
      obtain ⟨k, n, s⟩ := x
      generalize brgs l ms st (R.take q) = S at *
      obtain ⟨st', out⟩ := S
      dsimp only at *
      have hzr := hbr.size
      have hBr : B ≤ wr.heap.size := by omega
      obtain ⟨wA, hwA⟩ : ∃ wA, wA = wr.alloc (.cells #[.int .i64 k, .int .i64 n, .string s] 37) := ⟨_, rfl⟩
      have hbA : Below wr.heap.size wr wA := by rw [hwA]; exact (Below.refl _ _).alloc (Nat.le_refl _) _
      have hzA : wA.heap.size = wr.heap.size + 1 := by rw [hwA]; simp
      have HC := hid (bring_any wA B cb a len cap l v acc pb mb ms nb u' st' lim (hMr.below hbA) HHok.out HLen.out hcap (by omega) (by omega) k n s hwq hx5)
      have HVr := hid hvr
      have HSep := hid hsep
      have HBr := hid hbr
      have HBA := hid hbA
      have HZA := hid hzA
      rw [hwA] at HC
      have HWA := hid hwA
      clear hvr hMr hsep hbr hbA hzA hwA
      go_wp2_with fail
      have hcall := HC.out
      go_fit hcall
      clear hcall
      rw [← HWA.out]
      rintro e w2 ⟨rfl, hb2, ⟨u2, hM2, hu2⟩, hk2⟩
      have hz2 := hb2.size
      have hzA := HZA.out
      have hgl : ∀ g, u5.ownBlock = some g → g < wr.heap.size := fun g hg => (HVr.out.own_lt hg).2
      have hv2 : WdL w2 B u5 out := HVr.out.keep (fun g hg => (hk2 g (by have := hgl g hg; omega) (HSep.out g hg).1 (HSep.out g hg).2.2.2.1 (HSep.out g hg).2.2.2.2.2).trans (HBA.out.block g (hgl g hg)))
      have hs2 : Sep cb pb mb nb v u2 u5 := fun g hg => ⟨(HSep.out g hg).1, (HSep.out g hg).2.1, (HSep.out g hg).2.2.1, (HSep.out g hg).2.2.2.1, (HSep.out g hg).2.2.2.2.1, fun e => by
        rcases hu2 g e with h | h
        · exact (HSep.out g hg).2.2.2.2.2 h
        · have := hgl g hg; omega⟩
      generalize brg l ms st' ⟨k, n, s⟩ = bg at *
      obtain ⟨st2, ⟨k2, n2, s2⟩⟩ := bg
      dsimp only at *
      have hz3 : (w2.alloc (.cells #[.int .i64 k2, .int .i64 n2, .string s2] 37)).heap.size = w2.heap.size + 1 := by simp
      have hb3 : Below w2.heap.size w2 (w2.alloc (.cells #[.int .i64 k2, .int .i64 n2, .string s2] 37)) := (Below.refl _ _).alloc (Nat.le_refl _) _
      have hv3 := hv2.keep (w' := w2.alloc (.cells #[.int .i64 k2, .int .i64 n2, .string s2] 37)) (fun g hg => hb3.block g (hv2.own_lt hg).2)
      have HOwn : Hid (World.ownsRow (w2.alloc (.cells #[.int .i64 k2, .int .i64 n2, .string s2] 37)) B 37 3 u5 q (wcs out)) := hid (by rw [← hln]; exact hv3)
      have HM3 := hid (hM2.below hb3)
      have HBB := hid ((HBr.out.trans (HBA.out.mono (by omega))).trans (hb2.trans (hb3.mono (by omega))))
      have HS2 := hid hs2
      have HLt := hid (fun g (hg : u5.ownBlock = some g) => (hv3.own_lt hg))
      have hq32 : (q + 1) * 32 ≤ 140737488355328 := by omega
      have hB3 : B ≤ w2.heap.size + 1 := by omega
      have HLn := hid hln
      clear hv2 hs2 hv3 hb3 hM2 hu2 hk2 hb2 hgl hln
      go_wp2_with (at_builtin; refine wpList_append_lies _ rfl _ _ 22 rfl B 37 i0 (.agg #[.int .i64 0, .int .i64 0, .string ⟨#[]⟩]) 3 32 Try.underlying22 HI.out HZ0.out HZ1.out HZ2.out rfl (by decide) _ q (wcs out) rfl HOwn.out ⟨w2.heap.size, 0, none⟩ 1 1 [.int .i64 k2, .int .i64 n2, .string s2] rfl rfl (news3v _ _ _ _ _) (by simp [Value.oneCell']) (by decide) (by unfold maxLen; omega) (by omega) (by simp; omega) _ rfl ?_; intro g3 cap3 w4 hown4 hgrow4 hat4 hlt4)
      go_wp2_with fail
      go_roundw
      case rel =>
        have hb4 : Below B (w2.alloc (.cells #[.int .i64 k2, .int .i64 n2, .string s2] 37)) w4 := (Below.refl _ _).grown hgrow4 (by rw [hz3]; omega) (fun j hj => (HLt.out j hj).1)
        refine ⟨q + 1, by omega, by go_num, ?_, ⟨u2, ?_, ?_⟩, HBB.out.trans hb4⟩
        · rw [HSn.out]
          unfold WdL
          rw [wcs_append, List.length_append, HLn.out]
          exact hown4
        · rw [HSn.out]
          refine HM3.out.kept hb4 (fun b hb hx => hgrow4.block b hb (fun e => ?_))
          have h := HS2.out b e.symm
          rcases hx with hx | hx | hx | hx | hx | hx
          · exact h.1 hx
          · exact h.2.1 hx
          · exact h.2.2.1 hx
          · exact h.2.2.2.1 hx
          · exact h.2.2.2.2.1 hx
          · exact h.2.2.2.2.2 hx
        · intro g hg
          simp [Value.ownBlock] at hg
          subst hg
          rcases hat4 with h | h
          · exact HS2.out _ h
          · have hl := HM3.out.lts
            refine ⟨fun e => ?_, fun e => ?_, fun e => ?_, fun e => ?_, fun e => ?_, fun e => ?_⟩
            · have := hl cb (by simp); omega
            · have := hl pb (by simp); omega
            · have := hl mb (by simp); omega
            · have := hl nb (by simp); omega
            · have := hl _ (Or.inr (Or.inr (Or.inr (Or.inr (Or.inl e))))); omega
            · have := hl _ (Or.inr (Or.inr (Or.inr (Or.inr (Or.inr e))))); omega
      case measure => simp [intOf]; omega
    · have hlt2 : ¬ (q : Int) < rl := by omega
      have hkn : R.take q = R := List.take_of_length_le (by rw [← HRl.out]; omega)
      rw [hkn] at hvr hMr
      have HVr := hid hvr
      have HMr := hid hMr
      have HSep := hid hsep
      have HBr := hid hbr
      clear hvr hMr hsep hbr hkn
      go_wp2_with fail
      go_ret
      exact ⟨_, rfl, HVr.out, u', HMr.out, HSep.out, HBr.out⟩
end Go.Proofs.Ytfjfobpdlmdddaa
