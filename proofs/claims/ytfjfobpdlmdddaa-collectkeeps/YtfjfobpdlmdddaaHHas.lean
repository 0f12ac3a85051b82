/- All values of all things are values: heap's hasValues. -/
import Derived.Test.YtfjfobpdlmdddaaHVals
import Derived.Deep.RegionHeld3
namespace Go.Proofs.Ytfjfobpdlmdddaa
set_option maxRecDepth 100000
open Go.RowKit Go.Maps
def sub (l : List Wd) (f e : Nat) : List Wd := (l.take e).drop f
theorem sub_length {l : List Wd} {f e : Nat} (he : e ≤ l.length) : (sub l f e).length = e - f := by unfold sub; simp; omega
theorem sub_at {l : List Wd} {f e i : Nat} (he : e ≤ l.length) (hi : i < (sub l f e).length) : ∃ h : f + i < l.length, (sub l f e)[i] = l[f + i] := by
  have hi2 := hi
  rw [sub_length he] at hi2
  refine ⟨by omega, ?_⟩
  simp only [sub, List.getElem_drop, List.getElem_take]
theorem wds_sub {w : World} {B b o cap : Nat} {l : List Wd} {f e : Nat} (h : Wds w B (some ⟨b, o, none⟩) l) (he : e ≤ l.length) (hc : e ≤ cap) : Wds w B (if cap = f then some ⟨b, o, none⟩ else some ⟨b, o + f * 3, none⟩) (sub l f e) := by
  intro i hi
  have hl := sub_length (f := f) he
  obtain ⟨h1, h2⟩ := sub_at he hi
  rw [if_neg (by omega), h2]
  obtain ⟨b', o', hbo, hb, c0, c1, c2⟩ := h (f + i) h1
  injection hbo with hbo; injection hbo with e1 e2; subst e1 e2
  refine ⟨b, o + f * 3, rfl, hb, ?_, ?_, ?_⟩
  · rw [show o + f * 3 + i * 3 = o + (f + i) * 3 by omega]; exact c0
  · rw [show o + f * 3 + i * 3 = o + (f + i) * 3 by omega]; exact c1
  · rw [show o + f * 3 + i * 3 = o + (f + i) * 3 by omega]; exact c2
theorem wfL_sub {l : List Wd} {f e : Nat} (h : wfL l) (he : e ≤ l.length) : wfL (sub l f e) := by
  intro i hi
  obtain ⟨h1, h2⟩ := sub_at he hi
  rw [h2]; exact h _ h1
def thB (l : List Wd) (ps : List (Int × Int)) (t : Th) : Bool := decide (kindAt l t.h = 10) || allB ps (sub l t.f t.e)
/-- The things of a chain lie within the words. -/
def inL (len : Nat) (acc : List Th) : Prop := ∀ i (h : i < acc.length), acc[i].h < len ∧ acc[i].h < acc[i].f ∧ acc[i].f ≤ acc[i].e ∧ acc[i].e ≤ len
theorem kindAt_nat {l : List Wd} {n : Nat} (h : n < l.length) : kindAt l n = l[n].k := by unfold kindAt; rw [Int.toNat_natCast, List.getElem?_eq_getElem h]
set_option maxHeartbeats 2000000 in
theorem hasValues_any (w : World) (B cb : Nat) (a : Option Addr) (len cap : Nat) (l : List Wd) (v : Value) (acc : List Th) (pb mb : Nat) (ms : List (Int × Int)) (hC : Chart w B cb a len cap l v acc pb mb ms) (hlen : len = l.length) (hl : len ≤ 60000) (hcap : len ≤ cap) (hin : inL len acc) (hacc : acc.length ≤ 60000) (hwf : wfL l) :
    Calls Try.prog 51 #[.pointer (some ⟨cb, 0, none⟩)] w fun e w' => e = .returned (.bool (acc.all (thB l (plOf acc)))) ∧ Below w.heap.size w w' := by
  have hL := hid hlen
  clear hlen
  obtain ⟨av, capv, hv, hcv, hcells⟩ := hC.row.cells
  have c1 := hC.c1
  rw [hv] at c1
  go_enter Try.func51, Try.ntmps51
  go_wp2_with fail
  go_loopw [10] (fun i wr => ∃ k : Nat, k ≤ acc.length ∧ i = .int .i64 k ∧ (∀ j (h : j < acc.length), j < k → thB l (plOf acc) acc[j] = true) ∧ Below w.heap.size w wr) (fun i _ => acc.length - (intOf i).toNat)
  case atStart => exact ⟨0, Nat.zero_le _, rfl, fun j _ h => absurd h (by omega), Below.refl _ _⟩
  case round =>
    obtain ⟨k, hk, rfl, hall, hBr⟩ := hrel
    have HA := hid hall
    have HB := hid hBr
    clear hall
    by_cases hlt : k < acc.length
    · have hlt2 : (k : Int) < acc.length := by omega
      obtain ⟨i1, i2, i3, i4⟩ := hin k hlt
      obtain ⟨g, rfl, hgo, d0, d1, d2⟩ := hcells k hlt
      have hgl := (hC.row.own_lt hgo).2
      have e0 := (hBr.cell (p := ⟨g, _, none⟩) hgl).trans d0
      have e1 := (hBr.cell (p := ⟨g, _, none⟩) hgl).trans d1
      have e2 := (hBr.cell (p := ⟨g, _, none⟩) hgl).trans d2
      have hth : acc[k].h < l.length := by rw [← hL.out]; exact i1
      obtain ⟨bb, o, rfl, hbb, x0, _, _⟩ := hC.wds acc[k].h hth
      generalize hT : acc[k] = t at *
      obtain ⟨th, tf, te⟩ := t
      dsimp only at *
      have HT := hid hT
      clear hT d0 d1 d2
      have HK := hid (kindAt_nat hth)
      generalize l[th].k = kk at x0 HK
      obtain ⟨w1, hw1⟩ : ∃ w1, w1 = wr.alloc (.cells #[.int .i64 (th : Int), .int .i64 (tf : Int), .int .i64 (te : Int)] 81) := ⟨_, rfl⟩
      have hb1 : Below wr.heap.size wr w1 := by rw [hw1]; exact (Below.refl _ _).alloc (Nat.le_refl _) _
      have hz1 : w1.heap.size = wr.heap.size + 1 := by rw [hw1]; simp
      have tt : w1.cell? ⟨wr.heap.size, 0, none⟩ = some (.int .i64 (th : Int)) ∧ w1.cell? ⟨wr.heap.size, 1, none⟩ = some (.int .i64 (tf : Int)) ∧ w1.cell? ⟨wr.heap.size, 2, none⟩ = some (.int .i64 (te : Int)) := by
        rw [hw1]; refine ⟨?_, ?_, ?_⟩ <;> go_simp
      have C1 := (hC.below hBr).below hb1
      have HB1 := hid (hBr.trans (hb1.mono hBr.size))
      have x1 := (HB1.out.cell (p := ⟨bb, _, none⟩) (by have := hC.hcb; have := hC.lt; simp; omega)).trans x0
      have q0 := C1.c0
      obtain ⟨t0, t1, t2⟩ := tt
      have HW := hid hw1
      clear hw1
      go_wp2_with fail
      rw [← HW.out]
      have j1 : (th : Int) < len := by omega
      have j2 : (tf : Int) ≤ te := by omega
      have j3 : (te : Int) ≤ cap := by omega
      by_cases h10 : kk = 10
      · have hd : (kk != 10) = false := by simp [h10]
        subst h10
        go_quiet (fail)
        have HY := hid (show thB l (plOf acc) ⟨th, tf, te⟩ = true by unfold thB; rw [HK.out]; rfl)
        go_wp2_with fail
        go_roundw
        case rel => exact ⟨k + 1, by omega, by go_num, fun j h hj => by
          by_cases e : j = k
          · subst e; rw [HT.out]; exact HY.out
          · exact HA.out j h (by omega), bdrew HB1.out _⟩
        case measure => simp [intOf]; omega
      · have hd : (kk != 10) = true := by simp [h10]
        have C1d := C1.below (show Below w1.heap.size w1 w1.drew from bdrew (Below.refl _ _) 1)
        have hte : te ≤ l.length := by rw [← hL.out]; exact i4
        obtain ⟨A, hA⟩ : ∃ A, (if cap = tf then (some ⟨bb, o, none⟩ : Option Addr) else some ⟨bb, o + tf * 3, none⟩) = some A := by split <;> exact ⟨_, rfl⟩
        have hWs := wds_sub (f := tf) (cap := cap) C1d.wds hte (by omega)
        rw [hA] at hWs
        have hcall := areValues_any w1.drew B cb _ len cap l v acc pb mb ms C1d B (some A) (te - tf) (cap - tf) (sub l tf te) hWs (by have := C1d.lt; have := hC.hcb; omega) (sub_length hte).symm (by omega) (wfL_sub hwf hte)
        have HE := hid (show thB l (plOf acc) ⟨th, tf, te⟩ = allB (plOf acc) (sub l tf te) by unfold thB; rw [HK.out]; simp [h10])
        have HC := hid hcall
        clear hcall C1d hWs
        generalize allB (plOf acc) (sub l tf te) = ab at HC HE
        have hcl := C1.lt
        have HS := hid (fun w' (hb : Below w1.heap.size w1 w') => (⟨hb, (hb.cell (p := ⟨cb, 0, none⟩) hcl).trans q0, (hb.cell (p := ⟨wr.heap.size, 0, none⟩) (by dsimp only; omega)).trans t0, (hb.cell (p := ⟨wr.heap.size, 1, none⟩) (by dsimp only; omega)).trans t1, (hb.cell (p := ⟨wr.heap.size, 2, none⟩) (by dsimp only; omega)).trans t2, (hb.cell (p := ⟨bb, _, none⟩) (by have := hC.hcb; have := hC.lt; have := HB1.out.size; dsimp only; omega)).trans x1⟩ : Below w1.heap.size w1 w' ∧ w'.cell? ⟨cb, 0, none⟩ = some (.slice (some ⟨bb, o, none⟩) len cap) ∧ w'.cell? ⟨wr.heap.size, 0, none⟩ = some (.int .i64 (th : Int)) ∧ w'.cell? ⟨wr.heap.size, 1, none⟩ = some (.int .i64 (tf : Int)) ∧ w'.cell? ⟨wr.heap.size, 2, none⟩ = some (.int .i64 (te : Int)) ∧ w'.cell? ⟨bb, o + th * 3, none⟩ = some (.int .i64 kk)))
        generalize wr.heap.size = tb at *
        clear x0 x1 q0 t0 t1 t2 e0 e1 e2 c1
        go_region_held3 (fun w' => Below w1.heap.size w1 w' ∧ w'.cell? ⟨cb, 0, none⟩ = some (.slice (some ⟨bb, o, none⟩) len cap) ∧ w'.cell? ⟨tb, 0, none⟩ = some (.int .i64 (th : Int)) ∧ w'.cell? ⟨tb, 1, none⟩ = some (.int .i64 (tf : Int)) ∧ w'.cell? ⟨tb, 2, none⟩ = some (.int .i64 (te : Int)) ∧ w'.cell? ⟨bb, o + th * 3, none⟩ = some (.int .i64 kk))
          ((refine HS.out _ ?_; first | exact bdrew (Below.refl _ _) 1 | exact ⟨(by assumption : Below _ w1.drew _).os, (by assumption : Below _ w1.drew _).tape, (by assumption : Below _ w1.drew _).output, (by assumption : Below _ w1.drew _).size, (by assumption : Below _ w1.drew _).block⟩))
          (first
          | (go_at_call 39; refine HC.out.mono ?_; rintro e w2 ⟨rfl, hb2⟩))
        all_goals
          have HB2 := hid (HB1.out.trans ((show Below w1.heap.size w1 w2 from ⟨hb2.os, hb2.tape, hb2.output, hb2.size, hb2.block⟩).mono HB1.out.size))
          clear hb2
          cases ab
          · go_wp2_with fail
            go_ret
            refine ⟨ret_bool ?_, HB2.out⟩
            rw [eq_comm, List.all_eq_false]
            exact ⟨acc[k], List.getElem_mem hlt, by rw [HT.out, HE.out]; simp⟩
          · go_wp2_with fail
            go_roundw
            case rel => exact ⟨k + 1, by omega, by go_num, fun j h hj => by
              by_cases e : j = k
              · subst e; rw [HT.out]; exact HE.out
              · exact HA.out j h (by omega), HB2.out⟩
            case measure => simp [intOf]; omega
    · have HY := hid (show acc.all (thB l (plOf acc)) = true by
        rw [List.all_eq_true]
        intro x hx
        obtain ⟨j, hj, rfl⟩ := List.getElem_of_mem hx
        exact HA.out j hj (by omega))
      have hlt2 : ¬ (k : Int) < acc.length := by omega
      go_wp2_with fail
      go_ret
      exact ⟨ret_bool HY.out.symm, HB.out⟩
end Go.Proofs.Ytfjfobpdlmdddaa
