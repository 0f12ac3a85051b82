/- Values of a heap: heap's isRecord, isValue, areValues. · Things from the last to the first: slices.Backward at things. · All values of all things are values: heap's hasValues. · What was moved, and where it is now: heap's addMoved. -/
import Derived.Test.YtldmanfgmadbfaaGreatDoorQ03
import Derived.RangeFuncNested
import Derived.RangeFuncBound
import Derived.RangeFuncCalls
import Derived.RangeFuncLeaves
import Derived.Shelf.Abstract
import Derived.Shelf.RegionOpen
import Derived.OwnWalkIn
import Derived.TacticsInMore
import Derived.LoopNIn
import Derived.LoopIn
import Derived.Deep.RegionHeld3
import Derived.Maps.OwnIn
import Derived.BigRegionIn
namespace Go.Proofs.YtldmanfgmadbfaaGreatDoor.HH
set_option maxRecDepth 100000
open Go.RowKit Go.Maps
def kindAt (l : List Wd) (n : Int) : Int := match l[n.toNat]? with
  | some w => w.k
  | none => 0
def recB (l : List Wd) (ps : List (Int × Int)) (n : Int) : Bool := hasI ps n && decide (kindAt l n = 9)
def valB (ps : List (Int × Int)) (k n : Int) (s : ByteArray) : Bool :=
  if k = 1 then decide (-1099511627776 ≤ n) && decide (n ≤ 1099511627776) && decide (s.size = 0)
  else if k = 2 then plainB n s 2
  else if k = 3 then plainB n s 1
  else if k = 4 then decide (n = 0) && decide (1 ≤ s.size) && decide (s.size ≤ 16)
  else if k = 5 then hasI ps n && decide (s.size = 0)
  else false
theorem bemptyI (s : ByteArray) : s.toList.isEmpty = decide (s.size = 0) := by
  rw [← bempty]
  cases s.toList <;> rfl
set_option maxHeartbeats 1000000 in
theorem isRecord_any (w : World) (B cb : Nat) (a : Option Addr) (len cap : Nat) (l : List Wd) (v : Value) (acc : List Th) (pb mb : Nat) (ms : List (Int × Int)) (hC : Chart w B cb a len cap l v acc pb mb ms) (hlen : len = l.length) (n : Int) (hn : wfI n)
    (hin : hasI (plOf acc) n = true → 0 ≤ n ∧ n < l.length) :
    Calls Tryz.prog 80 #[.pointer (some ⟨cb, 0, none⟩), .int .i64 n] w fun e w' => e = .returned (.bool (recB l (plOf acc) n)) ∧ w' = w := by
  have hL := hid hlen
  clear hlen
  have hrun := OwnsI.look2 hC.pl hn
  have c2 := hC.c2
  have c0 := hC.c0
  cases hh : hasI (plOf acc) n
  · have HR := hid (show recB l (plOf acc) n = false by unfold recB; rw [hh]; rfl)
    rw [hh] at hrun
    clear hh hin
    go_enter Tryz.func80, Tryz.ntmps80
    go_wp2_with fail
    go_ret
    exact ⟨ret_bool HR.out.symm, rfl⟩
  · obtain ⟨h0, h1⟩ := hin hh
    obtain ⟨m, rfl⟩ := Int.eq_ofNat_of_zero_le h0
    have h2 : m < l.length := by omega
    obtain ⟨bb, o, rfl, _, d0, _, _⟩ := hC.wds m h2
    have HR := hid (show recB l (plOf acc) m = decide (l[m].k = 9) by unfold recB kindAt; rw [hh, Int.toNat_natCast, List.getElem?_eq_getElem h2]; rfl)
    rw [hh] at hrun
    have h3 : (m : Int) < len := by rw [hL.out]; omega
    generalize l[m].k = k at d0 HR
    clear hh hin h1
    go_enter Tryz.func80, Tryz.ntmps80
    go_wp2_with fail
    all_goals (go_ret; exact ⟨ret_bool (by rw [HR.out, Bool.eq_iff_iff]; simp), rfl⟩)
set_option maxHeartbeats 2000000 in
theorem isValue_any (w : World) (B cb : Nat) (a : Option Addr) (len cap : Nat) (l : List Wd) (v : Value) (acc : List Th) (pb mb : Nat) (ms : List (Int × Int)) (hC : Chart w B cb a len cap l v acc pb mb ms) (k n : Int) (s : ByteArray) (hn : wfI n) (hs : s.size ≤ 9223372036854775807) :
    Calls Tryz.prog 93 #[.pointer (some ⟨cb, 0, none⟩), .agg #[.int .i64 k, .int .i64 n, .string s]] w fun e w' => e = .returned (.bool (valB (plOf acc) k n s)) ∧ Below w.heap.size w w' := by
  have he := hid (bempty s)
  obtain ⟨w1, hw1⟩ : ∃ w1, w1 = w.alloc (.cells #[.int .i64 k, .int .i64 n, .string s] 51) := ⟨_, rfl⟩
  have hb1 : Below w.heap.size w w1 := by rw [hw1]; exact (Below.refl _ _).alloc (Nat.le_refl _) _
  have hz1 : w1.heap.size = w.heap.size + 1 := by rw [hw1]; simp
  have tt : w1.cell? ⟨w.heap.size, 0, none⟩ = some (.int .i64 k) ∧ w1.cell? ⟨w.heap.size, 1, none⟩ = some (.int .i64 n) ∧ w1.cell? ⟨w.heap.size, 2, none⟩ = some (.string s) := by
    rw [hw1]; refine ⟨?_, ?_, ?_⟩ <;> go_simp
  have C1 := hC.below hb1
  have HW := hid hw1
  have HZ := hid hz1
  have c2 := C1.c2
  have hrun : (Instr.lookup 95 (.map (some pb)) (.int .i64 n) true).run Tryz.prog w1.drew = .ok (.tuple #[.int .i64 (valI (plOf acc) n), .bool (hasI (plOf acc) n)]) w1.drew := OwnsI.look2 (w := w1.drew) C1.pl hn
  obtain ⟨t0, t1, t2⟩ := tt
  clear hw1 hz1
  go_enter Tryz.func93, Tryz.ntmps93
  by_cases h5 : k = 5
  · subst h5
    have HV : valB (plOf acc) 5 n s = (hasI (plOf acc) n && decide (s.size = 0)) := by unfold valB; simp
    rw [HV]
    generalize hasI (plOf acc) n = hb at hrun ⊢
    generalize valI (plOf acc) n = hv at hrun
    clear HV
    go_wp2_with fail
    rw [← HW.out]
    go_region
    cases hb
    · go_wp2_with fail
      go_ret
      exact ⟨ret_bool rfl, bdrew hb1 1⟩
    · go_wp2_with fail
      go_ret
      exact ⟨ret_bool (by rw [bemptyI]; rfl), bdrew hb1 1⟩
  · clear hrun
    have hb0 := hid ((Below.refl w.heap.size w).alloc (Nat.le_refl _) (.cells #[.int .i64 k, .int .i64 n, .string s] 51))
    go_wp2_with (go_at_call 90; refine (isPlain_any _ _ _ _ _).mono ?_; rintro e w2 ⟨rfl, hb2⟩)
    all_goals (go_ret; refine ⟨ret_bool ?_, ?_⟩)
    all_goals first
      | exact hb0.out
      | exact hb0.out.trans (hb2.mono (by simp))
      | exact (Below.refl _ _).alloc (Nat.le_refl _) _
      | (have e := bemptyI s; clear he hb0 HW HZ C1 hC hb1 t0 t1 t2 c2; try clear hb2
         simp_all [valB])
    all_goals first
      | omega
      | (rw [Bool.eq_iff_iff]; simp; omega)
def allB (ps : List (Int × Int)) (l : List Wd) : Bool := l.all fun x => valB ps x.k x.n x.s
theorem allB_no {ps : List (Int × Int)} {l : List Wd} {i : Nat} (h : i < l.length) (hv : valB ps l[i].k l[i].n l[i].s = false) : allB ps l = false := by
  unfold allB
  rw [List.all_eq_false]
  exact ⟨l[i], List.getElem_mem h, by rw [hv]; simp⟩
def wfL (l : List Wd) : Prop := ∀ i (h : i < l.length), wfI l[i].n ∧ l[i].s.size ≤ 9223372036854775807
set_option maxHeartbeats 2000000 in
theorem areValues_any (w : World) (B cb : Nat) (a : Option Addr) (len cap : Nat) (l : List Wd) (v : Value) (acc : List Th) (pb mb : Nat) (ms : List (Int × Int)) (hC : Chart w B cb a len cap l v acc pb mb ms)
    (B2 : Nat) (a2 : Option Addr) (len2 cap2 : Nat) (l2 : List Wd) (hW : Wds w B2 a2 l2) (hB2 : B2 ≤ w.heap.size) (hlen2 : len2 = l2.length) (hl2 : len2 ≤ 9223372036854775807) (hwf : wfL l2) :
    Calls Tryz.prog 81 #[.pointer (some ⟨cb, 0, none⟩), .slice a2 len2 cap2] w fun e w' => e = .returned (.bool (allB (plOf acc) l2)) ∧ Below w.heap.size w w' := by
  have hL := hid hlen2
  clear hlen2
  go_enter Tryz.func81, Tryz.ntmps81
  go_wp2_with fail
  go_loopw [9] (fun i wr => ∃ k : Nat, k ≤ len2 ∧ i = .int .i64 k ∧ (∀ j (h : j < l2.length), j < k → valB (plOf acc) l2[j].k l2[j].n l2[j].s = true) ∧ Below w.heap.size w wr) (fun i _ => len2 - (intOf i).toNat)
  case atStart => exact ⟨0, Nat.zero_le _, rfl, fun j _ h => absurd h (by omega), Below.refl _ _⟩
  case round =>
    obtain ⟨k, hk, rfl, hall, hBr⟩ := hrel
    have HA := hid hall
    have HB := hid hBr
    clear hall
    by_cases hlt : k < len2
    · have hlt2 : (k : Int) < len2 := by omega
      have hk2 : k < l2.length := by rw [← hL.out]; exact hlt
      have hWr := hW.below (hBr.mono hB2)
      obtain ⟨bb, o, rfl, hbb, d0, d1, d2⟩ := hWr k hk2
      have hbr : bb < wr.heap.size := by have := hBr.size; omega
      obtain ⟨hwn, hws⟩ := hwf k hk2
      cases hv : valB (plOf acc) l2[k].k l2[k].n l2[k].s
      · have HN := hid (allB_no hk2 hv)
        have HV := hid hv
        clear hv
        generalize l2[k].k = kk at d0 HV
        generalize l2[k].n = kn at d1 HV hwn
        generalize l2[k].s = ks at d2 HV hws
        go_wp2_with fail
        have C1 := (hC.below hBr).below ((Below.refl wr.heap.size wr).alloc (Nat.le_refl _) (.cells #[.int .i64 kk, .int .i64 kn, .string ks] 51))
        have hcall := isValue_any _ B cb a len cap l v acc pb mb ms C1 kk kn ks hwn hws
        rw [HV.out] at hcall
        go_fit hcall
        clear hcall
        rintro e w2 ⟨rfl, hb2⟩
        go_wp2_with fail
        go_ret
        exact ⟨ret_bool HN.out.symm, (HB.out.alloc (HB.out.size) _).trans (hb2.mono (by have := HB.out.size; simp; omega))⟩
      · have HV := hid hv
        have HV0 := hid hv
        clear hv
        generalize l2[k].k = kk at d0 HV
        generalize l2[k].n = kn at d1 HV hwn
        generalize l2[k].s = ks at d2 HV hws
        go_wp2_with fail
        have C1 := (hC.below hBr).below ((Below.refl wr.heap.size wr).alloc (Nat.le_refl _) (.cells #[.int .i64 kk, .int .i64 kn, .string ks] 51))
        have hcall := isValue_any _ B cb a len cap l v acc pb mb ms C1 kk kn ks hwn hws
        rw [HV.out] at hcall
        go_fit hcall
        clear hcall
        rintro e w2 ⟨rfl, hb2⟩
        have HB2 := hid ((HB.out.alloc (HB.out.size) (.cells #[.int .i64 kk, .int .i64 kn, .string ks] 51)).trans (hb2.mono (by have := HB.out.size; simp; omega)))
        clear hb2 C1 d0 d1 d2
        go_wp2_with fail
        go_roundw
        case rel => exact ⟨k + 1, by omega, by go_num, fun j h hj => by
          by_cases e : j = k
          · subst e; exact HV0.out
          · exact HA.out j h (by omega), HB2.out⟩
        case measure => simp [intOf]; omega
    · have HY := hid (show allB (plOf acc) l2 = true by
        unfold allB
        rw [List.all_eq_true]
        intro x hx
        obtain ⟨j, hj, rfl⟩ := List.getElem_of_mem hx
        exact HA.out j hj (by rw [← hL.out] at hj; omega))
      have hlt2 : ¬ (k : Int) < len2 := by omega
      go_wp2_with fail
      go_ret
      exact ⟨ret_bool HY.out.symm, HB.out⟩
end Go.Proofs.YtldmanfgmadbfaaGreatDoor.HH
namespace Go.Proofs.YtldmanfgmadbfaaGreatDoor.HH
set_option maxRecDepth 100000
open Go.RowKit Go.Shelf
attribute [local go_sem] Oper.semAt_some
/-- A thing that begins below M. -/
abbrev TT (M : Nat) := { t : Th // t.h < M }
def encT {M : Nat} (x : Nat × TT M) : Array Value := #[.int .i64 (x.1 : Int), .agg #[.int .i64 (x.2.1.h : Int), .int .i64 (x.2.1.f : Int), .int .i64 (x.2.1.e : Int)]]
def thsOf {M : Nat} (l : List (Nat × TT M)) : List Th := l.map fun x => x.2.1
/-- What lay ahead of N is as it was, but for block mb. -/
structure KpM (N mb : Nat) (W W' : World) : Prop where
  size : W.heap.size ≤ W'.heap.size
  block : ∀ k, k < N → ¬ k = mb → W'.heap[k]? = W.heap[k]?
theorem KpM.refl (N mb : Nat) (W : World) : KpM N mb W W := ⟨Nat.le_refl _, fun _ _ _ => rfl⟩
theorem KpM.trans {N mb : Nat} {a b c : World} (h : KpM N mb a b) (k : KpM N mb b c) : KpM N mb a c := ⟨Nat.le_trans h.size k.size, fun i hi hn => (k.block i hi hn).trans (h.block i hi hn)⟩
theorem KpM.putObj {N mb : Nat} {w : World} (hN : N ≤ w.heap.size) (W : World) (l : Nat) (o o' : Obj) (hl : w.heap.size ≤ l) (h : W.heap[l]? = some o) (_ : o.isCells = false) (_ : o.isWalk = false) : KpM N mb W (W.putObj l o') :=
  ⟨(grownBy_putObj' W l o').size, fun k hk _ => (grownBy_putObj' W l o').block k (by have := (Array.getElem?_eq_some_iff.1 h).1; omega) (fun e => by cases e; omega)⟩
/-- Things lie in a row. -/
def ThsIn (W : World) (N mb : Nat) (a : Option Addr) (acc : List Th) : Prop :=
  ∀ i (h : i < acc.length), ∃ g, a = some ⟨g, 0, none⟩ ∧ g < N ∧ ¬ g = mb ∧ W.cell? ⟨g, i * 3, none⟩ = some (.int .i64 acc[i].h) ∧ W.cell? ⟨g, i * 3 + 1, none⟩ = some (.int .i64 acc[i].f) ∧ W.cell? ⟨g, i * 3 + 2, none⟩ = some (.int .i64 acc[i].e)
theorem ThsIn.keep {W W' : World} {N mb : Nat} {a : Option Addr} {acc : List Th} (h : ThsIn W N mb a acc) (hk : KpM N mb W W') : ThsIn W' N mb a acc := by
  intro i hi
  obtain ⟨g, h1, h2, h3, c0, c1, c2⟩ := h i hi
  have hb := hk.block g h2 h3
  exact ⟨g, h1, h2, h3, (World.cell?_of_block (w := W) hb).trans c0, (World.cell?_of_block (w := W) hb).trans c1, (World.cell?_of_block (w := W) hb).trans c2⟩
set_option maxRecDepth 100000 in
set_option maxHeartbeats 2000000 in
theorem back1_in (F : Fence) (n : Nat) (h58 : F.fn 92) (hro : F.round = none) (hn : 1 ≤ n) {M : Nat} (l Bs N mb : Nat) (a : Option Addr) (cap : Nat) (acc : List Th) (hin : ∀ i (h : i < acc.length), acc[i].h < M) (hacc : acc.length ≤ 60000) (hBN : Bs < N) (hBm : ¬ Bs = mb) (J Jx : List (Nat × TT M) → World → Prop)
    (hY : ∀ pre x W, J pre W → pre.length < acc.length → YieldAt F (n - 1) Tryz.prog l (encT x) W fun e W' =>
      (e = .returned (.bool true) ∧ J (pre ++ [x]) W' ∧ KpM N mb W W') ∨ (e = .returned (.bool false) ∧ Jx (pre ++ [x]) W'))
    (W : World) (hBs : W.cell? ⟨Bs, 0, none⟩ = some (.slice a acc.length cap)) (hc : ThsIn W N mb a acc) (h0 : J [] W) :
    CallsIn F n Tryz.prog 92 #[.func (.yield l) #[] #[], .pointer (some ⟨Bs, 0, none⟩)] W fun e W' => (∃ v, e = .returned v) ∧
      ((∃ ys, thsOf ys = acc.reverse ∧ J ys W') ∨ (∃ pre, (∃ k, k < acc.length ∧ thsOf pre = (acc.drop k).reverse) ∧ Jx pre W')) := by
  refine callsIn_of_wp Tryz.func92 rfl h58 ?_ hro
  simp only [Tryz.ntmps92, List.size_toArray, List.length_cons, List.length_nil, Nat.reduceAdd, Nat.reduceSub, Array.replicate_succ, Array.replicate_zero, List.push_toArray, List.append_toArray, List.nil_append, List.cons_append]
  gi_wp2
  gi_loopw [3] (fun i wr => ∃ (k : Nat) (z : Int) (pre : List (Nat × TT M)), k ≤ acc.length ∧ i = .int .i64 z ∧ z = (k : Int) - 1 ∧ thsOf pre = (acc.drop k).reverse ∧ pre.length = acc.length - k ∧ J pre wr ∧ KpM N mb W wr)
    (fun i _ => (intOf i + 1).toNat)
  case atStart => exact ⟨acc.length, _, [], Nat.le_refl _, rfl, rfl, by simp [thsOf], by simp, h0, KpM.refl _ _ _⟩
  case round =>
    obtain ⟨k, z, pre, hk, rfl, hz, hth, hpl, hJs, hkp⟩ := hrel
    have hbs := (World.cell?_of_block (w := W) (a := ⟨Bs, 0, none⟩) (hkp.block Bs hBN hBm)).trans hBs
    cases k with
    | zero =>
      obtain rfl : z = -1 := by simpa using hz
      have HT := hid hth
      clear hz hth hpl hkp
      have hneg : ¬ (0 : Int) ≤ -1 := by omega
      gi_wp2
      go_end0
      exact ⟨⟨_, rfl⟩, .inl ⟨pre, by simpa using HT.out, hJs⟩⟩
    | succ m =>
      obtain rfl : z = (m : Int) := by omega
      have hm : m < acc.length := by omega
      have hm2 : (m : Int) < acc.length := by omega
      obtain ⟨g, rfl, hgN, hgm, d0, d1, d2⟩ := (hc.keep hkp) m hm
      obtain ⟨fn, tmps, assign, body, hy, hR⟩ := hY pre (m, ⟨acc[m], hin m hm⟩) wr hJs (by omega)
      dsimp only [encT] at hy
      have hstep : thsOf (pre ++ [(m, (⟨acc[m], hin m hm⟩ : TT M))]) = (acc.drop m).reverse := by
        rw [List.drop_eq_getElem_cons hm, List.reverse_cons, ← hth]; simp [thsOf]
      have HS := hid hstep
      have HZ := hid hz
      have HP := hid hpl
      have HK := hid hkp
      clear hstep hz hpl hth hkp
      generalize acc[m].h = x0 at hy d0
      generalize acc[m].f = x1 at hy d1
      generalize acc[m].e = x2 at hy d2
      gi_wp2
      refine hR.mono ?_
      rintro e W3 (⟨rfl, hJ3, hk3⟩ | ⟨rfl, hJx3⟩)
      · gi_wp2
        go_roundw
        case rel => exact ⟨m, _, pre ++ [(m, ⟨acc[m], hin m hm⟩)], by omega, rfl, rfl, HS.out, by have := HP.out; simp; omega, hJ3, HK.out.trans hk3⟩
        case measure => simp [intOf]
      · gi_wp2
        refine bodyPost_ret (results_none rfl _ _ _) rfl ?_
        exact ⟨⟨_, rfl⟩, .inr ⟨_, ⟨m, hm, HS.out⟩, hJx3⟩⟩
theorem back_stops (F : Fence) (n : Nat) (h58 : F.fn 92) (hro : F.round = none) (hn : 1 ≤ n) {M : Nat} (Bs N mb : Nat) (a : Option Addr) (cap : Nat) (acc : List Th) (hin : ∀ i (h : i < acc.length), acc[i].h < M) (hacc : acc.length ≤ 60000) (hBN : Bs < N) (hBm : ¬ Bs = mb) (w : World) (hNw : N ≤ w.heap.size)
    (hBs : w.cell? ⟨Bs, 0, none⟩ = some (.slice a acc.length cap)) (hc : ThsIn w N mb a acc) :
    SeqStopsK F n Tryz.prog 92 #[.pointer (some ⟨Bs, 0, none⟩)] (encT (M := M)) (KpM N mb) (fun ys => thsOf ys = acc.reverse) (fun pre => ∃ k, k < acc.length ∧ thsOf pre = (acc.drop k).reverse) acc.length w := fun l J Jx W hW _ _ hY h0 =>
  back1_in F n h58 hro hn l Bs N mb a cap acc hin hacc hBN hBm J Jx hY W ((hW.cell (p := ⟨Bs, 0, none⟩) (by dsimp only; omega)).trans hBs) (hc.keep ⟨hW.size, fun k hk _ => hW.block k (by omega)⟩) h0
set_option maxHeartbeats 1000000 in
theorem back_in (F : Fence) (n : Nat) (h52 : F.fn 79) (hro : F.round = none) (a : Option Addr) (len cap : Nat) (w : World) :
    CallsIn F n Tryz.prog 79 #[.slice a len cap] w fun e w' => e = .returned (.func (.func 92) #[] #[.pointer (some ⟨w.heap.size, 0, none⟩)]) ∧ w' = w.alloc (.cells #[.slice a len cap] 94) := by
  refine callsIn_of_wp Tryz.func79 rfl h52 ?_ hro
  simp only [Tryz.ntmps79, List.size_toArray, List.length_cons, List.length_nil, Nat.reduceAdd, Nat.reduceSub, Array.replicate_succ, Array.replicate_zero, List.push_toArray, List.append_toArray, List.nil_append, List.cons_append]
  gi_wp2
  go_ret
  exact ⟨rfl, rfl⟩
end Go.Proofs.YtldmanfgmadbfaaGreatDoor.HH
namespace Go.Proofs.YtldmanfgmadbfaaGreatDoor.HH
set_option maxRecDepth 100000
open Go.RowKit Go.Maps
def sub (l : List Wd) (f e : Nat) : List Wd := (l.take e).drop f
theorem sub_length {l : List Wd} {f e : Nat} (he : e ≤ l.length) : (sub l f e).length = e - f := by unfold sub; simp; omega
theorem sub_at {l : List Wd} {f e i : Nat} (he : e ≤ l.length) (hi : i < (sub l f e).length) : ∃ h : f + i < l.length, (sub l f e)[i] = l[f + i] := by
  have hi2 := hi
  rw [sub_length he] at hi2
  refine ⟨by omega, ?_⟩
  simp only [sub, List.getElem_drop, List.getElem_take]
theorem wds_sub {w : World} {B b o cap : Nat} {l : List Wd} {f e : Nat} (h : Wds w B (some ⟨b, o, none⟩) l) (he : e ≤ l.length) (hc : e ≤ cap) : Wds w B (if cap = f then some ⟨b, o, none⟩ else some ⟨b, o + f * 3, none⟩) (sub l f e) := by
  intro i hi
  have hl := sub_length (f := f) he
  obtain ⟨h1, h2⟩ := sub_at he hi
  rw [if_neg (by omega), h2]
  obtain ⟨b', o', hbo, hb, c0, c1, c2⟩ := h (f + i) h1
  injection hbo with hbo; injection hbo with e1 e2; subst e1 e2
  refine ⟨b, o + f * 3, rfl, hb, ?_, ?_, ?_⟩
  · rw [show o + f * 3 + i * 3 = o + (f + i) * 3 by omega]; exact c0
  · rw [show o + f * 3 + i * 3 = o + (f + i) * 3 by omega]; exact c1
  · rw [show o + f * 3 + i * 3 = o + (f + i) * 3 by omega]; exact c2
theorem wfL_sub {l : List Wd} {f e : Nat} (h : wfL l) (he : e ≤ l.length) : wfL (sub l f e) := by
  intro i hi
  obtain ⟨h1, h2⟩ := sub_at he hi
  rw [h2]; exact h _ h1
def thB (l : List Wd) (ps : List (Int × Int)) (t : Th) : Bool := decide (kindAt l t.h = 10) || allB ps (sub l t.f t.e)
/-- The things of a chain lie within the words. -/
def inL (len : Nat) (acc : List Th) : Prop := ∀ i (h : i < acc.length), acc[i].h < len ∧ acc[i].h < acc[i].f ∧ acc[i].f ≤ acc[i].e ∧ acc[i].e ≤ len
theorem kindAt_nat {l : List Wd} {n : Nat} (h : n < l.length) : kindAt l n = l[n].k := by unfold kindAt; rw [Int.toNat_natCast, List.getElem?_eq_getElem h]
set_option maxHeartbeats 2000000 in
theorem hasValues_any (w : World) (B cb : Nat) (a : Option Addr) (len cap : Nat) (l : List Wd) (v : Value) (acc : List Th) (pb mb : Nat) (ms : List (Int × Int)) (hC : Chart w B cb a len cap l v acc pb mb ms) (hlen : len = l.length) (hl : len ≤ 60000) (hcap : len ≤ cap) (hin : inL len acc) (hacc : acc.length ≤ 60000) (hwf : wfL l) :
    Calls Tryz.prog 65 #[.pointer (some ⟨cb, 0, none⟩)] w fun e w' => e = .returned (.bool (acc.all (thB l (plOf acc)))) ∧ Below w.heap.size w w' := by
  have hL := hid hlen
  clear hlen
  obtain ⟨av, capv, hv, hcv, hcells⟩ := hC.row.cells
  have c1 := hC.c1
  rw [hv] at c1
  go_enter Tryz.func65, Tryz.ntmps65
  go_wp2_with fail
  go_loopw [10] (fun i wr => ∃ k : Nat, k ≤ acc.length ∧ i = .int .i64 k ∧ (∀ j (h : j < acc.length), j < k → thB l (plOf acc) acc[j] = true) ∧ Below w.heap.size w wr) (fun i _ => acc.length - (intOf i).toNat)
  case atStart => exact ⟨0, Nat.zero_le _, rfl, fun j _ h => absurd h (by omega), Below.refl _ _⟩
  case round =>
    obtain ⟨k, hk, rfl, hall, hBr⟩ := hrel
    have HA := hid hall
    have HB := hid hBr
    clear hall
    by_cases hlt : k < acc.length
    · have hlt2 : (k : Int) < acc.length := by omega
      obtain ⟨i1, i2, i3, i4⟩ := hin k hlt
      obtain ⟨g, rfl, hgo, d0, d1, d2⟩ := hcells k hlt
      have hgl := (hC.row.own_lt hgo).2
      have e0 := (hBr.cell (p := ⟨g, _, none⟩) hgl).trans d0
      have e1 := (hBr.cell (p := ⟨g, _, none⟩) hgl).trans d1
      have e2 := (hBr.cell (p := ⟨g, _, none⟩) hgl).trans d2
      have hth : acc[k].h < l.length := by rw [← hL.out]; exact i1
      obtain ⟨bb, o, rfl, hbb, x0, _, _⟩ := hC.wds acc[k].h hth
      generalize hT : acc[k] = t at *
      obtain ⟨th, tf, te⟩ := t
      dsimp only at *
      have HT := hid hT
      clear hT d0 d1 d2
      have HK := hid (kindAt_nat hth)
      generalize l[th].k = kk at x0 HK
      obtain ⟨w1, hw1⟩ : ∃ w1, w1 = wr.alloc (.cells #[.int .i64 (th : Int), .int .i64 (tf : Int), .int .i64 (te : Int)] 129) := ⟨_, rfl⟩
      have hb1 : Below wr.heap.size wr w1 := by rw [hw1]; exact (Below.refl _ _).alloc (Nat.le_refl _) _
      have hz1 : w1.heap.size = wr.heap.size + 1 := by rw [hw1]; simp
      have tt : w1.cell? ⟨wr.heap.size, 0, none⟩ = some (.int .i64 (th : Int)) ∧ w1.cell? ⟨wr.heap.size, 1, none⟩ = some (.int .i64 (tf : Int)) ∧ w1.cell? ⟨wr.heap.size, 2, none⟩ = some (.int .i64 (te : Int)) := by
        rw [hw1]; refine ⟨?_, ?_, ?_⟩ <;> go_simp
      have C1 := (hC.below hBr).below hb1
      have HB1 := hid (hBr.trans (hb1.mono hBr.size))
      have x1 := (HB1.out.cell (p := ⟨bb, _, none⟩) (by have := hC.hcb; have := hC.lt; simp; omega)).trans x0
      have q0 := C1.c0
      obtain ⟨t0, t1, t2⟩ := tt
      have HW := hid hw1
      clear hw1
      go_wp2_with fail
      rw [← HW.out]
      have j1 : (th : Int) < len := by omega
      have j2 : (tf : Int) ≤ te := by omega
      have j3 : (te : Int) ≤ cap := by omega
      by_cases h10 : kk = 10
      · have hd : (kk != 10) = false := by simp [h10]
        subst h10
        go_quiet (fail)
        have HY := hid (show thB l (plOf acc) ⟨th, tf, te⟩ = true by unfold thB; rw [HK.out]; rfl)
        go_wp2_with fail
        go_roundw
        case rel => exact ⟨k + 1, by omega, by go_num, fun j h hj => by
          by_cases e : j = k
          · subst e; rw [HT.out]; exact HY.out
          · exact HA.out j h (by omega), bdrew HB1.out _⟩
        case measure => simp [intOf]; omega
      · have hd : (kk != 10) = true := by simp [h10]
        have C1d := C1.below (show Below w1.heap.size w1 w1.drew from bdrew (Below.refl _ _) 1)
        have hte : te ≤ l.length := by rw [← hL.out]; exact i4
        obtain ⟨A, hA⟩ : ∃ A, (if cap = tf then (some ⟨bb, o, none⟩ : Option Addr) else some ⟨bb, o + tf * 3, none⟩) = some A := by split <;> exact ⟨_, rfl⟩
        have hWs := wds_sub (f := tf) (cap := cap) C1d.wds hte (by omega)
        rw [hA] at hWs
        have hcall := areValues_any w1.drew B cb _ len cap l v acc pb mb ms C1d B (some A) (te - tf) (cap - tf) (sub l tf te) hWs (by have := C1d.lt; have := hC.hcb; omega) (sub_length hte).symm (by omega) (wfL_sub hwf hte)
        have HE := hid (show thB l (plOf acc) ⟨th, tf, te⟩ = allB (plOf acc) (sub l tf te) by unfold thB; rw [HK.out]; simp [h10])
        have HC := hid hcall
        clear hcall C1d hWs
        generalize allB (plOf acc) (sub l tf te) = ab at HC HE
        have hcl := C1.lt
        have HS := hid (fun w' (hb : Below w1.heap.size w1 w') => (⟨hb, (hb.cell (p := ⟨cb, 0, none⟩) hcl).trans q0, (hb.cell (p := ⟨wr.heap.size, 0, none⟩) (by dsimp only; omega)).trans t0, (hb.cell (p := ⟨wr.heap.size, 1, none⟩) (by dsimp only; omega)).trans t1, (hb.cell (p := ⟨wr.heap.size, 2, none⟩) (by dsimp only; omega)).trans t2, (hb.cell (p := ⟨bb, _, none⟩) (by have := hC.hcb; have := hC.lt; have := HB1.out.size; dsimp only; omega)).trans x1⟩ : Below w1.heap.size w1 w' ∧ w'.cell? ⟨cb, 0, none⟩ = some (.slice (some ⟨bb, o, none⟩) len cap) ∧ w'.cell? ⟨wr.heap.size, 0, none⟩ = some (.int .i64 (th : Int)) ∧ w'.cell? ⟨wr.heap.size, 1, none⟩ = some (.int .i64 (tf : Int)) ∧ w'.cell? ⟨wr.heap.size, 2, none⟩ = some (.int .i64 (te : Int)) ∧ w'.cell? ⟨bb, o + th * 3, none⟩ = some (.int .i64 kk)))
        generalize wr.heap.size = tb at *
        clear x0 x1 q0 t0 t1 t2 e0 e1 e2 c1
        go_region_held3 (fun w' => Below w1.heap.size w1 w' ∧ w'.cell? ⟨cb, 0, none⟩ = some (.slice (some ⟨bb, o, none⟩) len cap) ∧ w'.cell? ⟨tb, 0, none⟩ = some (.int .i64 (th : Int)) ∧ w'.cell? ⟨tb, 1, none⟩ = some (.int .i64 (tf : Int)) ∧ w'.cell? ⟨tb, 2, none⟩ = some (.int .i64 (te : Int)) ∧ w'.cell? ⟨bb, o + th * 3, none⟩ = some (.int .i64 kk))
          ((refine HS.out _ ?_; first | exact bdrew (Below.refl _ _) 1 | exact ⟨(by assumption : Below _ w1.drew _).os, (by assumption : Below _ w1.drew _).tape, (by assumption : Below _ w1.drew _).output, (by assumption : Below _ w1.drew _).size, (by assumption : Below _ w1.drew _).block⟩))
          (first
          | (go_at_call 81; refine HC.out.mono ?_; rintro e w2 ⟨rfl, hb2⟩))
        all_goals
          have HB2 := hid (HB1.out.trans ((show Below w1.heap.size w1 w2 from ⟨hb2.os, hb2.tape, hb2.output, hb2.size, hb2.block⟩).mono HB1.out.size))
          clear hb2
          cases ab
          · go_wp2_with fail
            go_ret
            refine ⟨ret_bool ?_, HB2.out⟩
            rw [eq_comm, List.all_eq_false]
            exact ⟨acc[k], List.getElem_mem hlt, by rw [HT.out, HE.out]; simp⟩
          · go_wp2_with fail
            go_roundw
            case rel => exact ⟨k + 1, by omega, by go_num, fun j h hj => by
              by_cases e : j = k
              · subst e; rw [HT.out]; exact HE.out
              · exact HA.out j h (by omega), HB2.out⟩
            case measure => simp [intOf]; omega
    · have HY := hid (show acc.all (thB l (plOf acc)) = true by
        rw [List.all_eq_true]
        intro x hx
        obtain ⟨j, hj, rfl⟩ := List.getElem_of_mem hx
        exact HA.out j hj (by omega))
      have hlt2 : ¬ (k : Int) < acc.length := by omega
      go_wp2_with fail
      go_ret
      exact ⟨ret_bool HY.out.symm, HB.out⟩
end Go.Proofs.YtldmanfgmadbfaaGreatDoor.HH
namespace Go.Proofs.YtldmanfgmadbfaaGreatDoor.HH
set_option maxRecDepth 100000
open Go.RowKit Go.Shelf Go.Maps
attribute [local go_sem] Oper.semAt_some
def nInt (l : List Wd) (i : Nat) : Int := match l[i]? with
  | some w => w.n
  | none => 0
def toOf (l : List Wd) (ms : List (Int × Int)) (t : Th) : Int := if hasI ms (nInt l t.h) = true then valI ms (nInt l t.h) else nInt l t.h
/-- One thing more, from the last to the first. -/
def mvStep (l : List Wd) (ps ms : List (Int × Int)) (t : Th) : Option (List (Int × Int)) :=
  if kindAt l t.h = 10 then (if recB l ps (toOf l ms t) = true then some (((t.h : Int), toOf l ms t) :: ms) else none) else some ms
def mvAll (l : List Wd) (ps : List (Int × Int)) : List Th → List (Int × Int) → Option (List (Int × Int))
  | [], ms => some ms
  | t :: r, ms => (mvStep l ps ms t).bind (mvAll l ps r)
theorem mvAll_snoc (l : List Wd) (ps : List (Int × Int)) (t : Th) : ∀ (r : List Th) (ms : List (Int × Int)), mvAll l ps (r ++ [t]) ms = (mvAll l ps r ms).bind fun ms' => mvStep l ps ms' t
  | [], ms => by simp [mvAll]
  | x :: r, ms => by
    simp only [List.cons_append, mvAll]
    cases mvStep l ps ms x with
    | none => rfl
    | some ms' => exact mvAll_snoc l ps t r ms'
theorem Chart.keepN {W W' : World} {B cb N : Nat} {a : Option Addr} {len cap : Nat} {l : List Wd} {v : Value} {acc : List Th} {pb mb : Nat} {ms : List (Int × Int)} (h : Chart W B cb a len cap l v acc pb mb ms) (hk : ∀ k, k < N → W'.heap[k]? = W.heap[k]?)
    (h1 : cb < N) (h2 : pb < N) (h3 : mb < N) (h4 : ∀ g, v.ownBlock = some g → g < N) : Chart W' B cb a len cap l v acc pb mb ms := by
  have hb := hk cb h1
  refine ⟨?_, (World.cell?_of_block (w := W) hb).trans h.c0, (World.cell?_of_block (w := W) hb).trans h.c1, (World.cell?_of_block (w := W) hb).trans h.c2, (World.cell?_of_block (w := W) hb).trans h.c3, (World.frozen?_of_block (w := W) hb).trans h.f1,
    h.row.keep (fun b hv => hk b (h4 b hv)), h.pl.keep (hk pb h2), h.mv.keep (hk mb h3), h.hcb, h.hpb, h.hmb, h.n1, h.n2, h.n3, h.n4⟩
  intro i hi
  obtain ⟨b, o, e1, e2, c0, c1, c2⟩ := h.wds i hi
  have hb := hk b (by have := h.hcb; omega)
  exact ⟨b, o, e1, e2, (World.cell?_of_block (w := W) hb).trans c0, (World.cell?_of_block (w := W) hb).trans c1, (World.cell?_of_block (w := W) hb).trans c2⟩
/-- A pair more in the map of what was moved. -/
theorem Chart.moved {W W' : World} {B cb : Nat} {a : Option Addr} {len cap : Nat} {l : List Wd} {v : Value} {acc : List Th} {pb mb : Nat} {ms ms' : List (Int × Int)} (h : Chart W B cb a len cap l v acc pb mb ms) (hg : W.grownBy W' (some mb)) (ho : OwnsI W' mb ms') : Chart W' B cb a len cap l v acc pb mb ms' := by
  have hl := h.lt
  have hne : some cb ≠ some mb := fun e => h.n2 (by injection e)
  have hB : Below B W W' := (Below.refl _ _).grown hg (by have := h.hcb; omega) (fun j hj => by cases hj; exact h.hmb)
  exact ⟨h.wds.below hB, (hg.cell_far ⟨cb, _, none⟩ hl hne).trans h.c0, (hg.cell_far ⟨cb, _, none⟩ hl hne).trans h.c1, (hg.cell_far ⟨cb, _, none⟩ hl hne).trans h.c2, (hg.cell_far ⟨cb, _, none⟩ hl hne).trans h.c3, (hg.frozen_far ⟨cb, _, none⟩ hl hne).trans h.f1,
    h.row.keep (fun b hv => hg.block b (h.row.own_lt hv).2 (fun e => (h.n4 b hv).2.2 (by injection e))), h.pl.kept hg (fun e => h.n3 (by injection e)), ho, h.hcb, h.hpb, h.hmb, h.n1, h.n2, h.n3, h.n4⟩
theorem mvAll_append (l : List Wd) (ps : List (Int × Int)) : ∀ (r q : List Th) (ms : List (Int × Int)), mvAll l ps (r ++ q) ms = (mvAll l ps r ms).bind (mvAll l ps q)
  | [], q, ms => rfl
  | x :: r, q, ms => by
    simp only [List.cons_append, mvAll]
    cases mvStep l ps ms x with
    | none => rfl
    | some ms' => exact mvAll_append l ps r q ms'
theorem mv_boxes (w : World) (cb : Nat) (av : Option Addr) (n capv : Nat) (t1 t2 t3 : TypeId) :
    (((w.alloc (.cells #[.pointer (some ⟨cb, 0, none⟩)] t1)).alloc (.cells #[.bool false] t2)).alloc (.cells #[.slice av n capv] t3)).cell? ⟨w.heap.size, 0, none⟩ = some (.pointer (some ⟨cb, 0, none⟩)) ∧
    (((w.alloc (.cells #[.pointer (some ⟨cb, 0, none⟩)] t1)).alloc (.cells #[.bool false] t2)).alloc (.cells #[.slice av n capv] t3)).cell? ⟨w.heap.size + 1, 0, none⟩ = some (.bool false) ∧
    (((w.alloc (.cells #[.pointer (some ⟨cb, 0, none⟩)] t1)).alloc (.cells #[.bool false] t2)).alloc (.cells #[.slice av n capv] t3)).cell? ⟨w.heap.size + 2, 0, none⟩ = some (.slice av n capv) ∧
    (((w.alloc (.cells #[.pointer (some ⟨cb, 0, none⟩)] t1)).alloc (.cells #[.bool false] t2)).alloc (.cells #[.slice av n capv] t3)).frozen? ⟨w.heap.size + 1, 0, none⟩ = false := by
  refine ⟨?_, ?_, ?_, ?_⟩ <;> go_simp
/-- Between two rounds. -/
structure MvI (w : World) (N B cb : Nat) (a : Option Addr) (len cap : Nat) (l : List Wd) (v : Value) (acc : List Th) (pb mb : Nat) (ts : List Th) (W : World) (ms : List (Int × Int)) : Prop where
  all : mvAll l (plOf acc) ts [] = some ms
  ok : ∀ n, hasI ms n = true → wfI (valI ms n)
  few : ms.length ≤ ts.length
  chart : Chart W B cb a len cap l v acc pb mb ms
  x0 : W.cell? ⟨w.heap.size, 0, none⟩ = some (.pointer (some ⟨cb, 0, none⟩))
  x1 : W.cell? ⟨w.heap.size + 1, 0, none⟩ = some (.bool false)
  xf : W.frozen? ⟨w.heap.size + 1, 0, none⟩ = false
  bel : Below B w W
  size : N ≤ W.heap.size
structure MvX (w : World) (N B : Nat) (l : List Wd) (ps : List (Int × Int)) (ts : List Th) (W : World) : Prop where
  all : mvAll l ps ts [] = none
  x1 : W.cell? ⟨w.heap.size + 1, 0, none⟩ = some (.bool false)
  bel : Below B w W
  size : N ≤ W.heap.size
theorem MvI.keep {w : World} {N B cb : Nat} {a : Option Addr} {len cap : Nat} {l : List Wd} {v : Value} {acc : List Th} {pb mb : Nat} {ts : List Th} {W W' : World} {ms : List (Int × Int)} (h : MvI w N B cb a len cap l v acc pb mb ts W ms) (hz : W.heap.size ≤ W'.heap.size) (hk : ∀ k, k < N → W'.heap[k]? = W.heap[k]?) (hB : Below B W W')
    (hN : w.heap.size + 2 ≤ N) (h1 : cb < N) (h2 : pb < N) (h3 : mb < N) (h4 : ∀ g, v.ownBlock = some g → g < N) : MvI w N B cb a len cap l v acc pb mb ts W' ms :=
  ⟨h.all, h.ok, h.few, h.chart.keepN hk h1 h2 h3 h4, (World.cell?_of_block (w := W) (hk _ (by dsimp only; omega))).trans h.x0, (World.cell?_of_block (w := W) (hk _ (by dsimp only; omega))).trans h.x1, (World.frozen?_of_block (w := W) (hk _ (by dsimp only; omega))).trans h.xf, h.bel.trans hB, Nat.le_trans h.size hz⟩
theorem mv_false {w : World} {N B cb : Nat} {a : Option Addr} {len cap : Nat} {l : List Wd} {v : Value} {acc : List Th} {pb mb : Nat} {ts ts' : List Th} {W : World} {ms : List (Int × Int)} (h : MvI w N B cb a len cap l v acc pb mb ts W ms) (hx : mvAll l (plOf acc) ts' [] = none) (hB : B ≤ w.heap.size) :
    KeepsFrom N W (W.setCell ⟨w.heap.size + 1, 0, none⟩ (.bool false)).drew.drew ∧ MvX w N B l (plOf acc) ts' (W.setCell ⟨w.heap.size + 1, 0, none⟩ (.bool false)).drew.drew := by
  have k := (KeepsOthers.setCell W ⟨w.heap.size + 1, 0, none⟩ (.bool false)).from N
  have hb := h.bel.setCell (p := ⟨w.heap.size + 1, 0, none⟩) (by dsimp only; omega) (.bool false)
  exact ⟨⟨k.size, k.same⟩, hx, World.cell?_setCell_same' W _ _ (by rw [h.x1]; rfl), ⟨hb.os, hb.tape, hb.output, hb.size, hb.block⟩, Nat.le_trans h.size k.size⟩
theorem mv_true {w : World} {N B cb : Nat} {a : Option Addr} {len cap : Nat} {l : List Wd} {v : Value} {acc : List Th} {pb mb : Nat} {ts : List Th} {W w5 : World} {ms : List (Int × Int)} {x tv : Int} {t : Th} (h : MvI w N B cb a len cap l v acc pb mb ts W ms) (hx : mvAll l (plOf acc) (ts ++ [t]) [] = some ((x, tv) :: ms)) (htv : wfI tv)
    (hG : W.grownBy w5 (some mb)) (hO : OwnsI w5 mb ((x, tv) :: ms)) (hN : w.heap.size + 2 ≤ N) (hm : mb < w.heap.size) :
    KeepsFrom N W w5 ∧ KpM N mb W w5 ∧ MvI w N B cb a len cap l v acc pb mb (ts ++ [t]) w5 ((x, tv) :: ms) := by
  have hB : Below B W w5 := (Below.refl _ _).grown hG (by have := h.chart.hcb; have := h.chart.lt; omega) (fun j hj => by cases hj; exact h.chart.hmb)
  have hz := h.size
  refine ⟨KeepsFrom.of_grownBy hG (fun j e => by cases e; omega), ⟨hG.size, fun k hk hn => hG.block k (by omega) (fun e => hn (by injection e))⟩, hx, fun n hn => ?_, ?_, h.chart.moved hG hO, ?_, ?_, ?_, h.bel.trans hB, Nat.le_trans h.size hG.size⟩
  · unfold valI
    by_cases e : x = n
    · rw [if_pos e]; exact htv
    · rw [if_neg e]; unfold hasI at hn; exact h.ok n (by simpa [e] using hn)
  · have := h.few; simp; omega
  · exact (hG.cell_far ⟨w.heap.size, 0, none⟩ (by dsimp only; omega) (fun e => by injection e with e; dsimp only at e; omega)).trans h.x0
  · exact (hG.cell_far ⟨w.heap.size + 1, 0, none⟩ (by dsimp only; omega) (fun e => by injection e with e; dsimp only at e; omega)).trans h.x1
  · exact (hG.frozen_far ⟨w.heap.size + 1, 0, none⟩ (by dsimp only; omega) (fun e => by injection e with e; dsimp only at e; omega)).trans h.xf
set_option maxRecDepth 100000 in
set_option maxHeartbeats 4000000 in
theorem addMoved_any (w : World) (B cb : Nat) (a : Option Addr) (len cap : Nat) (l : List Wd) (v : Value) (acc : List Th) (pb mb : Nat) (hC : Chart w B cb a len cap l v acc pb mb []) (hlen : len = l.length) (hl : len ≤ 60000) (hin : ∀ i (h : i < acc.length), acc[i].h < len) (hacc : acc.length ≤ 60000) (hwf : wfL l)
    (hps : ∀ n, hasI (plOf acc) n = true → 0 ≤ n ∧ n < l.length) :
    Calls Tryz.prog 64 #[.pointer (some ⟨cb, 0, none⟩)] w fun e w' => Below B w w' ∧ ((e = .returned (.bool true) ∧ ∃ ms, mvAll l (plOf acc) acc.reverse [] = some ms ∧ Chart w' B cb a len cap l v acc pb mb ms) ∨ (e = .returned (.bool false) ∧ mvAll l (plOf acc) acc.reverse [] = none)) := by
  refine (callsIn_wide (n := 5)).1 ?_
  obtain ⟨av, capv, hv, hcv, hcells⟩ := hC.row.cells
  refine callsIn_of_wp_marks Tryz.func64 rfl trivial ?_ rfl
  simp only [Tryz.ntmps64, List.size_toArray, List.length_cons, List.length_nil, Nat.reduceAdd, Nat.reduceSub, Array.replicate_succ, Array.replicate_zero, List.push_toArray, List.append_toArray, List.nil_append, List.cons_append]
  have c1 := hC.c1
  rw [hv] at c1
  have hclt := hC.lt
  gi_wp2_with (refine ⟨trivial, ?_⟩; gi_at_call 79; refine (back_in Fence.wide _ trivial rfl _ _ _ _).mono ?_; rintro e w' ⟨rfl, rfl⟩)
  obtain ⟨W0, hW0⟩ : ∃ W0, ((w.alloc (.cells #[.pointer (some ⟨cb, 0, none⟩)] 127)).alloc (.cells #[.bool false] 4)).alloc (.cells #[.slice av acc.length capv] 94) = W0 := ⟨_, rfl⟩
  have hb0 : Below w.heap.size w W0 := by rw [← hW0]; exact (((Below.refl _ w).alloc (Nat.le_refl _) _).alloc (by simp) _).alloc (by simp; omega) _
  have hz0 : W0.heap.size = w.heap.size + 3 := by rw [← hW0]; simp
  have bx := mv_boxes w cb av acc.length capv 127 4 94
  rw [hW0] at bx ⊢
  clear hW0
  have hp : pb < w.heap.size := hC.pl.lt
  have hm : mb < w.heap.size := hC.mv.lt
  have ho : ∀ g, v.ownBlock = some g → g < w.heap.size := fun g hg => (hC.row.own_lt hg).2
  have hBw : B ≤ w.heap.size := by have := hC.hcb; omega
  have hI0 : MvI w W0.heap.size B cb a len cap l v acc pb mb [] W0 [] := ⟨rfl, (fun n h => by cases h), Nat.le_refl _, hC.below hb0, bx.1, bx.2.1, bx.2.2.2, hb0.mono hBw, Nat.le_refl _⟩
  have hT0 : ThsIn W0 W0.heap.size mb av acc := fun i hi => by
    obtain ⟨g, e1, e2, d0, d1, d2⟩ := hcells i hi
    have hg := ho g e2
    exact ⟨g, e1, by omega, (hC.n4 g e2).2.2, (hb0.cell (p := ⟨g, _, none⟩) hg).trans d0, (hb0.cell (p := ⟨g, _, none⟩) hg).trans d1, (hb0.cell (p := ⟨g, _, none⟩) hg).trans d2⟩
  have hkk : ∀ {A A' : World} {row : Option Nat}, W0.heap.size ≤ A.heap.size → A.grownBy A' row → (∀ r, row = some r → W0.heap.size ≤ r ∧ ∃ o : Obj, A.heap[r]? = some o ∧ o.isCells = false) → (∀ k, k < W0.heap.size → A'.heap[k]? = A.heap[k]?) ∧ Below B A A' := fun {A A' row} hz hg hr =>
    ⟨fun k hk => hg.block k (by omega) (fun e => by have := (hr k e.symm).1; omega), (Below.refl _ _).grown hg (by omega) (fun j hj => by have := (hr j hj).1; omega)⟩
  refine wpIn_rangeFunc_ownH (F := Fence.wide) rfl (by omega) (gf := 92) (lb := #[.pointer (some ⟨w.heap.size + 1 + 1, 0, none⟩)]) rfl trivial (enters_of Tryz.func92 (by kernel_rfl) rfl)
    (back_stops Fence.wide _ trivial rfl (by omega) (M := l.length) (w.heap.size + 1 + 1) W0.heap.size mb av capv acc (by rw [← hlen]; exact hin) hacc (by omega) (by omega) W0 (Nat.le_refl _) bx.2.2.1 hT0) KpM.trans (KpM.putObj (Nat.le_refl _)) (Below.refl _ _) (fun _ => rfl)
    (fun pre W => ∃ ms, MvI w W0.heap.size B cb a len cap l v acc pb mb (thsOf pre) W ms)
    (fun c pre W => c = .ret ∧ MvX w W0.heap.size B l (plOf acc) (thsOf pre) W)
    (fun s A A' row hs hg hr => by
      obtain ⟨ms, hs⟩ := hs
      obtain ⟨k1, k2⟩ := hkk hs.size hg hr
      exact ⟨ms, hs.keep hg.size k1 k2 (by omega) (by omega) (by omega) (by omega) (fun g hg => by have := ho g hg; omega)⟩)
    (fun c s A A' row hs hg hr => by
      obtain ⟨hc, hs⟩ := hs
      obtain ⟨k1, k2⟩ := hkk hs.size hg hr
      exact ⟨hc, hs.all, (World.cell?_of_block (w := A) (k1 _ (by dsimp only; omega))).trans hs.x1, hs.bel.trans k2, Nat.le_trans hs.size hg.size⟩)
    ⟨[], hI0⟩
    (fun x a' W => ∃ Bx, W0.heap.size ≤ Bx ∧ (W.cell? ⟨Bx, 0, none⟩ = some (.int .i64 (x.2.1.h : Int)) ∧ W.cell? ⟨Bx, 1, none⟩ = some (.int .i64 (x.2.1.f : Int)) ∧ W.cell? ⟨Bx, 2, none⟩ = some (.int .i64 (x.2.1.e : Int))) ∧ a' = { tmps := #[.pointer (some ⟨cb, 0, none⟩), .pointer (some ⟨w.heap.size, 0, none⟩), .pointer (some ⟨w.heap.size + 1, 0, none⟩), undef, .pointer (some ⟨Bx, 0, none⟩), undef, undef, undef, .pointer (some ⟨cb, 0, none⟩), .pointer (some ⟨cb, 0, none⟩), .pointer (some ⟨cb, 1, none⟩), .slice av acc.length capv, .func (.func 92) #[] #[.pointer (some ⟨w.heap.size + 1 + 1, 0, none⟩)], .int .i64 (x.1 : Int), .agg #[.int .i64 (x.2.1.h : Int), .int .i64 (x.2.1.f : Int), .int .i64 (x.2.1.e : Int)], undef, undef, undef, undef, undef, undef, undef, undef, undef, undef, undef, undef, undef, undef, undef, undef, undef, undef, undef, undef, undef, undef, undef, undef, undef, undef, undef, undef, undef, undef, undef, undef, undef, undef, undef, undef, undef, undef, undef, undef, undef], defers := [] })
    (fun x a' s A A' row hs hg hr => by
      obtain ⟨Bx, e1, ⟨e2, e3, e4⟩, e5⟩ := hs
      exact ⟨Bx, e1, ⟨cell_kept e2 hg (fun r e => (hr r e).2), cell_kept e3 hg (fun r e => (hr r e).2), cell_kept e4 hg (fun r e => (hr r e).2)⟩, e5⟩)
    ?assign ?body ?done ?stop
  case assign =>
    rintro ll pre x W K ⟨ms, hi⟩ hK
    dsimp only [encT]
    have hz := hi.size
    gi_wp2
    have hbl : ∀ k, k < W0.heap.size → (W.alloc (.cells #[.int .i64 (x.2.1.h : Int), .int .i64 (x.2.1.f : Int), .int .i64 (x.2.1.e : Int)] 129)).heap[k]? = W.heap[k]? := fun k hk => Below.heap_alloc W _ k (by omega)
    exact hK _ _ ((KeepsOthers.alloc _ _).from _) ⟨by simp, fun k hk _ => hbl k hk⟩ ⟨ms, hi.keep (by simp) hbl ((Below.refl _ _).alloc (by omega) _) (by omega) (by omega) (by omega) (by omega) (fun g hg => by have := ho g hg; omega)⟩ ⟨W.heap.size, hz, ⟨by go_simp, by go_simp, by go_simp⟩, rfl⟩
  case body =>
    rintro ll pre x a' W hll ⟨r, hr⟩ ⟨ms, hi⟩ ⟨Bx, hBx, ⟨d0, d1, d2⟩, rfl⟩ hlt
    have hmx : Tryz.prog.follows .mixedOrders = true := by kernel_rfl
    obtain ⟨idx, ⟨⟨th, tf, te⟩, hth⟩⟩ := x
    dsimp only at *
    have c0 := hi.chart.c0
    have c3 := hi.chart.c3
    have x0 := hi.x0
    have x1 := hi.x1
    have xf := hi.xf
    obtain ⟨bb, o, rfl, hbb, k0, k1, k2⟩ := hi.chart.wds th hth
    have hj : (th : Int) < len := by have h1 := hlen; have h2 : th < l.length := hth; omega
    have HK := hid (kindAt_nat hth)
    have HN := hid (show nInt l th = l[th].n by unfold nInt; rw [List.getElem?_eq_getElem hth])
    obtain ⟨hwn, _⟩ := hwf th hth
    generalize l[th].k = kk at k0 HK
    generalize l[th].n = nn at k1 HN hwn
    have HI := hid hi
    have HC := hid hC
    have Hlen := hid hlen
    clear hi hC hlen hin hcells hT0 bx hI0 hkk c1 hv k2 hcv
    gi_wp2
    refine wpIn_mono (Q := fun e a' w' => e = .normal ∧ a' = { tmps := #[.pointer (some ⟨cb, 0, none⟩), .pointer (some ⟨w.heap.size, 0, none⟩), .pointer (some ⟨w.heap.size + 1, 0, none⟩), undef, .pointer (some ⟨Bx, 0, none⟩), undef, undef, undef, .pointer (some ⟨cb, 0, none⟩), .pointer (some ⟨cb, 0, none⟩), .pointer (some ⟨cb, 1, none⟩), .slice av acc.length capv, .func (.func 92) #[] #[.pointer (some ⟨w.heap.size + 1 + 1, 0, none⟩)], .int .i64 (idx : Int), .agg #[.int .i64 (th : Int), .int .i64 (tf : Int), .int .i64 (te : Int)], .pointer (some ⟨cb, 0, none⟩), .pointer (some ⟨cb, 0, none⟩), .pointer (some ⟨cb, 0, none⟩), .slice (some ⟨bb, o, none⟩) len cap, .pointer (some ⟨Bx, 0, none⟩), .int .i64 (th : Int), .pointer (some ⟨bb, o + th * 3, none⟩), .pointer (some ⟨bb, o + th * 3, none⟩), .int .i64 kk, .bool (kk != 10), undef, undef, undef, undef, undef, undef, undef, undef, undef, undef, undef, undef, undef, undef, undef, undef, undef, undef, undef, undef, undef, undef, undef, undef, undef, undef, undef, undef, undef, undef, undef], defers := [] } ∧ w' = W.drew) ?reg3 ?rest3
    case reg3 =>
      gi_region_with_o (fail)
      all_goals exact ⟨rfl, rfl, rfl⟩
    case rest3 =>
      rintro e a' w' ⟨rfl, rfl, rfl⟩
      by_cases h10 : kk = 10
      · subst h10
        have hd : ((10 : Int) != 10) = false := rfl
        gi_wp2
        refine wpIn_mono (Q := fun e a' w' => e = .normal ∧ a' = { tmps := #[.pointer (some ⟨cb, 0, none⟩), .pointer (some ⟨w.heap.size, 0, none⟩), .pointer (some ⟨w.heap.size + 1, 0, none⟩), undef, .pointer (some ⟨Bx, 0, none⟩), .int .i64 nn, undef, undef, .pointer (some ⟨cb, 0, none⟩), .pointer (some ⟨cb, 0, none⟩), .pointer (some ⟨cb, 1, none⟩), .slice av acc.length capv, .func (.func 92) #[] #[.pointer (some ⟨w.heap.size + 1 + 1, 0, none⟩)], .int .i64 (idx : Int), .agg #[.int .i64 (th : Int), .int .i64 (tf : Int), .int .i64 (te : Int)], .pointer (some ⟨cb, 0, none⟩), .pointer (some ⟨cb, 0, none⟩), .pointer (some ⟨cb, 0, none⟩), .slice (some ⟨bb, o, none⟩) len cap, .pointer (some ⟨Bx, 0, none⟩), .int .i64 (th : Int), .pointer (some ⟨bb, o + th * 3, none⟩), .pointer (some ⟨bb, o + th * 3, none⟩), .int .i64 10, .bool false, .pointer (some ⟨cb, 0, none⟩), .pointer (some ⟨cb, 0, none⟩), .pointer (some ⟨cb, 0, none⟩), .slice (some ⟨bb, o, none⟩) len cap, .pointer (some ⟨Bx, 0, none⟩), .int .i64 (th : Int), .pointer (some ⟨bb, o + th * 3, none⟩), .pointer (some ⟨bb, o + th * 3 + 1, none⟩), .int .i64 nn, undef, undef, undef, undef, undef, undef, undef, undef, undef, undef, undef, undef, undef, undef, undef, undef, undef, undef, undef, undef, undef, undef], defers := [] } ∧ w' = W.drew.drew) ?reg4 ?rest4
        case reg4 =>
          gi_region_with_o (fail)
          all_goals exact ⟨rfl, rfl, rfl⟩
        case rest4 =>
          rintro e a' w' ⟨rfl, rfl, rfl⟩
          have Cd := HI.out.chart.below (show Below W.heap.size W W.drew.drew from bdrew (Below.refl _ _) 2)
          have hrun : (Instr.lookup 95 (.map (some mb)) (.int .i64 nn) true).run Tryz.prog W.drew.drew = .ok (.tuple #[.int .i64 (valI ms nn), .bool (hasI ms nn)]) W.drew.drew := OwnsI.look2 (w := W.drew.drew) Cd.mv hwn
          have Hto := hid (show toOf l ms ⟨th, tf, te⟩ = if hasI ms nn = true then valI ms nn else nn by unfold toOf; rw [show nInt l th = nn from HN.out])
          have hok := hid (HI.out.ok nn)
          have hall := HI.out.all
          have Hst := hid (show mvAll l (plOf acc) (thsOf (pre ++ [(idx, (⟨⟨th, tf, te⟩, hth⟩ : TT l.length))])) [] = mvStep l (plOf acc) ms ⟨th, tf, te⟩ by
            simp only [thsOf, List.map_append, List.map_cons, List.map_nil] at hall ⊢
            rw [mvAll_snoc, hall]; rfl)
          clear hall
          have hkind : kindAt l th = 10 := HK.out
          have Hkd := hid hkind
          clear hkind
          generalize valI ms nn = vv at hrun Hto hok
          cases hh : hasI ms nn
          · rw [hh] at hrun Hto
            rw [if_neg (by simp)] at Hto
            have htv := hwn
            cases hrec : recB l (plOf acc) nn
            · have HX := hid (show mvStep l (plOf acc) ms ⟨th, tf, te⟩ = none by unfold mvStep; rw [if_pos Hkd.out, Hto.out, if_neg (by simp [hrec])])
              have hcall := isRecord_any W.drew.drew B cb _ len cap l v acc pb mb ms Cd Hlen.out nn htv (hps nn)
              rw [hrec] at hcall
              have HCall := hid hcall
              clear hcall Cd
              gi_wp2_with (refine ⟨trivial, ?_⟩; gi_at_call 80; refine (CallsIn.inRound ll (callsIn_wide.2 HCall.out)).mono ?_; rintro e w' ⟨rfl, rfl⟩)
              obtain ⟨z1, z2⟩ := mv_false HI.out (Hst.out.trans HX.out) hBw
              exact ⟨z1, rfl, z2⟩
            · have HX := hid (show mvStep l (plOf acc) ms ⟨th, tf, te⟩ = some (((th : Int), nn) :: ms) by unfold mvStep; rw [if_pos Hkd.out, Hto.out, if_pos hrec])
              have hcall := isRecord_any W.drew.drew B cb _ len cap l v acc pb mb ms Cd Hlen.out nn htv (hps nn)
              rw [hrec] at hcall
              have HCall := hid hcall
              have hfew := HI.out.few
              have htl : (thsOf pre).length = pre.length := by simp [thsOf]
              obtain ⟨w5, hrun5, hO5, hG5⟩ := OwnsI.put (w := W.drew.drew.drew) (b := mb) (l := ms) Cd.mv (by unfold maxLen; omega) (k := (th : Int)) (c := nn) (wf_nat (by omega)) htv
              clear hcall Cd hfew htl
              gi_wp2_with (refine ⟨trivial, ?_⟩; gi_at_call 80; refine (CallsIn.inRound ll (callsIn_wide.2 HCall.out)).mono ?_; rintro e w' ⟨rfl, rfl⟩)
              refine wpIn_mono (Q := fun e _ w' => e = .normal ∧ w' = w5) ?reg10 ?rest10
              case reg10 =>
                gi_region_with_o (fail)
                all_goals exact ⟨rfl, rfl⟩
              case rest10 =>
                rintro e a' w' ⟨rfl, rfl⟩
                obtain ⟨z1, z2, z3⟩ := mv_true (t := ⟨th, tf, te⟩) HI.out (by have := Hst.out.trans HX.out; simpa [thsOf] using this) htv ⟨hG5.os, hG5.tape, hG5.output, hG5.size, hG5.block⟩ hO5 (by omega) hm
                gi_wp2
                exact ⟨z1, z2, _, by simpa [thsOf] using z3⟩
          · rw [hh] at hrun Hto
            rw [if_pos rfl] at Hto
            have htv := hok.out hh
            cases hrec : recB l (plOf acc) vv
            · have HX := hid (show mvStep l (plOf acc) ms ⟨th, tf, te⟩ = none by unfold mvStep; rw [if_pos Hkd.out, Hto.out, if_neg (by simp [hrec])])
              have hcall := isRecord_any W.drew.drew B cb _ len cap l v acc pb mb ms Cd Hlen.out vv htv (hps vv)
              rw [hrec] at hcall
              have HCall := hid hcall
              clear hcall Cd
              gi_wp2_with (refine ⟨trivial, ?_⟩; gi_at_call 80; refine (CallsIn.inRound ll (callsIn_wide.2 HCall.out)).mono ?_; rintro e w' ⟨rfl, rfl⟩)
              obtain ⟨z1, z2⟩ := mv_false HI.out (Hst.out.trans HX.out) hBw
              exact ⟨z1, rfl, z2⟩
            · have HX := hid (show mvStep l (plOf acc) ms ⟨th, tf, te⟩ = some (((th : Int), vv) :: ms) by unfold mvStep; rw [if_pos Hkd.out, Hto.out, if_pos hrec])
              have hcall := isRecord_any W.drew.drew B cb _ len cap l v acc pb mb ms Cd Hlen.out vv htv (hps vv)
              rw [hrec] at hcall
              have HCall := hid hcall
              have hfew := HI.out.few
              have htl : (thsOf pre).length = pre.length := by simp [thsOf]
              obtain ⟨w5, hrun5, hO5, hG5⟩ := OwnsI.put (w := W.drew.drew.drew) (b := mb) (l := ms) Cd.mv (by unfold maxLen; omega) (k := (th : Int)) (c := vv) (wf_nat (by omega)) htv
              clear hcall Cd hfew htl
              gi_wp2_with (refine ⟨trivial, ?_⟩; gi_at_call 80; refine (CallsIn.inRound ll (callsIn_wide.2 HCall.out)).mono ?_; rintro e w' ⟨rfl, rfl⟩)
              refine wpIn_mono (Q := fun e _ w' => e = .normal ∧ w' = w5) ?reg10 ?rest10
              case reg10 =>
                gi_region_with_o (fail)
                all_goals exact ⟨rfl, rfl⟩
              case rest10 =>
                rintro e a' w' ⟨rfl, rfl⟩
                obtain ⟨z1, z2, z3⟩ := mv_true (t := ⟨th, tf, te⟩) HI.out (by have := Hst.out.trans HX.out; simpa [thsOf] using this) htv ⟨hG5.os, hG5.tape, hG5.output, hG5.size, hG5.block⟩ hO5 (by omega) hm
                gi_wp2
                exact ⟨z1, z2, _, by simpa [thsOf] using z3⟩
      · have hd : (kk != 10) = true := by simp [h10]
        have HV := hid (show mvAll l (plOf acc) (thsOf (pre ++ [(idx, (⟨⟨th, tf, te⟩, hth⟩ : TT l.length))])) [] = some ms by
          have e := HI.out.all
          simp only [thsOf, List.map_append, List.map_cons, List.map_nil] at e ⊢
          rw [mvAll_snoc, e]
          simp only [Option.bind_some, mvStep]
          rw [if_neg (by rw [HK.out]; exact h10)])
        gi_wp2
        have h := HI.out.keep (W' := W.drew) (Nat.le_refl _) (fun _ _ => rfl) (bdrew (Below.refl _ _) 1) (by omega) (by omega) (by omega) (by omega) (fun g hg => by have := ho g hg; omega)
        exact ⟨(KeepsOthers.drew _).from _, ⟨Nat.le_refl _, fun _ _ _ => rfl⟩, ms, HV.out, h.ok, Nat.le_trans h.few (by simp [thsOf]), h.chart, h.x0, h.x1, h.xf, h.bel, h.size⟩
  case done =>
    rintro D ys W hD hS ⟨ms, hi⟩ hK
    have x1 := hi.x1
    have xf := hi.xf
    have hK' := (KeepsOthers.setCell W ⟨w.heap.size + 1, 0, none⟩ (.bool true)).same D _ hK rfl
    have hsz : (W.setCell ⟨w.heap.size + 1, 0, none⟩ (.bool true)).heap.size = W.heap.size := by simp
    obtain ⟨k1, k2⟩ := hkk (A := W.setCell ⟨w.heap.size + 1, 0, none⟩ (.bool true)) (by rw [hsz]; exact hi.size) (grownBy_putObj' _ D (.deferred none)) (fun r e => by cases e; exact ⟨hD, _, hK', rfl⟩)
    have hc5 := cell_kept (World.cell?_setCell_same' W ⟨w.heap.size + 1, 0, none⟩ (.bool true) (by rw [x1]; rfl)) (grownBy_putObj' _ D (.deferred none)) (fun r e => by cases e; exact ⟨_, hK', rfl⟩)
    have hfin := hi.chart.keepN (W' := (W.setCell ⟨w.heap.size + 1, 0, none⟩ (.bool true)).putObj D (.deferred none)) (N := w.heap.size) (fun k hk => (k1 k (by omega)).trans (Below.heap_setCell _ _ _ _ (by dsimp only; omega))) hclt hp hm ho
    have HF := hid hfin
    have HB := hid ((hi.bel.setCell (p := ⟨w.heap.size + 1, 0, none⟩) (by dsimp only; omega) (.bool true)).trans k2)
    have HA := hid (show mvAll l (plOf acc) acc.reverse [] = some ms by rw [← hS]; exact hi.all)
    clear hfin k1 k2 hkk hi hI0 hT0 bx hcells hin hwf hps
    gi_wp2
    refine ⟨by simp, .inl ⟨_, _, rfl, run_takeDeferred hK', ?_⟩⟩
    refine ⟨.bool true, ?_, HB.out, Or.inl ⟨rfl, ms, HA.out, HF.out⟩⟩
    simp [results, Tryz.results64, go_sem, hc5]
  case stop =>
    rintro D c pre W hD ⟨k, hk, hS⟩ ⟨rfl, hx⟩ hK
    have x1 := hx.x1
    obtain ⟨k1, k2⟩ := hkk hx.size (grownBy_putObj' W D (.deferred none)) (fun r e => by cases e; exact ⟨hD, _, hK, rfl⟩)
    have hc5 := cell_kept x1 (grownBy_putObj' _ D (.deferred none)) (fun r e => by cases e; exact ⟨_, hK, rfl⟩)
    have HA := hid (show mvAll l (plOf acc) acc.reverse [] = none by
      rw [← List.take_append_drop k acc, List.reverse_append, mvAll_append, ← hS, show mvAll l (plOf (List.take k acc ++ List.drop k acc)) (thsOf pre) [] = none by rw [List.take_append_drop]; exact hx.all]
      rfl)
    have HB := hid (hx.bel.trans k2)
    clear k1 k2 hkk hx hI0 hT0 bx hcells hin hwf hps
    gi_wp2
    refine ⟨by simp, .inl ⟨_, _, rfl, run_takeDeferred hK, ?_⟩⟩
    refine ⟨.bool false, ?_, HB.out, Or.inr ⟨rfl, HA.out⟩⟩
    simp [results, Tryz.results64, go_sem, hc5]
end Go.Proofs.YtldmanfgmadbfaaGreatDoor.HH
