/- May an instruction be: the document's instrMay. (Written by wip/tools/mkdinstr.py.) -/
import Derived.Test.YtldmanfgmadbfaaGreatDoorQ18
import Derived.Test.YtldmanfgmadbfaaGreatDoorQ08
import Derived.Test.YtldmanfgmadbfaaGreatDoorQ09
import Derived.Test.YtldmanfgmadbfaaGreatDoorQ03
import Derived.Test.YtldmanfgmadbfaaGreatDoorQ07
import Derived.RegionTactic
import Derived.Deep.RegionWith
import Derived.Test.YtldmanfgmadbfaaGreatDoorRShort
namespace Go.Proofs.YtldmanfgmadbfaaGreatDoor
set_option maxRecDepth 100000
open HH UU VV
open Go.RowKit Go.Maps Go.WideMaps
def ret3 (t l : Int) (b : Bool) : Ending := .returned (.tuple #[.int .i64 t, .int .i64 l, .bool b])
theorem ret3_is {t t' l l' : Int} {b b' : Bool} (h1 : t = t') (h2 : l = l') (h3 : b = b') : Ending.returned (.tuple #[.int .i64 t, .int .i64 l, .bool b]) = ret3 t' l' b' := by subst h1 h2 h3; rfl
theorem in_bel {a m : Int} (_h : 0 ≤ m) (_h2 : m ≤ 9223372036854775807) : inB a 0 (m - 1) = belB a m := by
 unfold inB belB
 rw [Bool.eq_iff_iff]
 simp only [Bool.and_eq_true, decide_eq_true_eq]
 omega
theorem wrap_len {n : Nat} (h : n ≤ 9223372036854775807) : IntKind.i64.wrap ((n : Int) - 1) = n - 1 := by
 simp only [IntKind.wrap, IntKind.signed, IntKind.bits]
 try simp
 omega
theorem prim_instr (cx : Ctx) (l c : Int) (n : Nat) (a b : Int) (s t : ByteArray) (iw : Wd) : instrB cx l c n ⟨18, a, b, s, t, iw⟩ = (decide (primI s.data.toList = a) && decide (0 < a)) := by
 have h : instrB cx l c n ⟨18, a, b, s, t, iw⟩ = (decide (¬ UU.valOf prims s.data.toList = 0) && decide (a = UU.valOf prims s.data.toList)) := by unfold instrB; simp
 have hv : 0 ≤ UU.valOf prims s.data.toList := by
  have key : ∀ m : List (List UInt8 × Int), (∀ p ∈ m, 0 ≤ p.2) → ∀ q, 0 ≤ UU.valOf m q := by
   intro m
   induction m with
   | nil => intro _ q; simp [UU.valOf]
   | cons p r ih =>
    intro hm q
    unfold UU.valOf
    split
    ·
     exact hm p List.mem_cons_self
    ·
     exact ih (fun z hz => hm z (List.mem_cons_of_mem _ hz)) q
  exact key prims (by decide) _
 rw [h, primI, Bool.eq_iff_iff]
 simp only [Bool.and_eq_true, decide_eq_true_eq]
 split <;> omega
set_option maxHeartbeats 2000000 in
theorem dinstr_1 (x : Wv) (lim : Int) (a b : Int) (s t : ByteArray) (iw : Wd) (p l c : Int) (fa : Option Addr) (n cap : Nat) (w : World) (_hS : subW w (fun b => b < w.heap.size) x) (_hb : bigW x) (_hi : wfIns ⟨1, a, b, s, t, iw⟩) (_hn : n ≤ 9223372036854775807) (_hl : 0 ≤ l ∧ l ≤ 40) (_hc : 0 ≤ c ∧ c ≤ 40) :
  Calls Tryz.prog 41 #[.agg #[.slice x.fa x.fs.length x.fcap, .slice x.ga x.gs.length x.gcap, .slice x.ra x.rs.length x.rcap, .slice x.ha x.hs.length x.hcap, .int .i64 lim], .agg #[.int .i64 p, .int .i64 l, .int .i64 c, .slice fa n cap], .agg #[.int .i64 1, .int .i64 a, .int .i64 b, .string s, .string t, .int .i64 iw.k, .int .i64 iw.n, .string iw.s]] w fun e w' => e = ret3 (takeD ⟨1, a, b, s, t, iw⟩) (leaveD ⟨1, a, b, s, t, iw⟩) (instrB (ctxOf x) l c n ⟨1, a, b, s, t, iw⟩) ∧ Below w.heap.size w w' := by
 have hb3 := hid (below_3 w (.cells #[.slice x.fa x.fs.length x.fcap, .slice x.ga x.gs.length x.gcap, .slice x.ra x.rs.length x.rcap, .slice x.ha x.hs.length x.hcap, .int .i64 lim] 29) (.cells #[.int .i64 p, .int .i64 l, .int .i64 c, .slice fa n cap] 63) (.cells #[.int .i64 1, .int .i64 a, .int .i64 b, .string s, .string t, .int .i64 iw.k, .int .i64 iw.n, .string iw.s] 89))
 have HT := hid (show takeD ⟨1, a, b, s, t, iw⟩ = 0 from by simp [takeD])
 have HL := hid (show leaveD ⟨1, a, b, s, t, iw⟩ = 0 from by simp [leaveD])
 have HR := hid (show instrB (ctxOf x) l c n ⟨1, a, b, s, t, iw⟩ = true from by unfold instrB; simp)
 clear _hS _hb _hi _hl _hc
 go_enter Tryz.func41, Tryz.ntmps41
 go_wp2
 refine bodyPost_ret (v := .tuple #[.int .i64 0, .int .i64 0, .bool true]) (by simp [results, Tryz.results41, go_sem]) rfl ?_
 exact ⟨ret3_is HT.out.symm HL.out.symm HR.out.symm, hb3.out⟩
set_option maxHeartbeats 2000000 in
theorem dinstr_2 (x : Wv) (lim : Int) (a b : Int) (s t : ByteArray) (iw : Wd) (p l c : Int) (fa : Option Addr) (n cap : Nat) (w : World) (_hS : subW w (fun b => b < w.heap.size) x) (_hb : bigW x) (_hi : wfIns ⟨2, a, b, s, t, iw⟩) (_hn : n ≤ 9223372036854775807) (_hl : 0 ≤ l ∧ l ≤ 40) (_hc : 0 ≤ c ∧ c ≤ 40) :
  Calls Tryz.prog 41 #[.agg #[.slice x.fa x.fs.length x.fcap, .slice x.ga x.gs.length x.gcap, .slice x.ra x.rs.length x.rcap, .slice x.ha x.hs.length x.hcap, .int .i64 lim], .agg #[.int .i64 p, .int .i64 l, .int .i64 c, .slice fa n cap], .agg #[.int .i64 2, .int .i64 a, .int .i64 b, .string s, .string t, .int .i64 iw.k, .int .i64 iw.n, .string iw.s]] w fun e w' => e = ret3 (takeD ⟨2, a, b, s, t, iw⟩) (leaveD ⟨2, a, b, s, t, iw⟩) (instrB (ctxOf x) l c n ⟨2, a, b, s, t, iw⟩) ∧ Below w.heap.size w w' := by
 have hb3 := hid (below_3 w (.cells #[.slice x.fa x.fs.length x.fcap, .slice x.ga x.gs.length x.gcap, .slice x.ra x.rs.length x.rcap, .slice x.ha x.hs.length x.hcap, .int .i64 lim] 29) (.cells #[.int .i64 p, .int .i64 l, .int .i64 c, .slice fa n cap] 63) (.cells #[.int .i64 2, .int .i64 a, .int .i64 b, .string s, .string t, .int .i64 iw.k, .int .i64 iw.n, .string iw.s] 89))
 have HT := hid (show takeD ⟨2, a, b, s, t, iw⟩ = 0 from by simp [takeD])
 have HL := hid (show leaveD ⟨2, a, b, s, t, iw⟩ = 1 from by simp [leaveD])
 have HR := hid (show instrB (ctxOf x) l c n ⟨2, a, b, s, t, iw⟩ = plainV iw from by unfold instrB; simp)
 clear _hS _hb _hi _hl _hc
 by_cases hk : iw.k = 5
 ·
  have HZ := hid (show plainV iw = false by unfold plainV; rw [hk]; simp)
  have hk2 : (iw.k != 5) = false := by simp [hk]
  clear hk
  go_enter Tryz.func41, Tryz.ntmps41
  go_wp2
  refine bodyPost_ret (v := .tuple #[.int .i64 0, .int .i64 1, .bool false]) (by simp [results, Tryz.results41, go_sem]) rfl ?_
  exact ⟨ret3_is HT.out.symm HL.out.symm (HZ.out.symm.trans HR.out.symm), hb3.out⟩
 ·
  have HZ := hid (show wmB iw.k iw.n iw.s = plainV iw by unfold plainV; simp [hk])
  have hk2 : (iw.k != 5) = true := by simp [hk]
  clear hk
  go_enter Tryz.func41, Tryz.ntmps41
  go_wp2_with fail
  have hcall := wordMay_any iw.k iw.n iw.s (((w.alloc (.cells #[.slice x.fa x.fs.length x.fcap, .slice x.ga x.gs.length x.gcap, .slice x.ra x.rs.length x.rcap, .slice x.ha x.hs.length x.hcap, .int .i64 lim] 29)).alloc (.cells #[.int .i64 p, .int .i64 l, .int .i64 c, .slice fa n cap] 63)).alloc (.cells #[.int .i64 2, .int .i64 a, .int .i64 b, .string s, .string t, .int .i64 iw.k, .int .i64 iw.n, .string iw.s] 89))
  go_fit hcall
  clear hcall
  rintro e w2 ⟨rfl, hb2⟩
  have hB := hid (hb3.out.trans (hb2.mono hb3.out.size))
  go_wp2_with fail
  refine bodyPost_ret (v := .tuple #[.int .i64 0, .int .i64 1, .bool (wmB iw.k iw.n iw.s)]) (by simp [results, Tryz.results41, go_sem]) rfl ?_
  exact ⟨ret3_is HT.out.symm HL.out.symm (HZ.out.trans HR.out.symm), hB.out⟩
set_option maxHeartbeats 2000000 in
theorem dinstr_3 (x : Wv) (lim : Int) (a b : Int) (s t : ByteArray) (iw : Wd) (p l c : Int) (fa : Option Addr) (n cap : Nat) (w : World) (_hS : subW w (fun b => b < w.heap.size) x) (_hb : bigW x) (_hi : wfIns ⟨3, a, b, s, t, iw⟩) (_hn : n ≤ 9223372036854775807) (hl : 0 ≤ l ∧ l ≤ 40) (hc : 0 ≤ c ∧ c ≤ 40) :
  Calls Tryz.prog 41 #[.agg #[.slice x.fa x.fs.length x.fcap, .slice x.ga x.gs.length x.gcap, .slice x.ra x.rs.length x.rcap, .slice x.ha x.hs.length x.hcap, .int .i64 lim], .agg #[.int .i64 p, .int .i64 l, .int .i64 c, .slice fa n cap], .agg #[.int .i64 3, .int .i64 a, .int .i64 b, .string s, .string t, .int .i64 iw.k, .int .i64 iw.n, .string iw.s]] w fun e w' => e = ret3 (takeD ⟨3, a, b, s, t, iw⟩) (leaveD ⟨3, a, b, s, t, iw⟩) (instrB (ctxOf x) l c n ⟨3, a, b, s, t, iw⟩) ∧ Below w.heap.size w w' := by
 have hb3 := hid (below_3 w (.cells #[.slice x.fa x.fs.length x.fcap, .slice x.ga x.gs.length x.gcap, .slice x.ra x.rs.length x.rcap, .slice x.ha x.hs.length x.hcap, .int .i64 lim] 29) (.cells #[.int .i64 p, .int .i64 l, .int .i64 c, .slice fa n cap] 63) (.cells #[.int .i64 3, .int .i64 a, .int .i64 b, .string s, .string t, .int .i64 iw.k, .int .i64 iw.n, .string iw.s] 89))
 have HT := hid (show takeD ⟨3, a, b, s, t, iw⟩ = 0 from by simp [takeD])
 have HL := hid (show leaveD ⟨3, a, b, s, t, iw⟩ = 1 from by simp [leaveD])
 have HR := hid (show instrB (ctxOf x) l c n ⟨3, a, b, s, t, iw⟩ = belB a l from by unfold instrB; simp)
 have HI := hid (in_bel (a := a) (m := l) (by omega) (by omega))
 obtain ⟨hl1, hl2⟩ := hl
 obtain ⟨hc1, hc2⟩ := hc
 clear _hS _hb _hi
 go_enter Tryz.func41, Tryz.ntmps41
 go_wp2_with fail
 go_fit (HH.In_any a 0 _ _)
 rintro e w2 ⟨rfl, rfl⟩
 go_wp2_with fail
 refine bodyPost_ret (v := .tuple #[.int .i64 0, .int .i64 1, .bool (inB a 0 (l - 1))]) (by simp [results, Tryz.results41, go_sem]) rfl ?_
 exact ⟨ret3_is HT.out.symm HL.out.symm (HI.out.trans HR.out.symm), hb3.out⟩
set_option maxHeartbeats 2000000 in
theorem dinstr_4 (x : Wv) (lim : Int) (a b : Int) (s t : ByteArray) (iw : Wd) (p l c : Int) (fa : Option Addr) (n cap : Nat) (w : World) (_hS : subW w (fun b => b < w.heap.size) x) (_hb : bigW x) (_hi : wfIns ⟨4, a, b, s, t, iw⟩) (_hn : n ≤ 9223372036854775807) (hl : 0 ≤ l ∧ l ≤ 40) (hc : 0 ≤ c ∧ c ≤ 40) :
  Calls Tryz.prog 41 #[.agg #[.slice x.fa x.fs.length x.fcap, .slice x.ga x.gs.length x.gcap, .slice x.ra x.rs.length x.rcap, .slice x.ha x.hs.length x.hcap, .int .i64 lim], .agg #[.int .i64 p, .int .i64 l, .int .i64 c, .slice fa n cap], .agg #[.int .i64 4, .int .i64 a, .int .i64 b, .string s, .string t, .int .i64 iw.k, .int .i64 iw.n, .string iw.s]] w fun e w' => e = ret3 (takeD ⟨4, a, b, s, t, iw⟩) (leaveD ⟨4, a, b, s, t, iw⟩) (instrB (ctxOf x) l c n ⟨4, a, b, s, t, iw⟩) ∧ Below w.heap.size w w' := by
 have hb3 := hid (below_3 w (.cells #[.slice x.fa x.fs.length x.fcap, .slice x.ga x.gs.length x.gcap, .slice x.ra x.rs.length x.rcap, .slice x.ha x.hs.length x.hcap, .int .i64 lim] 29) (.cells #[.int .i64 p, .int .i64 l, .int .i64 c, .slice fa n cap] 63) (.cells #[.int .i64 4, .int .i64 a, .int .i64 b, .string s, .string t, .int .i64 iw.k, .int .i64 iw.n, .string iw.s] 89))
 have HT := hid (show takeD ⟨4, a, b, s, t, iw⟩ = 1 from by simp [takeD])
 have HL := hid (show leaveD ⟨4, a, b, s, t, iw⟩ = 0 from by simp [leaveD])
 have HR := hid (show instrB (ctxOf x) l c n ⟨4, a, b, s, t, iw⟩ = belB a l from by unfold instrB; simp)
 have HI := hid (in_bel (a := a) (m := l) (by omega) (by omega))
 obtain ⟨hl1, hl2⟩ := hl
 obtain ⟨hc1, hc2⟩ := hc
 clear _hS _hb _hi
 go_enter Tryz.func41, Tryz.ntmps41
 go_wp2_with fail
 go_fit (HH.In_any a 0 _ _)
 rintro e w2 ⟨rfl, rfl⟩
 go_wp2_with fail
 refine bodyPost_ret (v := .tuple #[.int .i64 1, .int .i64 0, .bool (inB a 0 (l - 1))]) (by simp [results, Tryz.results41, go_sem]) rfl ?_
 exact ⟨ret3_is HT.out.symm HL.out.symm (HI.out.trans HR.out.symm), hb3.out⟩
set_option maxHeartbeats 2000000 in
theorem dinstr_5 (x : Wv) (lim : Int) (a b : Int) (s t : ByteArray) (iw : Wd) (p l c : Int) (fa : Option Addr) (n cap : Nat) (w : World) (_hS : subW w (fun b => b < w.heap.size) x) (_hb : bigW x) (_hi : wfIns ⟨5, a, b, s, t, iw⟩) (_hn : n ≤ 9223372036854775807) (hl : 0 ≤ l ∧ l ≤ 40) (hc : 0 ≤ c ∧ c ≤ 40) :
  Calls Tryz.prog 41 #[.agg #[.slice x.fa x.fs.length x.fcap, .slice x.ga x.gs.length x.gcap, .slice x.ra x.rs.length x.rcap, .slice x.ha x.hs.length x.hcap, .int .i64 lim], .agg #[.int .i64 p, .int .i64 l, .int .i64 c, .slice fa n cap], .agg #[.int .i64 5, .int .i64 a, .int .i64 b, .string s, .string t, .int .i64 iw.k, .int .i64 iw.n, .string iw.s]] w fun e w' => e = ret3 (takeD ⟨5, a, b, s, t, iw⟩) (leaveD ⟨5, a, b, s, t, iw⟩) (instrB (ctxOf x) l c n ⟨5, a, b, s, t, iw⟩) ∧ Below w.heap.size w w' := by
 have hb3 := hid (below_3 w (.cells #[.slice x.fa x.fs.length x.fcap, .slice x.ga x.gs.length x.gcap, .slice x.ra x.rs.length x.rcap, .slice x.ha x.hs.length x.hcap, .int .i64 lim] 29) (.cells #[.int .i64 p, .int .i64 l, .int .i64 c, .slice fa n cap] 63) (.cells #[.int .i64 5, .int .i64 a, .int .i64 b, .string s, .string t, .int .i64 iw.k, .int .i64 iw.n, .string iw.s] 89))
 have HT := hid (show takeD ⟨5, a, b, s, t, iw⟩ = 0 from by simp [takeD])
 have HL := hid (show leaveD ⟨5, a, b, s, t, iw⟩ = 1 from by simp [leaveD])
 have HR := hid (show instrB (ctxOf x) l c n ⟨5, a, b, s, t, iw⟩ = belB a c from by unfold instrB; simp)
 have HI := hid (in_bel (a := a) (m := c) (by omega) (by omega))
 obtain ⟨hl1, hl2⟩ := hl
 obtain ⟨hc1, hc2⟩ := hc
 clear _hS _hb _hi
 go_enter Tryz.func41, Tryz.ntmps41
 go_wp2_with fail
 go_fit (HH.In_any a 0 _ _)
 rintro e w2 ⟨rfl, rfl⟩
 go_wp2_with fail
 refine bodyPost_ret (v := .tuple #[.int .i64 0, .int .i64 1, .bool (inB a 0 (c - 1))]) (by simp [results, Tryz.results41, go_sem]) rfl ?_
 exact ⟨ret3_is HT.out.symm HL.out.symm (HI.out.trans HR.out.symm), hb3.out⟩
set_option maxHeartbeats 2000000 in
theorem dinstr_6 (x : Wv) (lim : Int) (a b : Int) (s t : ByteArray) (iw : Wd) (p l c : Int) (fa : Option Addr) (n cap : Nat) (w : World) (_hS : subW w (fun b => b < w.heap.size) x) (_hb : bigW x) (_hi : wfIns ⟨6, a, b, s, t, iw⟩) (_hn : n ≤ 9223372036854775807) (_hl : 0 ≤ l ∧ l ≤ 40) (_hc : 0 ≤ c ∧ c ≤ 40) :
  Calls Tryz.prog 41 #[.agg #[.slice x.fa x.fs.length x.fcap, .slice x.ga x.gs.length x.gcap, .slice x.ra x.rs.length x.rcap, .slice x.ha x.hs.length x.hcap, .int .i64 lim], .agg #[.int .i64 p, .int .i64 l, .int .i64 c, .slice fa n cap], .agg #[.int .i64 6, .int .i64 a, .int .i64 b, .string s, .string t, .int .i64 iw.k, .int .i64 iw.n, .string iw.s]] w fun e w' => e = ret3 (takeD ⟨6, a, b, s, t, iw⟩) (leaveD ⟨6, a, b, s, t, iw⟩) (instrB (ctxOf x) l c n ⟨6, a, b, s, t, iw⟩) ∧ Below w.heap.size w w' := by
 have hb3 := hid (below_3 w (.cells #[.slice x.fa x.fs.length x.fcap, .slice x.ga x.gs.length x.gcap, .slice x.ra x.rs.length x.rcap, .slice x.ha x.hs.length x.hcap, .int .i64 lim] 29) (.cells #[.int .i64 p, .int .i64 l, .int .i64 c, .slice fa n cap] 63) (.cells #[.int .i64 6, .int .i64 a, .int .i64 b, .string s, .string t, .int .i64 iw.k, .int .i64 iw.n, .string iw.s] 89))
 have HT := hid (show takeD ⟨6, a, b, s, t, iw⟩ = 1 from by simp [takeD])
 have HL := hid (show leaveD ⟨6, a, b, s, t, iw⟩ = 1 from by simp [leaveD])
 have HR := hid (show instrB (ctxOf x) l c n ⟨6, a, b, s, t, iw⟩ = true from by unfold instrB; simp)
 clear _hS _hb _hi _hl _hc
 go_enter Tryz.func41, Tryz.ntmps41
 go_wp2
 refine bodyPost_ret (v := .tuple #[.int .i64 1, .int .i64 1, .bool true]) (by simp [results, Tryz.results41, go_sem]) rfl ?_
 exact ⟨ret3_is HT.out.symm HL.out.symm HR.out.symm, hb3.out⟩
set_option maxHeartbeats 2000000 in
theorem dinstr_7 (x : Wv) (lim : Int) (a b : Int) (s t : ByteArray) (iw : Wd) (p l c : Int) (fa : Option Addr) (n cap : Nat) (w : World) (_hS : subW w (fun b => b < w.heap.size) x) (_hb : bigW x) (_hi : wfIns ⟨7, a, b, s, t, iw⟩) (_hn : n ≤ 9223372036854775807) (_hl : 0 ≤ l ∧ l ≤ 40) (_hc : 0 ≤ c ∧ c ≤ 40) :
  Calls Tryz.prog 41 #[.agg #[.slice x.fa x.fs.length x.fcap, .slice x.ga x.gs.length x.gcap, .slice x.ra x.rs.length x.rcap, .slice x.ha x.hs.length x.hcap, .int .i64 lim], .agg #[.int .i64 p, .int .i64 l, .int .i64 c, .slice fa n cap], .agg #[.int .i64 7, .int .i64 a, .int .i64 b, .string s, .string t, .int .i64 iw.k, .int .i64 iw.n, .string iw.s]] w fun e w' => e = ret3 (takeD ⟨7, a, b, s, t, iw⟩) (leaveD ⟨7, a, b, s, t, iw⟩) (instrB (ctxOf x) l c n ⟨7, a, b, s, t, iw⟩) ∧ Below w.heap.size w w' := by
 have hb3 := hid (below_3 w (.cells #[.slice x.fa x.fs.length x.fcap, .slice x.ga x.gs.length x.gcap, .slice x.ra x.rs.length x.rcap, .slice x.ha x.hs.length x.hcap, .int .i64 lim] 29) (.cells #[.int .i64 p, .int .i64 l, .int .i64 c, .slice fa n cap] 63) (.cells #[.int .i64 7, .int .i64 a, .int .i64 b, .string s, .string t, .int .i64 iw.k, .int .i64 iw.n, .string iw.s] 89))
 have HT := hid (show takeD ⟨7, a, b, s, t, iw⟩ = 1 from by simp [takeD])
 have HL := hid (show leaveD ⟨7, a, b, s, t, iw⟩ = 1 from by simp [leaveD])
 have HR := hid (show instrB (ctxOf x) l c n ⟨7, a, b, s, t, iw⟩ = true from by unfold instrB; simp)
 clear _hS _hb _hi _hl _hc
 go_enter Tryz.func41, Tryz.ntmps41
 go_wp2
 refine bodyPost_ret (v := .tuple #[.int .i64 1, .int .i64 1, .bool true]) (by simp [results, Tryz.results41, go_sem]) rfl ?_
 exact ⟨ret3_is HT.out.symm HL.out.symm HR.out.symm, hb3.out⟩
set_option maxHeartbeats 2000000 in
theorem dinstr_8 (x : Wv) (lim : Int) (a b : Int) (s t : ByteArray) (iw : Wd) (p l c : Int) (fa : Option Addr) (n cap : Nat) (w : World) (_hS : subW w (fun b => b < w.heap.size) x) (_hb : bigW x) (_hi : wfIns ⟨8, a, b, s, t, iw⟩) (_hn : n ≤ 9223372036854775807) (_hl : 0 ≤ l ∧ l ≤ 40) (_hc : 0 ≤ c ∧ c ≤ 40) :
  Calls Tryz.prog 41 #[.agg #[.slice x.fa x.fs.length x.fcap, .slice x.ga x.gs.length x.gcap, .slice x.ra x.rs.length x.rcap, .slice x.ha x.hs.length x.hcap, .int .i64 lim], .agg #[.int .i64 p, .int .i64 l, .int .i64 c, .slice fa n cap], .agg #[.int .i64 8, .int .i64 a, .int .i64 b, .string s, .string t, .int .i64 iw.k, .int .i64 iw.n, .string iw.s]] w fun e w' => e = ret3 (takeD ⟨8, a, b, s, t, iw⟩) (leaveD ⟨8, a, b, s, t, iw⟩) (instrB (ctxOf x) l c n ⟨8, a, b, s, t, iw⟩) ∧ Below w.heap.size w w' := by
 have hb3 := hid (below_3 w (.cells #[.slice x.fa x.fs.length x.fcap, .slice x.ga x.gs.length x.gcap, .slice x.ra x.rs.length x.rcap, .slice x.ha x.hs.length x.hcap, .int .i64 lim] 29) (.cells #[.int .i64 p, .int .i64 l, .int .i64 c, .slice fa n cap] 63) (.cells #[.int .i64 8, .int .i64 a, .int .i64 b, .string s, .string t, .int .i64 iw.k, .int .i64 iw.n, .string iw.s] 89))
 have HT := hid (show takeD ⟨8, a, b, s, t, iw⟩ = 2 from by simp [takeD])
 have HL := hid (show leaveD ⟨8, a, b, s, t, iw⟩ = 0 from by simp [leaveD])
 have HR := hid (show instrB (ctxOf x) l c n ⟨8, a, b, s, t, iw⟩ = true from by unfold instrB; simp)
 clear _hS _hb _hi _hl _hc
 go_enter Tryz.func41, Tryz.ntmps41
 go_wp2
 refine bodyPost_ret (v := .tuple #[.int .i64 2, .int .i64 0, .bool true]) (by simp [results, Tryz.results41, go_sem]) rfl ?_
 exact ⟨ret3_is HT.out.symm HL.out.symm HR.out.symm, hb3.out⟩
set_option maxHeartbeats 2000000 in
theorem dinstr_9 (x : Wv) (lim : Int) (a b : Int) (s t : ByteArray) (iw : Wd) (p l c : Int) (fa : Option Addr) (n cap : Nat) (w : World) (hS : subW w (fun b => b < w.heap.size) x) (hb : bigW x) (_hi : wfIns ⟨9, a, b, s, t, iw⟩) (_hn : n ≤ 9223372036854775807) (_hl : 0 ≤ l ∧ l ≤ 40) (_hc : 0 ≤ c ∧ c ≤ 40) :
  Calls Tryz.prog 41 #[.agg #[.slice x.fa x.fs.length x.fcap, .slice x.ga x.gs.length x.gcap, .slice x.ra x.rs.length x.rcap, .slice x.ha x.hs.length x.hcap, .int .i64 lim], .agg #[.int .i64 p, .int .i64 l, .int .i64 c, .slice fa n cap], .agg #[.int .i64 9, .int .i64 a, .int .i64 b, .string s, .string t, .int .i64 iw.k, .int .i64 iw.n, .string iw.s]] w fun e w' => e = ret3 (takeD ⟨9, a, b, s, t, iw⟩) (leaveD ⟨9, a, b, s, t, iw⟩) (instrB (ctxOf x) l c n ⟨9, a, b, s, t, iw⟩) ∧ Below w.heap.size w w' := by
 have hb3 := hid (below_3 w (.cells #[.slice x.fa x.fs.length x.fcap, .slice x.ga x.gs.length x.gcap, .slice x.ra x.rs.length x.rcap, .slice x.ha x.hs.length x.hcap, .int .i64 lim] 29) (.cells #[.int .i64 p, .int .i64 l, .int .i64 c, .slice fa n cap] 63) (.cells #[.int .i64 9, .int .i64 a, .int .i64 b, .string s, .string t, .int .i64 iw.k, .int .i64 iw.n, .string iw.s] 89))
 have HT := hid (show takeD ⟨9, a, b, s, t, iw⟩ = 0 from by simp [takeD])
 have HL := hid (show leaveD ⟨9, a, b, s, t, iw⟩ = 1 from by simp [leaveD])
 have HR := hid (show instrB (ctxOf x) l c n ⟨9, a, b, s, t, iw⟩ = hasS (x.gs.map Gl.name) s from by unfold instrB ctxOf; simp)
 have HG := hid (idxF_ge s (x.gs.map Gl.name) 0)
 have hgl : x.gs.length ≤ 9223372036854775807 := by have := hb.g; omega
 have hcall0 := hid (globAt_any (.slice x.fa x.fs.length x.fcap) (.slice x.ra x.rs.length x.rcap) (.slice x.ha x.hs.length x.hcap) (.int .i64 lim) x.ga x.gs x.gcap s (((w.alloc (.cells #[.slice x.fa x.fs.length x.fcap, .slice x.ga x.gs.length x.gcap, .slice x.ra x.rs.length x.rcap, .slice x.ha x.hs.length x.hcap, .int .i64 lim] 29)).alloc (.cells #[.int .i64 p, .int .i64 l, .int .i64 c, .slice fa n cap] 63)).alloc (.cells #[.int .i64 9, .int .i64 a, .int .i64 b, .string s, .string t, .int .i64 iw.k, .int .i64 iw.n, .string iw.s] 89)) (Cs.below hS.g hb3.out hb3.out.size) hgl)
 clear hS hb _hi _hl _hc hgl
 go_enter Tryz.func41, Tryz.ntmps41
 go_wp2_with fail
 have hcall := hcall0.out
 go_fit hcall
 clear hcall
 rintro e w2 ⟨rfl, hb2⟩
 have hB := hid (hb3.out.trans (hb2.mono hb3.out.size))
 go_wp2_with fail
 refine bodyPost_ret (v := .tuple #[.int .i64 0, .int .i64 1, .bool (decide (0 ≤ idxF s 0 (x.gs.map Gl.name)))]) (by simp [results, Tryz.results41, go_sem]) rfl ?_
 exact ⟨ret3_is HT.out.symm HL.out.symm (HG.out.trans HR.out.symm), hB.out⟩
set_option maxHeartbeats 2000000 in
theorem dinstr_10 (x : Wv) (lim : Int) (a b : Int) (s t : ByteArray) (iw : Wd) (p l c : Int) (fa : Option Addr) (n cap : Nat) (w : World) (hS : subW w (fun b => b < w.heap.size) x) (hb : bigW x) (_hi : wfIns ⟨10, a, b, s, t, iw⟩) (_hn : n ≤ 9223372036854775807) (_hl : 0 ≤ l ∧ l ≤ 40) (_hc : 0 ≤ c ∧ c ≤ 40) :
  Calls Tryz.prog 41 #[.agg #[.slice x.fa x.fs.length x.fcap, .slice x.ga x.gs.length x.gcap, .slice x.ra x.rs.length x.rcap, .slice x.ha x.hs.length x.hcap, .int .i64 lim], .agg #[.int .i64 p, .int .i64 l, .int .i64 c, .slice fa n cap], .agg #[.int .i64 10, .int .i64 a, .int .i64 b, .string s, .string t, .int .i64 iw.k, .int .i64 iw.n, .string iw.s]] w fun e w' => e = ret3 (takeD ⟨10, a, b, s, t, iw⟩) (leaveD ⟨10, a, b, s, t, iw⟩) (instrB (ctxOf x) l c n ⟨10, a, b, s, t, iw⟩) ∧ Below w.heap.size w w' := by
 have hb3 := hid (below_3 w (.cells #[.slice x.fa x.fs.length x.fcap, .slice x.ga x.gs.length x.gcap, .slice x.ra x.rs.length x.rcap, .slice x.ha x.hs.length x.hcap, .int .i64 lim] 29) (.cells #[.int .i64 p, .int .i64 l, .int .i64 c, .slice fa n cap] 63) (.cells #[.int .i64 10, .int .i64 a, .int .i64 b, .string s, .string t, .int .i64 iw.k, .int .i64 iw.n, .string iw.s] 89))
 have HT := hid (show takeD ⟨10, a, b, s, t, iw⟩ = 1 from by simp [takeD])
 have HL := hid (show leaveD ⟨10, a, b, s, t, iw⟩ = 0 from by simp [leaveD])
 have HR := hid (show instrB (ctxOf x) l c n ⟨10, a, b, s, t, iw⟩ = hasS (x.gs.map Gl.name) s from by unfold instrB ctxOf; simp)
 have HG := hid (idxF_ge s (x.gs.map Gl.name) 0)
 have hgl : x.gs.length ≤ 9223372036854775807 := by have := hb.g; omega
 have hcall0 := hid (globAt_any (.slice x.fa x.fs.length x.fcap) (.slice x.ra x.rs.length x.rcap) (.slice x.ha x.hs.length x.hcap) (.int .i64 lim) x.ga x.gs x.gcap s (((w.alloc (.cells #[.slice x.fa x.fs.length x.fcap, .slice x.ga x.gs.length x.gcap, .slice x.ra x.rs.length x.rcap, .slice x.ha x.hs.length x.hcap, .int .i64 lim] 29)).alloc (.cells #[.int .i64 p, .int .i64 l, .int .i64 c, .slice fa n cap] 63)).alloc (.cells #[.int .i64 10, .int .i64 a, .int .i64 b, .string s, .string t, .int .i64 iw.k, .int .i64 iw.n, .string iw.s] 89)) (Cs.below hS.g hb3.out hb3.out.size) hgl)
 clear hS hb _hi _hl _hc hgl
 go_enter Tryz.func41, Tryz.ntmps41
 go_wp2_with fail
 have hcall := hcall0.out
 go_fit hcall
 clear hcall
 rintro e w2 ⟨rfl, hb2⟩
 have hB := hid (hb3.out.trans (hb2.mono hb3.out.size))
 go_wp2_with fail
 refine bodyPost_ret (v := .tuple #[.int .i64 1, .int .i64 0, .bool (decide (0 ≤ idxF s 0 (x.gs.map Gl.name)))]) (by simp [results, Tryz.results41, go_sem]) rfl ?_
 exact ⟨ret3_is HT.out.symm HL.out.symm (HG.out.trans HR.out.symm), hB.out⟩
set_option maxHeartbeats 2000000 in
theorem dinstr_11 (x : Wv) (lim : Int) (a b : Int) (s t : ByteArray) (iw : Wd) (p l c : Int) (fa : Option Addr) (n cap : Nat) (w : World) (hS : subW w (fun b => b < w.heap.size) x) (hb : bigW x) (hi : wfIns ⟨11, a, b, s, t, iw⟩) (_hn : n ≤ 9223372036854775807) (_hl : 0 ≤ l ∧ l ≤ 40) (_hc : 0 ≤ c ∧ c ≤ 40) :
  Calls Tryz.prog 41 #[.agg #[.slice x.fa x.fs.length x.fcap, .slice x.ga x.gs.length x.gcap, .slice x.ra x.rs.length x.rcap, .slice x.ha x.hs.length x.hcap, .int .i64 lim], .agg #[.int .i64 p, .int .i64 l, .int .i64 c, .slice fa n cap], .agg #[.int .i64 11, .int .i64 a, .int .i64 b, .string s, .string t, .int .i64 iw.k, .int .i64 iw.n, .string iw.s]] w fun e w' => e = ret3 (takeD ⟨11, a, b, s, t, iw⟩) (leaveD ⟨11, a, b, s, t, iw⟩) (instrB (ctxOf x) l c n ⟨11, a, b, s, t, iw⟩) ∧ Below w.heap.size w w' := by
 have hb3 := hid (below_3 w (.cells #[.slice x.fa x.fs.length x.fcap, .slice x.ga x.gs.length x.gcap, .slice x.ra x.rs.length x.rcap, .slice x.ha x.hs.length x.hcap, .int .i64 lim] 29) (.cells #[.int .i64 p, .int .i64 l, .int .i64 c, .slice fa n cap] 63) (.cells #[.int .i64 11, .int .i64 a, .int .i64 b, .string s, .string t, .int .i64 iw.k, .int .i64 iw.n, .string iw.s] 89))
 have HT := hid (fun a => show takeD ⟨11, a, b, s, t, iw⟩ = b from by simp [takeD])
 have HL := hid (fun a => show leaveD ⟨11, a, b, s, t, iw⟩ = 1 from by simp [leaveD])
 have HR0 := hid (fun a => show instrB (ctxOf x) l c n ⟨11, a, b, s, t, iw⟩ = (belB a x.fs.length && decide (b = (x.fs.map VV.Fn.c).getD a.toNat 0)) from by unfold instrB ctxOf; simp)
 have hfs : x.fs.length ≤ 9223372036854775807 := by have := hb.f; omega
 by_cases hin : 0 ≤ a ∧ a < x.fs.length
 ·
  obtain ⟨j, rfl⟩ := Int.eq_ofNat_of_zero_le hin.1
  have hj : j < x.fs.length := by omega
  have hbl : belB (j : Int) x.fs.length = true := by unfold belB; simp [hj]
  have hI : inB (j : Int) 0 ((x.fs.length : Int) - 1) = true := by unfold inB; simp; omega
  obtain ⟨q, o, hq, hqB, x0, x1, d2, x3⟩ := fn_at hS.f hj
  have HR := hid (show instrB (ctxOf x) l c n ⟨11, (j : Int), b, s, t, iw⟩ = decide ((x.fs[j]'hj).c = b) by rw [HR0.out, hbl, Int.toNat_natCast, List.getD_eq_getElem?_getD, List.getElem?_map, List.getElem?_eq_getElem hj]; simp [eq_comm])
  generalize (x.fs[j]'hj).c = fc at d2 HR
  clear hin
  obtain ⟨w3, hw3⟩ : ∃ w3, w3 = (((w.alloc (.cells #[.slice x.fa x.fs.length x.fcap, .slice x.ga x.gs.length x.gcap, .slice x.ra x.rs.length x.rcap, .slice x.ha x.hs.length x.hcap, .int .i64 lim] 29)).alloc (.cells #[.int .i64 p, .int .i64 l, .int .i64 c, .slice fa n cap] 63)).alloc (.cells #[.int .i64 11, .int .i64 (j : Int), .int .i64 b, .string s, .string t, .int .i64 iw.k, .int .i64 iw.n, .string iw.s] 89)) := ⟨_, rfl⟩
  have HB3 := hid (show Below w.heap.size w w3 by rw [hw3]; exact hb3.out)
  have hz3 : w3.heap.size = w.heap.size + 3 := by rw [hw3]; simp
  have k0 : w3.cell? ⟨w.heap.size, 0, none⟩ = some (.slice x.fa x.fs.length x.fcap) ∧ w3.cell? ⟨w.heap.size, 1, none⟩ = some (.slice x.ga x.gs.length x.gcap) ∧ w3.cell? ⟨w.heap.size, 2, none⟩ = some (.slice x.ra x.rs.length x.rcap) ∧ w3.cell? ⟨w.heap.size, 3, none⟩ = some (.slice x.ha x.hs.length x.hcap) ∧ w3.cell? ⟨w.heap.size, 4, none⟩ = some (.int .i64 lim) ∧
    w3.cell? ⟨w.heap.size + 2, 1, none⟩ = some (.int .i64 (j : Int)) ∧ w3.cell? ⟨w.heap.size + 2, 2, none⟩ = some (.int .i64 b) ∧ w3.cell? ⟨w.heap.size + 2, 3, none⟩ = some (.string s) := by
   rw [hw3]; refine ⟨?_, ?_, ?_, ?_, ?_, ?_, ?_, ?_⟩ <;> go_simp
  obtain ⟨k0, k1, k2, k3, k4, k5, k6, k7⟩ := k0
  have H3 := hid hw3
  have HS := hid hS
  have hrl : x.rs.length ≤ 9223372036854775807 := by have := hb.r; omega
  have hfl : x.fs.length ≤ 9223372036854775807 := by have := hb.f; omega
  clear hw3 hS hb hi _hl _hc
  have kf := (HB3.out.cell (p := ⟨q, o + j * 4 + 2, none⟩) hqB).trans d2
  have hq3 : q < w3.heap.size := by have := HB3.out.size; omega
  rw [hq] at k0
  clear hq x0 x1 x3 d2
  go_enter Tryz.func41, Tryz.ntmps41
  go_wp2_with fail
  rw [← H3.out]
  refine wp_region_invA (fun _ w' => Below w3.heap.size w3 w') (fun _ w' w'' => Below w'.heap.size w' w'') (fun i vv w' => match i with
   | 0 => vv = .pointer (some ⟨w.heap.size + 2, 2, none⟩)
   | 1 => vv = .int .i64 b
   | 2 => vv = .pointer (some ⟨w.heap.size + 2, 1, none⟩)
   | 3 => vv = .int .i64 (j : Int)
   | 4 => vv = .pointer (some ⟨w.heap.size, 0, none⟩)
   | 5 => vv = .slice (some ⟨q, o, none⟩) x.fs.length x.fcap
   | 6 => vv = .int .i64 (x.fs.length : Int)
   | 7 => vv = .int .i64 ((x.fs.length : Int) - 1)
   | 8 => vv = .bool true
   | 9 => vv = .bool true
   | 10 => vv = .pointer (some ⟨w.heap.size, 0, none⟩)
   | 11 => vv = .slice (some ⟨q, o, none⟩) x.fs.length x.fcap
   | 12 => vv = .pointer (some ⟨w.heap.size + 2, 1, none⟩)
   | 13 => vv = .int .i64 (j : Int)
   | 14 => vv = .pointer (some ⟨q, o + j * 4, none⟩)
   | 15 => vv = .pointer (some ⟨q, o + j * 4 + 2, none⟩)
   | 16 => vv = .int .i64 fc
   | 17 => vv = .pointer (some ⟨w.heap.size + 2, 2, none⟩)
   | 18 => vv = .int .i64 b
   | 19 => vv = .bool (decide (fc = b))
   | 20 => vv = .bool (decide (fc = b))
   | 21 => vv = .int .i64 b
   | 22 => vv = .int .i64 1
   | 23 => vv = .bool (decide (fc = b))
   | _ => True) (by kernel_rfl) (by kernel_rfl) (Below.refl _ _).drew ?hmono ⟨?o0, ?o1, ?o2, ?o3, ?o4, ?o5, ?o6, ?o7, ?o8, ?o9, ?o10, ?o11, ?o12, ?o13, ?o14, ?o15, ?o16, ?o17, ?o18, ?o19, ?o20, ?o21, ?o22, ?o23, trivial⟩ ?hend
  case o0 =>
   intro dn a w' _ hS hF K hK
   have h5 := hF.out 5 (by kernel_rfl) rfl
   rw [if_pos (by kernel_rfl)]
   go_simp
   exact hK _ _ _ rfl hS (Below.refl _ _) rfl
  case o1 =>
   intro dn a w' _ hS hF K hK
   obtain ⟨v87, h87, rfl⟩ := hF.va 0 87
   have k0' := cx hS k0
   have k1' := cx hS k1
   have k2' := cx hS k2
   have k3' := cx hS k3
   have k4' := cx hS k4
   have k5' := cx hS k5
   have k6' := cx hS k6
   have k7' := cx hS k7
   have kf' := cx hS kf
   rw [if_pos (by kernel_rfl)]
   go_simp
   exact hK _ _ _ rfl hS (Below.refl _ _) rfl
  case o2 =>
   intro dn a w' _ hS hF K hK
   have h5 := hF.out 5 (by kernel_rfl) rfl
   rw [if_pos (by kernel_rfl)]
   go_simp
   exact hK _ _ _ rfl hS (Below.refl _ _) rfl
  case o3 =>
   intro dn a w' _ hS hF K hK
   obtain ⟨v89, h89, rfl⟩ := hF.va 2 89
   have k0' := cx hS k0
   have k1' := cx hS k1
   have k2' := cx hS k2
   have k3' := cx hS k3
   have k4' := cx hS k4
   have k5' := cx hS k5
   have k6' := cx hS k6
   have k7' := cx hS k7
   have kf' := cx hS kf
   rw [if_pos (by kernel_rfl)]
   go_simp
   exact hK _ _ _ rfl hS (Below.refl _ _) rfl
  case o4 =>
   intro dn a w' _ hS hF K hK
   have h3 := hF.out 3 (by kernel_rfl) rfl
   rw [if_pos (by kernel_rfl)]
   go_simp
   exact hK _ _ _ rfl hS (Below.refl _ _) rfl
  case o5 =>
   intro dn a w' _ hS hF K hK
   obtain ⟨v91, h91, rfl⟩ := hF.va 4 91
   have k0' := cx hS k0
   have k1' := cx hS k1
   have k2' := cx hS k2
   have k3' := cx hS k3
   have k4' := cx hS k4
   have k5' := cx hS k5
   have k6' := cx hS k6
   have k7' := cx hS k7
   have kf' := cx hS kf
   rw [if_pos (by kernel_rfl)]
   go_simp
   exact hK _ _ _ rfl hS (Below.refl _ _) rfl
  case o6 =>
   intro dn a w' _ hS hF K hK
   obtain ⟨v92, h92, rfl⟩ := hF.va 5 92
   rw [if_pos (by kernel_rfl)]
   go_simp
   exact hK _ _ _ rfl hS (Below.refl _ _) rfl
  case o7 =>
   intro dn a w' _ hS hF K hK
   obtain ⟨v93, h93, rfl⟩ := hF.va 6 93
   rw [if_pos (by kernel_rfl)]
   go_simp
   rw [wrap_len hfl]
   exact hK _ _ _ rfl hS (Below.refl _ _) rfl
  case o8 =>
   intro dn a w' _ hS hF K hK
   obtain ⟨v90, h90, rfl⟩ := hF.va 3 90
   obtain ⟨v94, h94, rfl⟩ := hF.va 7 94
   rw [if_pos (by kernel_rfl)]
   go_simp
   refine (HH.In_any _ 0 _ w').mono ?_
   rintro e w'' ⟨rfl, rfl⟩
   rw [hI]
   exact hK _ _ _ rfl hS (Below.refl _ _) rfl
  case o9 =>
   intro dn a w' _ hS hF K hK
   obtain ⟨v95, h95, rfl⟩ := hF.va 8 95
   rw [if_pos (by kernel_rfl)]
   go_simp
   exact hK _ _ _ rfl hS (Below.refl _ _) rfl
  case o10 =>
   intro dn a w' _ hS hF K hK
   have h3 := hF.out 3 (by kernel_rfl) rfl
   obtain ⟨v96, h96, rfl⟩ := hF.va 9 96
   rw [if_pos (wanted_yes 9 rfl (by kernel_rfl) h96)]
   go_simp
   exact hK _ _ _ rfl hS (Below.refl _ _) rfl
  case o11 =>
   intro dn a w' _ hS hF K hK
   obtain ⟨v97, h97, rfl⟩ := hF.va 10 97
   obtain ⟨v96, h96, rfl⟩ := hF.va 9 96
   have k0' := cx hS k0
   have k1' := cx hS k1
   have k2' := cx hS k2
   have k3' := cx hS k3
   have k4' := cx hS k4
   have k5' := cx hS k5
   have k6' := cx hS k6
   have k7' := cx hS k7
   have kf' := cx hS kf
   rw [if_pos (wanted_yes 9 rfl (by kernel_rfl) h96)]
   go_simp
   exact hK _ _ _ rfl hS (Below.refl _ _) rfl
  case o12 =>
   intro dn a w' _ hS hF K hK
   have h5 := hF.out 5 (by kernel_rfl) rfl
   obtain ⟨v96, h96, rfl⟩ := hF.va 9 96
   rw [if_pos (wanted_yes 9 rfl (by kernel_rfl) h96)]
   go_simp
   exact hK _ _ _ rfl hS (Below.refl _ _) rfl
  case o13 =>
   intro dn a w' _ hS hF K hK
   obtain ⟨v99, h99, rfl⟩ := hF.va 12 99
   obtain ⟨v96, h96, rfl⟩ := hF.va 9 96
   have k0' := cx hS k0
   have k1' := cx hS k1
   have k2' := cx hS k2
   have k3' := cx hS k3
   have k4' := cx hS k4
   have k5' := cx hS k5
   have k6' := cx hS k6
   have k7' := cx hS k7
   have kf' := cx hS kf
   rw [if_pos (wanted_yes 9 rfl (by kernel_rfl) h96)]
   go_simp
   exact hK _ _ _ rfl hS (Below.refl _ _) rfl
  case o14 =>
   intro dn a w' _ hS hF K hK
   obtain ⟨v98, h98, rfl⟩ := hF.va 11 98
   obtain ⟨v100, h100, rfl⟩ := hF.va 13 100
   obtain ⟨v96, h96, rfl⟩ := hF.va 9 96
   rw [if_pos (wanted_yes 9 rfl (by kernel_rfl) h96)]
   go_simp
   exact hK _ _ _ rfl hS (Below.refl _ _) rfl
  case o15 =>
   intro dn a w' _ hS hF K hK
   obtain ⟨v101, h101, rfl⟩ := hF.va 14 101
   obtain ⟨v96, h96, rfl⟩ := hF.va 9 96
   rw [if_pos (wanted_yes 9 rfl (by kernel_rfl) h96)]
   go_simp
   exact hK _ _ _ rfl hS (Below.refl _ _) rfl
  case o16 =>
   intro dn a w' _ hS hF K hK
   obtain ⟨v102, h102, rfl⟩ := hF.va 15 102
   obtain ⟨v96, h96, rfl⟩ := hF.va 9 96
   have k0' := cx hS k0
   have k1' := cx hS k1
   have k2' := cx hS k2
   have k3' := cx hS k3
   have k4' := cx hS k4
   have k5' := cx hS k5
   have k6' := cx hS k6
   have k7' := cx hS k7
   have kf' := cx hS kf
   rw [if_pos (wanted_yes 9 rfl (by kernel_rfl) h96)]
   go_simp
   exact hK _ _ _ rfl hS (Below.refl _ _) rfl
  case o17 =>
   intro dn a w' _ hS hF K hK
   have h5 := hF.out 5 (by kernel_rfl) rfl
   obtain ⟨v96, h96, rfl⟩ := hF.va 9 96
   rw [if_pos (wanted_yes 9 rfl (by kernel_rfl) h96)]
   go_simp
   exact hK _ _ _ rfl hS (Below.refl _ _) rfl
  case o18 =>
   intro dn a w' _ hS hF K hK
   obtain ⟨v104, h104, rfl⟩ := hF.va 17 104
   obtain ⟨v96, h96, rfl⟩ := hF.va 9 96
   have k0' := cx hS k0
   have k1' := cx hS k1
   have k2' := cx hS k2
   have k3' := cx hS k3
   have k4' := cx hS k4
   have k5' := cx hS k5
   have k6' := cx hS k6
   have k7' := cx hS k7
   have kf' := cx hS kf
   rw [if_pos (wanted_yes 9 rfl (by kernel_rfl) h96)]
   go_simp
   exact hK _ _ _ rfl hS (Below.refl _ _) rfl
  case o19 =>
   intro dn a w' _ hS hF K hK
   obtain ⟨v103, h103, rfl⟩ := hF.va 16 103
   obtain ⟨v105, h105, rfl⟩ := hF.va 18 105
   obtain ⟨v96, h96, rfl⟩ := hF.va 9 96
   rw [if_pos (wanted_yes 9 rfl (by kernel_rfl) h96)]
   go_simp
   exact hK _ _ _ rfl hS (Below.refl _ _) rfl
  case o20 =>
   intro dn a w' _ hS hF K hK
   obtain ⟨v96, h96, rfl⟩ := hF.va 9 96
   obtain ⟨v106, h106, rfl⟩ := hF.va 19 106
   rw [if_pos (by kernel_rfl)]
   go_simp
   exact hK _ _ _ rfl hS (Below.refl _ _) rfl
  case o21 =>
   intro dn a w' _ hS hF K hK
   obtain ⟨v88, h88, rfl⟩ := hF.va 1 88
   rw [if_pos (by kernel_rfl)]
   go_simp
   exact hK _ _ _ rfl hS (Below.refl _ _) rfl
  case o22 =>
   intro dn a w' _ hS hF K hK
   rw [if_pos (by kernel_rfl)]
   go_simp
   exact hK _ _ _ rfl hS (Below.refl _ _) rfl
  case o23 =>
   intro dn a w' _ hS hF K hK
   obtain ⟨v107, h107, rfl⟩ := hF.va 20 107
   rw [if_pos (by kernel_rfl)]
   go_simp
   exact hK _ _ _ rfl hS (Below.refl _ _) rfl
  case hmono =>
   intro i j v w1 w2 _ _ _ _ _ hv _
   exact hv
  case hend =>
   intro dn w5 vs hS hv
   have hvA : vs 21 = .int .i64 b := hv 21 (by decide)
   have hvB : vs 22 = .int .i64 1 := hv 22 (by decide)
   have hvC : vs 23 = .bool (decide (fc = b)) := hv 23 (by decide)
   clear hv
   simp only [putsL, Nat.reduceAdd, Act.put, List.setIfInBounds_toArray, List.set_cons_zero, List.set_cons_succ, hvA, hvB, hvC]
   go_wp2
   refine bodyPost_ret (v := .tuple #[.int .i64 b, .int .i64 1, .bool (decide (fc = b))]) (by simp [results, Tryz.results41, go_sem]) rfl ?_
   exact ⟨ret3_is (HT.out _).symm (HL.out _).symm HR.out.symm, HB3.out.trans (hS.mono HB3.out.size)⟩
 ·
  have hf : belB a x.fs.length = false := by rw [Bool.eq_false_iff]; intro e; unfold belB at e; simp only [Bool.and_eq_true, decide_eq_true_eq] at e; exact hin e
  have hI : inB a 0 ((x.fs.length : Int) - 1) = false := by rw [Bool.eq_false_iff]; intro e; unfold inB at e; simp only [Bool.and_eq_true, decide_eq_true_eq] at e; exact hin (by omega)
  have HR := hid (show instrB (ctxOf x) l c n ⟨11, a, b, s, t, iw⟩ = false by rw [HR0.out, hf]; rfl)
  clear hin
  obtain ⟨w3, hw3⟩ : ∃ w3, w3 = (((w.alloc (.cells #[.slice x.fa x.fs.length x.fcap, .slice x.ga x.gs.length x.gcap, .slice x.ra x.rs.length x.rcap, .slice x.ha x.hs.length x.hcap, .int .i64 lim] 29)).alloc (.cells #[.int .i64 p, .int .i64 l, .int .i64 c, .slice fa n cap] 63)).alloc (.cells #[.int .i64 11, .int .i64 a, .int .i64 b, .string s, .string t, .int .i64 iw.k, .int .i64 iw.n, .string iw.s] 89)) := ⟨_, rfl⟩
  have HB3 := hid (show Below w.heap.size w w3 by rw [hw3]; exact hb3.out)
  have hz3 : w3.heap.size = w.heap.size + 3 := by rw [hw3]; simp
  have k0 : w3.cell? ⟨w.heap.size, 0, none⟩ = some (.slice x.fa x.fs.length x.fcap) ∧ w3.cell? ⟨w.heap.size, 1, none⟩ = some (.slice x.ga x.gs.length x.gcap) ∧ w3.cell? ⟨w.heap.size, 2, none⟩ = some (.slice x.ra x.rs.length x.rcap) ∧ w3.cell? ⟨w.heap.size, 3, none⟩ = some (.slice x.ha x.hs.length x.hcap) ∧ w3.cell? ⟨w.heap.size, 4, none⟩ = some (.int .i64 lim) ∧
    w3.cell? ⟨w.heap.size + 2, 1, none⟩ = some (.int .i64 a) ∧ w3.cell? ⟨w.heap.size + 2, 2, none⟩ = some (.int .i64 b) ∧ w3.cell? ⟨w.heap.size + 2, 3, none⟩ = some (.string s) := by
   rw [hw3]; refine ⟨?_, ?_, ?_, ?_, ?_, ?_, ?_, ?_⟩ <;> go_simp
  obtain ⟨k0, k1, k2, k3, k4, k5, k6, k7⟩ := k0
  have H3 := hid hw3
  have HS := hid hS
  have hrl : x.rs.length ≤ 9223372036854775807 := by have := hb.r; omega
  have hfl : x.fs.length ≤ 9223372036854775807 := by have := hb.f; omega
  clear hw3 hS hb hi _hl _hc
  go_enter Tryz.func41, Tryz.ntmps41
  go_wp2_with fail
  rw [← H3.out]
  refine wp_region_invA (fun _ w' => Below w3.heap.size w3 w') (fun _ w' w'' => Below w'.heap.size w' w'') (fun i vv w' => match i with
   | 0 => vv = .pointer (some ⟨w.heap.size + 2, 2, none⟩)
   | 1 => vv = .int .i64 b
   | 2 => vv = .pointer (some ⟨w.heap.size + 2, 1, none⟩)
   | 3 => vv = .int .i64 a
   | 4 => vv = .pointer (some ⟨w.heap.size, 0, none⟩)
   | 5 => vv = .slice x.fa x.fs.length x.fcap
   | 6 => vv = .int .i64 (x.fs.length : Int)
   | 7 => vv = .int .i64 ((x.fs.length : Int) - 1)
   | 8 => vv = .bool false
   | 9 => vv = .bool false
   | 10 => vv = undef
   | 11 => vv = undef
   | 12 => vv = undef
   | 13 => vv = undef
   | 14 => vv = undef
   | 15 => vv = undef
   | 16 => vv = undef
   | 17 => vv = undef
   | 18 => vv = undef
   | 19 => vv = undef
   | 20 => vv = .bool false
   | 21 => vv = .int .i64 b
   | 22 => vv = .int .i64 1
   | 23 => vv = .bool false
   | _ => True) (by kernel_rfl) (by kernel_rfl) (Below.refl _ _).drew ?hmono ⟨?o0, ?o1, ?o2, ?o3, ?o4, ?o5, ?o6, ?o7, ?o8, ?o9, ?o10, ?o11, ?o12, ?o13, ?o14, ?o15, ?o16, ?o17, ?o18, ?o19, ?o20, ?o21, ?o22, ?o23, trivial⟩ ?hend
  case o0 =>
   intro dn a w' _ hS hF K hK
   have h5 := hF.out 5 (by kernel_rfl) rfl
   rw [if_pos (by kernel_rfl)]
   go_simp
   exact hK _ _ _ rfl hS (Below.refl _ _) rfl
  case o1 =>
   intro dn a w' _ hS hF K hK
   obtain ⟨v87, h87, rfl⟩ := hF.va 0 87
   have k0' := cx hS k0
   have k1' := cx hS k1
   have k2' := cx hS k2
   have k3' := cx hS k3
   have k4' := cx hS k4
   have k5' := cx hS k5
   have k6' := cx hS k6
   have k7' := cx hS k7
   rw [if_pos (by kernel_rfl)]
   go_simp
   exact hK _ _ _ rfl hS (Below.refl _ _) rfl
  case o2 =>
   intro dn a w' _ hS hF K hK
   have h5 := hF.out 5 (by kernel_rfl) rfl
   rw [if_pos (by kernel_rfl)]
   go_simp
   exact hK _ _ _ rfl hS (Below.refl _ _) rfl
  case o3 =>
   intro dn a w' _ hS hF K hK
   obtain ⟨v89, h89, rfl⟩ := hF.va 2 89
   have k0' := cx hS k0
   have k1' := cx hS k1
   have k2' := cx hS k2
   have k3' := cx hS k3
   have k4' := cx hS k4
   have k5' := cx hS k5
   have k6' := cx hS k6
   have k7' := cx hS k7
   rw [if_pos (by kernel_rfl)]
   go_simp
   exact hK _ _ _ rfl hS (Below.refl _ _) rfl
  case o4 =>
   intro dn a w' _ hS hF K hK
   have h3 := hF.out 3 (by kernel_rfl) rfl
   rw [if_pos (by kernel_rfl)]
   go_simp
   exact hK _ _ _ rfl hS (Below.refl _ _) rfl
  case o5 =>
   intro dn a w' _ hS hF K hK
   obtain ⟨v91, h91, rfl⟩ := hF.va 4 91
   have k0' := cx hS k0
   have k1' := cx hS k1
   have k2' := cx hS k2
   have k3' := cx hS k3
   have k4' := cx hS k4
   have k5' := cx hS k5
   have k6' := cx hS k6
   have k7' := cx hS k7
   rw [if_pos (by kernel_rfl)]
   go_simp
   exact hK _ _ _ rfl hS (Below.refl _ _) rfl
  case o6 =>
   intro dn a w' _ hS hF K hK
   obtain ⟨v92, h92, rfl⟩ := hF.va 5 92
   rw [if_pos (by kernel_rfl)]
   go_simp
   exact hK _ _ _ rfl hS (Below.refl _ _) rfl
  case o7 =>
   intro dn a w' _ hS hF K hK
   obtain ⟨v93, h93, rfl⟩ := hF.va 6 93
   rw [if_pos (by kernel_rfl)]
   go_simp
   rw [wrap_len hfl]
   exact hK _ _ _ rfl hS (Below.refl _ _) rfl
  case o8 =>
   intro dn a w' _ hS hF K hK
   obtain ⟨v90, h90, rfl⟩ := hF.va 3 90
   obtain ⟨v94, h94, rfl⟩ := hF.va 7 94
   rw [if_pos (by kernel_rfl)]
   go_simp
   refine (HH.In_any _ 0 _ w').mono ?_
   rintro e w'' ⟨rfl, rfl⟩
   rw [hI]
   exact hK _ _ _ rfl hS (Below.refl _ _) rfl
  case o9 =>
   intro dn a w' _ hS hF K hK
   obtain ⟨v95, h95, rfl⟩ := hF.va 8 95
   rw [if_pos (by kernel_rfl)]
   go_simp
   exact hK _ _ _ rfl hS (Below.refl _ _) rfl
  case o10 =>
   intro dn a w' _ hS hF K hK
   obtain ⟨v96, h96, rfl⟩ := hF.va 9 96
   rw [if_neg (by rw [wanted_no 9 rfl (by kernel_rfl) h96]; decide)]
   exact hK _ _ _ rfl hS (Below.refl _ _) rfl
  case o11 =>
   intro dn a w' _ hS hF K hK
   obtain ⟨v96, h96, rfl⟩ := hF.va 9 96
   rw [if_neg (by rw [wanted_no 9 rfl (by kernel_rfl) h96]; decide)]
   exact hK _ _ _ rfl hS (Below.refl _ _) rfl
  case o12 =>
   intro dn a w' _ hS hF K hK
   obtain ⟨v96, h96, rfl⟩ := hF.va 9 96
   rw [if_neg (by rw [wanted_no 9 rfl (by kernel_rfl) h96]; decide)]
   exact hK _ _ _ rfl hS (Below.refl _ _) rfl
  case o13 =>
   intro dn a w' _ hS hF K hK
   obtain ⟨v96, h96, rfl⟩ := hF.va 9 96
   rw [if_neg (by rw [wanted_no 9 rfl (by kernel_rfl) h96]; decide)]
   exact hK _ _ _ rfl hS (Below.refl _ _) rfl
  case o14 =>
   intro dn a w' _ hS hF K hK
   obtain ⟨v96, h96, rfl⟩ := hF.va 9 96
   rw [if_neg (by rw [wanted_no 9 rfl (by kernel_rfl) h96]; decide)]
   exact hK _ _ _ rfl hS (Below.refl _ _) rfl
  case o15 =>
   intro dn a w' _ hS hF K hK
   obtain ⟨v96, h96, rfl⟩ := hF.va 9 96
   rw [if_neg (by rw [wanted_no 9 rfl (by kernel_rfl) h96]; decide)]
   exact hK _ _ _ rfl hS (Below.refl _ _) rfl
  case o16 =>
   intro dn a w' _ hS hF K hK
   obtain ⟨v96, h96, rfl⟩ := hF.va 9 96
   rw [if_neg (by rw [wanted_no 9 rfl (by kernel_rfl) h96]; decide)]
   exact hK _ _ _ rfl hS (Below.refl _ _) rfl
  case o17 =>
   intro dn a w' _ hS hF K hK
   obtain ⟨v96, h96, rfl⟩ := hF.va 9 96
   rw [if_neg (by rw [wanted_no 9 rfl (by kernel_rfl) h96]; decide)]
   exact hK _ _ _ rfl hS (Below.refl _ _) rfl
  case o18 =>
   intro dn a w' _ hS hF K hK
   obtain ⟨v96, h96, rfl⟩ := hF.va 9 96
   rw [if_neg (by rw [wanted_no 9 rfl (by kernel_rfl) h96]; decide)]
   exact hK _ _ _ rfl hS (Below.refl _ _) rfl
  case o19 =>
   intro dn a w' _ hS hF K hK
   obtain ⟨v96, h96, rfl⟩ := hF.va 9 96
   rw [if_neg (by rw [wanted_no 9 rfl (by kernel_rfl) h96]; decide)]
   exact hK _ _ _ rfl hS (Below.refl _ _) rfl
  case o20 =>
   intro dn a w' _ hS hF K hK
   obtain ⟨v96, h96, rfl⟩ := hF.va 9 96
   obtain ⟨v106, h106, rfl⟩ := hF.va 19 106
   rw [if_pos (by kernel_rfl)]
   go_simp
   exact hK _ _ _ rfl hS (Below.refl _ _) rfl
  case o21 =>
   intro dn a w' _ hS hF K hK
   obtain ⟨v88, h88, rfl⟩ := hF.va 1 88
   rw [if_pos (by kernel_rfl)]
   go_simp
   exact hK _ _ _ rfl hS (Below.refl _ _) rfl
  case o22 =>
   intro dn a w' _ hS hF K hK
   rw [if_pos (by kernel_rfl)]
   go_simp
   exact hK _ _ _ rfl hS (Below.refl _ _) rfl
  case o23 =>
   intro dn a w' _ hS hF K hK
   obtain ⟨v107, h107, rfl⟩ := hF.va 20 107
   rw [if_pos (by kernel_rfl)]
   go_simp
   exact hK _ _ _ rfl hS (Below.refl _ _) rfl
  case hmono =>
   intro i j v w1 w2 _ _ _ _ _ hv _
   exact hv
  case hend =>
   intro dn w5 vs hS hv
   have hvA : vs 21 = .int .i64 b := hv 21 (by decide)
   have hvB : vs 22 = .int .i64 1 := hv 22 (by decide)
   have hvC : vs 23 = .bool false := hv 23 (by decide)
   clear hv
   simp only [putsL, Nat.reduceAdd, Act.put, List.setIfInBounds_toArray, List.set_cons_zero, List.set_cons_succ, hvA, hvB, hvC]
   go_wp2
   refine bodyPost_ret (v := .tuple #[.int .i64 b, .int .i64 1, .bool false]) (by simp [results, Tryz.results41, go_sem]) rfl ?_
   exact ⟨ret3_is (HT.out _).symm (HL.out _).symm HR.out.symm, HB3.out.trans (hS.mono HB3.out.size)⟩
set_option maxHeartbeats 2000000 in
theorem dinstr_12 (x : Wv) (lim : Int) (a b : Int) (s t : ByteArray) (iw : Wd) (p l c : Int) (fa : Option Addr) (n cap : Nat) (w : World) (hS : subW w (fun b => b < w.heap.size) x) (hb : bigW x) (_hi : wfIns ⟨12, a, b, s, t, iw⟩) (_hn : n ≤ 9223372036854775807) (_hl : 0 ≤ l ∧ l ≤ 40) (_hc : 0 ≤ c ∧ c ≤ 40) :
  Calls Tryz.prog 41 #[.agg #[.slice x.fa x.fs.length x.fcap, .slice x.ga x.gs.length x.gcap, .slice x.ra x.rs.length x.rcap, .slice x.ha x.hs.length x.hcap, .int .i64 lim], .agg #[.int .i64 p, .int .i64 l, .int .i64 c, .slice fa n cap], .agg #[.int .i64 12, .int .i64 a, .int .i64 b, .string s, .string t, .int .i64 iw.k, .int .i64 iw.n, .string iw.s]] w fun e w' => e = ret3 (takeD ⟨12, a, b, s, t, iw⟩) (leaveD ⟨12, a, b, s, t, iw⟩) (instrB (ctxOf x) l c n ⟨12, a, b, s, t, iw⟩) ∧ Below w.heap.size w w' := by
 have hb3 := hid (below_3 w (.cells #[.slice x.fa x.fs.length x.fcap, .slice x.ga x.gs.length x.gcap, .slice x.ra x.rs.length x.rcap, .slice x.ha x.hs.length x.hcap, .int .i64 lim] 29) (.cells #[.int .i64 p, .int .i64 l, .int .i64 c, .slice fa n cap] 63) (.cells #[.int .i64 12, .int .i64 a, .int .i64 b, .string s, .string t, .int .i64 iw.k, .int .i64 iw.n, .string iw.s] 89))
 have HT := hid (show takeD ⟨12, a, b, s, t, iw⟩ = (IntKind.i64.wrap (a + 1)) from by simp [takeD])
 have HL := hid (show leaveD ⟨12, a, b, s, t, iw⟩ = 1 from by simp [leaveD])
 have HR := hid (show instrB (ctxOf x) l c n ⟨12, a, b, s, t, iw⟩ = belB a 7 from by unfold instrB; simp)
 have HI := hid (in_bel (a := a) (m := 7) (by omega) (by omega))
 obtain ⟨w3, hw3⟩ : ∃ w3, w3 = (((w.alloc (.cells #[.slice x.fa x.fs.length x.fcap, .slice x.ga x.gs.length x.gcap, .slice x.ra x.rs.length x.rcap, .slice x.ha x.hs.length x.hcap, .int .i64 lim] 29)).alloc (.cells #[.int .i64 p, .int .i64 l, .int .i64 c, .slice fa n cap] 63)).alloc (.cells #[.int .i64 12, .int .i64 a, .int .i64 b, .string s, .string t, .int .i64 iw.k, .int .i64 iw.n, .string iw.s] 89)) := ⟨_, rfl⟩
 have HB3 := hid (show Below w.heap.size w w3 by rw [hw3]; exact hb3.out)
 have hz3 : w3.heap.size = w.heap.size + 3 := by rw [hw3]; simp
 have k0 : w3.cell? ⟨w.heap.size, 0, none⟩ = some (.slice x.fa x.fs.length x.fcap) ∧ w3.cell? ⟨w.heap.size, 1, none⟩ = some (.slice x.ga x.gs.length x.gcap) ∧ w3.cell? ⟨w.heap.size, 2, none⟩ = some (.slice x.ra x.rs.length x.rcap) ∧ w3.cell? ⟨w.heap.size, 3, none⟩ = some (.slice x.ha x.hs.length x.hcap) ∧ w3.cell? ⟨w.heap.size, 4, none⟩ = some (.int .i64 lim) ∧
   w3.cell? ⟨w.heap.size + 2, 1, none⟩ = some (.int .i64 a) ∧ w3.cell? ⟨w.heap.size + 2, 2, none⟩ = some (.int .i64 b) ∧ w3.cell? ⟨w.heap.size + 2, 3, none⟩ = some (.string s) := by
  rw [hw3]; refine ⟨?_, ?_, ?_, ?_, ?_, ?_, ?_, ?_⟩ <;> go_simp
 obtain ⟨k0, k1, k2, k3, k4, k5, k6, k7⟩ := k0
 have H3 := hid hw3
 have HS := hid hS
 have hrl : x.rs.length ≤ 9223372036854775807 := by have := hb.r; omega
 have hfl : x.fs.length ≤ 9223372036854775807 := by have := hb.f; omega
 clear hw3 hS hb _hi _hl _hc
 go_enter Tryz.func41, Tryz.ntmps41
 go_wp2_with fail
 rw [← H3.out]
 refine wp_region_invA (fun _ w' => Below w3.heap.size w3 w') (fun _ w' w'' => Below w'.heap.size w' w'') (fun i vv w' => match i with
  | 0 => vv = .pointer (some ⟨w.heap.size + 2, 1, none⟩)
  | 1 => vv = .int .i64 a
  | 2 => vv = .int .i64 (IntKind.i64.wrap (a + 1))
  | 3 => vv = .pointer (some ⟨w.heap.size + 2, 1, none⟩)
  | 4 => vv = .int .i64 a
  | 5 => vv = .bool (inB a 0 6)
  | 6 => vv = .int .i64 (IntKind.i64.wrap (a + 1))
  | 7 => vv = .int .i64 1
  | 8 => vv = .bool (inB a 0 6)
  | _ => True) (by kernel_rfl) (by kernel_rfl) (Below.refl _ _).drew ?hmono ⟨?o0, ?o1, ?o2, ?o3, ?o4, ?o5, ?o6, ?o7, ?o8, trivial⟩ ?hend
 case o0 =>
  intro dn a w' _ hS hF K hK
  have h5 := hF.out 5 (by kernel_rfl) rfl
  rw [if_pos (by kernel_rfl)]
  go_simp
  exact hK _ _ _ rfl hS (Below.refl _ _) rfl
 case o1 =>
  intro dn a w' _ hS hF K hK
  obtain ⟨v111, h111, rfl⟩ := hF.va 0 111
  have k0' := cx hS k0
  have k1' := cx hS k1
  have k2' := cx hS k2
  have k3' := cx hS k3
  have k4' := cx hS k4
  have k5' := cx hS k5
  have k6' := cx hS k6
  have k7' := cx hS k7
  rw [if_pos (by kernel_rfl)]
  go_simp
  exact hK _ _ _ rfl hS (Below.refl _ _) rfl
 case o2 =>
  intro dn a w' _ hS hF K hK
  obtain ⟨v112, h112, rfl⟩ := hF.va 1 112
  rw [if_pos (by kernel_rfl)]
  go_simp
  exact hK _ _ _ rfl hS (Below.refl _ _) rfl
 case o3 =>
  intro dn a w' _ hS hF K hK
  have h5 := hF.out 5 (by kernel_rfl) rfl
  rw [if_pos (by kernel_rfl)]
  go_simp
  exact hK _ _ _ rfl hS (Below.refl _ _) rfl
 case o4 =>
  intro dn a w' _ hS hF K hK
  obtain ⟨v114, h114, rfl⟩ := hF.va 3 114
  have k0' := cx hS k0
  have k1' := cx hS k1
  have k2' := cx hS k2
  have k3' := cx hS k3
  have k4' := cx hS k4
  have k5' := cx hS k5
  have k6' := cx hS k6
  have k7' := cx hS k7
  rw [if_pos (by kernel_rfl)]
  go_simp
  exact hK _ _ _ rfl hS (Below.refl _ _) rfl
 case o5 =>
  intro dn a w' _ hS hF K hK
  obtain ⟨v115, h115, rfl⟩ := hF.va 4 115
  rw [if_pos (by kernel_rfl)]
  go_simp
  refine (HH.In_any _ 0 6 w').mono ?_
  rintro e w'' ⟨rfl, rfl⟩
  exact hK _ _ _ rfl hS (Below.refl _ _) rfl
 case o6 =>
  intro dn a w' _ hS hF K hK
  obtain ⟨v113, h113, rfl⟩ := hF.va 2 113
  rw [if_pos (by kernel_rfl)]
  go_simp
  exact hK _ _ _ rfl hS (Below.refl _ _) rfl
 case o7 =>
  intro dn a w' _ hS hF K hK
  rw [if_pos (by kernel_rfl)]
  go_simp
  exact hK _ _ _ rfl hS (Below.refl _ _) rfl
 case o8 =>
  intro dn a w' _ hS hF K hK
  obtain ⟨v116, h116, rfl⟩ := hF.va 5 116
  rw [if_pos (by kernel_rfl)]
  go_simp
  exact hK _ _ _ rfl hS (Below.refl _ _) rfl
 case hmono =>
  intro i j v w1 w2 _ _ _ _ _ hv _
  exact hv
 case hend =>
  intro dn w5 vs hS hv
  have hvA : vs 6 = .int .i64 (IntKind.i64.wrap (a + 1)) := hv 6 (by decide)
  have hvB : vs 7 = .int .i64 1 := hv 7 (by decide)
  have hvC : vs 8 = .bool (inB a 0 6) := hv 8 (by decide)
  clear hv
  simp only [putsL, Nat.reduceAdd, Act.put, List.setIfInBounds_toArray, List.set_cons_zero, List.set_cons_succ, hvA, hvB, hvC]
  go_wp2
  refine bodyPost_ret (v := .tuple #[.int .i64 (IntKind.i64.wrap (a + 1)), .int .i64 1, .bool (inB a 0 6)]) (by simp [results, Tryz.results41, go_sem]) rfl ?_
  exact ⟨ret3_is HT.out.symm HL.out.symm (HI.out.trans HR.out.symm), HB3.out.trans (hS.mono HB3.out.size)⟩
set_option maxHeartbeats 2000000 in
theorem dinstr_13 (x : Wv) (lim : Int) (a b : Int) (s t : ByteArray) (iw : Wd) (p l c : Int) (fa : Option Addr) (n cap : Nat) (w : World) (hS : subW w (fun b => b < w.heap.size) x) (hb : bigW x) (_hi : wfIns ⟨13, a, b, s, t, iw⟩) (_hn : n ≤ 9223372036854775807) (_hl : 0 ≤ l ∧ l ≤ 40) (_hc : 0 ≤ c ∧ c ≤ 40) :
  Calls Tryz.prog 41 #[.agg #[.slice x.fa x.fs.length x.fcap, .slice x.ga x.gs.length x.gcap, .slice x.ra x.rs.length x.rcap, .slice x.ha x.hs.length x.hcap, .int .i64 lim], .agg #[.int .i64 p, .int .i64 l, .int .i64 c, .slice fa n cap], .agg #[.int .i64 13, .int .i64 a, .int .i64 b, .string s, .string t, .int .i64 iw.k, .int .i64 iw.n, .string iw.s]] w fun e w' => e = ret3 (takeD ⟨13, a, b, s, t, iw⟩) (leaveD ⟨13, a, b, s, t, iw⟩) (instrB (ctxOf x) l c n ⟨13, a, b, s, t, iw⟩) ∧ Below w.heap.size w w' := by
 have hb3 := hid (below_3 w (.cells #[.slice x.fa x.fs.length x.fcap, .slice x.ga x.gs.length x.gcap, .slice x.ra x.rs.length x.rcap, .slice x.ha x.hs.length x.hcap, .int .i64 lim] 29) (.cells #[.int .i64 p, .int .i64 l, .int .i64 c, .slice fa n cap] 63) (.cells #[.int .i64 13, .int .i64 a, .int .i64 b, .string s, .string t, .int .i64 iw.k, .int .i64 iw.n, .string iw.s] 89))
 have HT := hid (show takeD ⟨13, a, b, s, t, iw⟩ = (IntKind.i64.wrap (a + 1)) from by simp [takeD])
 have HL := hid (show leaveD ⟨13, a, b, s, t, iw⟩ = 1 from by simp [leaveD])
 have HR := hid (show instrB (ctxOf x) l c n ⟨13, a, b, s, t, iw⟩ = belB a 7 from by unfold instrB; simp)
 have HI := hid (in_bel (a := a) (m := 7) (by omega) (by omega))
 obtain ⟨w3, hw3⟩ : ∃ w3, w3 = (((w.alloc (.cells #[.slice x.fa x.fs.length x.fcap, .slice x.ga x.gs.length x.gcap, .slice x.ra x.rs.length x.rcap, .slice x.ha x.hs.length x.hcap, .int .i64 lim] 29)).alloc (.cells #[.int .i64 p, .int .i64 l, .int .i64 c, .slice fa n cap] 63)).alloc (.cells #[.int .i64 13, .int .i64 a, .int .i64 b, .string s, .string t, .int .i64 iw.k, .int .i64 iw.n, .string iw.s] 89)) := ⟨_, rfl⟩
 have HB3 := hid (show Below w.heap.size w w3 by rw [hw3]; exact hb3.out)
 have hz3 : w3.heap.size = w.heap.size + 3 := by rw [hw3]; simp
 have k0 : w3.cell? ⟨w.heap.size, 0, none⟩ = some (.slice x.fa x.fs.length x.fcap) ∧ w3.cell? ⟨w.heap.size, 1, none⟩ = some (.slice x.ga x.gs.length x.gcap) ∧ w3.cell? ⟨w.heap.size, 2, none⟩ = some (.slice x.ra x.rs.length x.rcap) ∧ w3.cell? ⟨w.heap.size, 3, none⟩ = some (.slice x.ha x.hs.length x.hcap) ∧ w3.cell? ⟨w.heap.size, 4, none⟩ = some (.int .i64 lim) ∧
   w3.cell? ⟨w.heap.size + 2, 1, none⟩ = some (.int .i64 a) ∧ w3.cell? ⟨w.heap.size + 2, 2, none⟩ = some (.int .i64 b) ∧ w3.cell? ⟨w.heap.size + 2, 3, none⟩ = some (.string s) := by
  rw [hw3]; refine ⟨?_, ?_, ?_, ?_, ?_, ?_, ?_, ?_⟩ <;> go_simp
 obtain ⟨k0, k1, k2, k3, k4, k5, k6, k7⟩ := k0
 have H3 := hid hw3
 have HS := hid hS
 have hrl : x.rs.length ≤ 9223372036854775807 := by have := hb.r; omega
 have hfl : x.fs.length ≤ 9223372036854775807 := by have := hb.f; omega
 clear hw3 hS hb _hi _hl _hc
 go_enter Tryz.func41, Tryz.ntmps41
 go_wp2_with fail
 rw [← H3.out]
 refine wp_region_invA (fun _ w' => Below w3.heap.size w3 w') (fun _ w' w'' => Below w'.heap.size w' w'') (fun i vv w' => match i with
  | 0 => vv = .pointer (some ⟨w.heap.size + 2, 1, none⟩)
  | 1 => vv = .int .i64 a
  | 2 => vv = .int .i64 (IntKind.i64.wrap (a + 1))
  | 3 => vv = .pointer (some ⟨w.heap.size + 2, 1, none⟩)
  | 4 => vv = .int .i64 a
  | 5 => vv = .bool (inB a 0 6)
  | 6 => vv = .int .i64 (IntKind.i64.wrap (a + 1))
  | 7 => vv = .int .i64 1
  | 8 => vv = .bool (inB a 0 6)
  | _ => True) (by kernel_rfl) (by kernel_rfl) (Below.refl _ _).drew ?hmono ⟨?o0, ?o1, ?o2, ?o3, ?o4, ?o5, ?o6, ?o7, ?o8, trivial⟩ ?hend
 case o0 =>
  intro dn a w' _ hS hF K hK
  have h5 := hF.out 5 (by kernel_rfl) rfl
  rw [if_pos (by kernel_rfl)]
  go_simp
  exact hK _ _ _ rfl hS (Below.refl _ _) rfl
 case o1 =>
  intro dn a w' _ hS hF K hK
  obtain ⟨v111, h111, rfl⟩ := hF.va 0 111
  have k0' := cx hS k0
  have k1' := cx hS k1
  have k2' := cx hS k2
  have k3' := cx hS k3
  have k4' := cx hS k4
  have k5' := cx hS k5
  have k6' := cx hS k6
  have k7' := cx hS k7
  rw [if_pos (by kernel_rfl)]
  go_simp
  exact hK _ _ _ rfl hS (Below.refl _ _) rfl
 case o2 =>
  intro dn a w' _ hS hF K hK
  obtain ⟨v112, h112, rfl⟩ := hF.va 1 112
  rw [if_pos (by kernel_rfl)]
  go_simp
  exact hK _ _ _ rfl hS (Below.refl _ _) rfl
 case o3 =>
  intro dn a w' _ hS hF K hK
  have h5 := hF.out 5 (by kernel_rfl) rfl
  rw [if_pos (by kernel_rfl)]
  go_simp
  exact hK _ _ _ rfl hS (Below.refl _ _) rfl
 case o4 =>
  intro dn a w' _ hS hF K hK
  obtain ⟨v114, h114, rfl⟩ := hF.va 3 114
  have k0' := cx hS k0
  have k1' := cx hS k1
  have k2' := cx hS k2
  have k3' := cx hS k3
  have k4' := cx hS k4
  have k5' := cx hS k5
  have k6' := cx hS k6
  have k7' := cx hS k7
  rw [if_pos (by kernel_rfl)]
  go_simp
  exact hK _ _ _ rfl hS (Below.refl _ _) rfl
 case o5 =>
  intro dn a w' _ hS hF K hK
  obtain ⟨v115, h115, rfl⟩ := hF.va 4 115
  rw [if_pos (by kernel_rfl)]
  go_simp
  refine (HH.In_any _ 0 6 w').mono ?_
  rintro e w'' ⟨rfl, rfl⟩
  exact hK _ _ _ rfl hS (Below.refl _ _) rfl
 case o6 =>
  intro dn a w' _ hS hF K hK
  obtain ⟨v113, h113, rfl⟩ := hF.va 2 113
  rw [if_pos (by kernel_rfl)]
  go_simp
  exact hK _ _ _ rfl hS (Below.refl _ _) rfl
 case o7 =>
  intro dn a w' _ hS hF K hK
  rw [if_pos (by kernel_rfl)]
  go_simp
  exact hK _ _ _ rfl hS (Below.refl _ _) rfl
 case o8 =>
  intro dn a w' _ hS hF K hK
  obtain ⟨v116, h116, rfl⟩ := hF.va 5 116
  rw [if_pos (by kernel_rfl)]
  go_simp
  exact hK _ _ _ rfl hS (Below.refl _ _) rfl
 case hmono =>
  intro i j v w1 w2 _ _ _ _ _ hv _
  exact hv
 case hend =>
  intro dn w5 vs hS hv
  have hvA : vs 6 = .int .i64 (IntKind.i64.wrap (a + 1)) := hv 6 (by decide)
  have hvB : vs 7 = .int .i64 1 := hv 7 (by decide)
  have hvC : vs 8 = .bool (inB a 0 6) := hv 8 (by decide)
  clear hv
  simp only [putsL, Nat.reduceAdd, Act.put, List.setIfInBounds_toArray, List.set_cons_zero, List.set_cons_succ, hvA, hvB, hvC]
  go_wp2
  refine bodyPost_ret (v := .tuple #[.int .i64 (IntKind.i64.wrap (a + 1)), .int .i64 1, .bool (inB a 0 6)]) (by simp [results, Tryz.results41, go_sem]) rfl ?_
  exact ⟨ret3_is HT.out.symm HL.out.symm (HI.out.trans HR.out.symm), HB3.out.trans (hS.mono HB3.out.size)⟩
set_option maxHeartbeats 2000000 in
theorem dinstr_14 (x : Wv) (lim : Int) (a b : Int) (s t : ByteArray) (iw : Wd) (p l c : Int) (fa : Option Addr) (n cap : Nat) (w : World) (_hS : subW w (fun b => b < w.heap.size) x) (_hb : bigW x) (_hi : wfIns ⟨14, a, b, s, t, iw⟩) (_hn : n ≤ 9223372036854775807) (_hl : 0 ≤ l ∧ l ≤ 40) (_hc : 0 ≤ c ∧ c ≤ 40) :
  Calls Tryz.prog 41 #[.agg #[.slice x.fa x.fs.length x.fcap, .slice x.ga x.gs.length x.gcap, .slice x.ra x.rs.length x.rcap, .slice x.ha x.hs.length x.hcap, .int .i64 lim], .agg #[.int .i64 p, .int .i64 l, .int .i64 c, .slice fa n cap], .agg #[.int .i64 14, .int .i64 a, .int .i64 b, .string s, .string t, .int .i64 iw.k, .int .i64 iw.n, .string iw.s]] w fun e w' => e = ret3 (takeD ⟨14, a, b, s, t, iw⟩) (leaveD ⟨14, a, b, s, t, iw⟩) (instrB (ctxOf x) l c n ⟨14, a, b, s, t, iw⟩) ∧ Below w.heap.size w w' := by
 have hb3 := hid (below_3 w (.cells #[.slice x.fa x.fs.length x.fcap, .slice x.ga x.gs.length x.gcap, .slice x.ra x.rs.length x.rcap, .slice x.ha x.hs.length x.hcap, .int .i64 lim] 29) (.cells #[.int .i64 p, .int .i64 l, .int .i64 c, .slice fa n cap] 63) (.cells #[.int .i64 14, .int .i64 a, .int .i64 b, .string s, .string t, .int .i64 iw.k, .int .i64 iw.n, .string iw.s] 89))
 have HT := hid (show takeD ⟨14, a, b, s, t, iw⟩ = 1 from by simp [takeD])
 have HL := hid (show leaveD ⟨14, a, b, s, t, iw⟩ = 0 from by simp [leaveD])
 have HR := hid (show instrB (ctxOf x) l c n ⟨14, a, b, s, t, iw⟩ = true from by unfold instrB; simp)
 clear _hS _hb _hi _hl _hc
 go_enter Tryz.func41, Tryz.ntmps41
 go_wp2
 refine bodyPost_ret (v := .tuple #[.int .i64 1, .int .i64 0, .bool true]) (by simp [results, Tryz.results41, go_sem]) rfl ?_
 exact ⟨ret3_is HT.out.symm HL.out.symm HR.out.symm, hb3.out⟩
set_option maxHeartbeats 2000000 in
theorem dinstr_15 (x : Wv) (lim : Int) (a b : Int) (s t : ByteArray) (iw : Wd) (p l c : Int) (fa : Option Addr) (n cap : Nat) (w : World) (_hS : subW w (fun b => b < w.heap.size) x) (_hb : bigW x) (_hi : wfIns ⟨15, a, b, s, t, iw⟩) (hn : n ≤ 9223372036854775807) (hl : 0 ≤ l ∧ l ≤ 40) (hc : 0 ≤ c ∧ c ≤ 40) :
  Calls Tryz.prog 41 #[.agg #[.slice x.fa x.fs.length x.fcap, .slice x.ga x.gs.length x.gcap, .slice x.ra x.rs.length x.rcap, .slice x.ha x.hs.length x.hcap, .int .i64 lim], .agg #[.int .i64 p, .int .i64 l, .int .i64 c, .slice fa n cap], .agg #[.int .i64 15, .int .i64 a, .int .i64 b, .string s, .string t, .int .i64 iw.k, .int .i64 iw.n, .string iw.s]] w fun e w' => e = ret3 (takeD ⟨15, a, b, s, t, iw⟩) (leaveD ⟨15, a, b, s, t, iw⟩) (instrB (ctxOf x) l c n ⟨15, a, b, s, t, iw⟩) ∧ Below w.heap.size w w' := by
 have hb3 := hid (below_3 w (.cells #[.slice x.fa x.fs.length x.fcap, .slice x.ga x.gs.length x.gcap, .slice x.ra x.rs.length x.rcap, .slice x.ha x.hs.length x.hcap, .int .i64 lim] 29) (.cells #[.int .i64 p, .int .i64 l, .int .i64 c, .slice fa n cap] 63) (.cells #[.int .i64 15, .int .i64 a, .int .i64 b, .string s, .string t, .int .i64 iw.k, .int .i64 iw.n, .string iw.s] 89))
 have HT := hid (show takeD ⟨15, a, b, s, t, iw⟩ = 0 from by simp [takeD])
 have HL := hid (show leaveD ⟨15, a, b, s, t, iw⟩ = 0 from by simp [leaveD])
 have HR := hid (show instrB (ctxOf x) l c n ⟨15, a, b, s, t, iw⟩ = belB a (n : Int) from by unfold instrB; simp)
 have HI := hid (in_bel (a := a) (m := (n : Int)) (by omega) (by omega))
 obtain ⟨hl1, hl2⟩ := hl
 obtain ⟨hc1, hc2⟩ := hc
 clear _hS _hb _hi
 go_enter Tryz.func41, Tryz.ntmps41
 go_wp2_with fail
 go_fit (HH.In_any a 0 _ _)
 rintro e w2 ⟨rfl, rfl⟩
 go_wp2_with fail
 refine bodyPost_ret (v := .tuple #[.int .i64 0, .int .i64 0, .bool (inB a 0 ((n : Int) - 1))]) (by simp [results, Tryz.results41, go_sem]) rfl ?_
 exact ⟨ret3_is HT.out.symm HL.out.symm (HI.out.trans HR.out.symm), hb3.out⟩
set_option maxHeartbeats 2000000 in
theorem dinstr_16 (x : Wv) (lim : Int) (a b : Int) (s t : ByteArray) (iw : Wd) (p l c : Int) (fa : Option Addr) (n cap : Nat) (w : World) (_hS : subW w (fun b => b < w.heap.size) x) (_hb : bigW x) (_hi : wfIns ⟨16, a, b, s, t, iw⟩) (hn : n ≤ 9223372036854775807) (hl : 0 ≤ l ∧ l ≤ 40) (hc : 0 ≤ c ∧ c ≤ 40) :
  Calls Tryz.prog 41 #[.agg #[.slice x.fa x.fs.length x.fcap, .slice x.ga x.gs.length x.gcap, .slice x.ra x.rs.length x.rcap, .slice x.ha x.hs.length x.hcap, .int .i64 lim], .agg #[.int .i64 p, .int .i64 l, .int .i64 c, .slice fa n cap], .agg #[.int .i64 16, .int .i64 a, .int .i64 b, .string s, .string t, .int .i64 iw.k, .int .i64 iw.n, .string iw.s]] w fun e w' => e = ret3 (takeD ⟨16, a, b, s, t, iw⟩) (leaveD ⟨16, a, b, s, t, iw⟩) (instrB (ctxOf x) l c n ⟨16, a, b, s, t, iw⟩) ∧ Below w.heap.size w w' := by
 have hb3 := hid (below_3 w (.cells #[.slice x.fa x.fs.length x.fcap, .slice x.ga x.gs.length x.gcap, .slice x.ra x.rs.length x.rcap, .slice x.ha x.hs.length x.hcap, .int .i64 lim] 29) (.cells #[.int .i64 p, .int .i64 l, .int .i64 c, .slice fa n cap] 63) (.cells #[.int .i64 16, .int .i64 a, .int .i64 b, .string s, .string t, .int .i64 iw.k, .int .i64 iw.n, .string iw.s] 89))
 have HT := hid (show takeD ⟨16, a, b, s, t, iw⟩ = 1 from by simp [takeD])
 have HL := hid (show leaveD ⟨16, a, b, s, t, iw⟩ = 0 from by simp [leaveD])
 have HR := hid (show instrB (ctxOf x) l c n ⟨16, a, b, s, t, iw⟩ = belB a (n : Int) from by unfold instrB; simp)
 have HI := hid (in_bel (a := a) (m := (n : Int)) (by omega) (by omega))
 obtain ⟨hl1, hl2⟩ := hl
 obtain ⟨hc1, hc2⟩ := hc
 clear _hS _hb _hi
 go_enter Tryz.func41, Tryz.ntmps41
 go_wp2_with fail
 go_fit (HH.In_any a 0 _ _)
 rintro e w2 ⟨rfl, rfl⟩
 go_wp2_with fail
 refine bodyPost_ret (v := .tuple #[.int .i64 1, .int .i64 0, .bool (inB a 0 ((n : Int) - 1))]) (by simp [results, Tryz.results41, go_sem]) rfl ?_
 exact ⟨ret3_is HT.out.symm HL.out.symm (HI.out.trans HR.out.symm), hb3.out⟩
set_option maxHeartbeats 2000000 in
theorem dinstr_17 (x : Wv) (lim : Int) (a b : Int) (s t : ByteArray) (iw : Wd) (p l c : Int) (fa : Option Addr) (n cap : Nat) (w : World) (_hS : subW w (fun b => b < w.heap.size) x) (_hb : bigW x) (_hi : wfIns ⟨17, a, b, s, t, iw⟩) (_hn : n ≤ 9223372036854775807) (_hl : 0 ≤ l ∧ l ≤ 40) (_hc : 0 ≤ c ∧ c ≤ 40) :
  Calls Tryz.prog 41 #[.agg #[.slice x.fa x.fs.length x.fcap, .slice x.ga x.gs.length x.gcap, .slice x.ra x.rs.length x.rcap, .slice x.ha x.hs.length x.hcap, .int .i64 lim], .agg #[.int .i64 p, .int .i64 l, .int .i64 c, .slice fa n cap], .agg #[.int .i64 17, .int .i64 a, .int .i64 b, .string s, .string t, .int .i64 iw.k, .int .i64 iw.n, .string iw.s]] w fun e w' => e = ret3 (takeD ⟨17, a, b, s, t, iw⟩) (leaveD ⟨17, a, b, s, t, iw⟩) (instrB (ctxOf x) l c n ⟨17, a, b, s, t, iw⟩) ∧ Below w.heap.size w w' := by
 have hb3 := hid (below_3 w (.cells #[.slice x.fa x.fs.length x.fcap, .slice x.ga x.gs.length x.gcap, .slice x.ra x.rs.length x.rcap, .slice x.ha x.hs.length x.hcap, .int .i64 lim] 29) (.cells #[.int .i64 p, .int .i64 l, .int .i64 c, .slice fa n cap] 63) (.cells #[.int .i64 17, .int .i64 a, .int .i64 b, .string s, .string t, .int .i64 iw.k, .int .i64 iw.n, .string iw.s] 89))
 have HT := hid (show takeD ⟨17, a, b, s, t, iw⟩ = 1 from by simp [takeD])
 have HL := hid (show leaveD ⟨17, a, b, s, t, iw⟩ = 0 from by simp [leaveD])
 have HR := hid (show instrB (ctxOf x) l c n ⟨17, a, b, s, t, iw⟩ = true from by unfold instrB; simp)
 clear _hS _hb _hi _hl _hc
 go_enter Tryz.func41, Tryz.ntmps41
 go_wp2
 refine bodyPost_ret (v := .tuple #[.int .i64 1, .int .i64 0, .bool true]) (by simp [results, Tryz.results41, go_sem]) rfl ?_
 exact ⟨ret3_is HT.out.symm HL.out.symm HR.out.symm, hb3.out⟩
set_option maxHeartbeats 2000000 in
theorem dinstr_18 (x : Wv) (lim : Int) (a b : Int) (s t : ByteArray) (iw : Wd) (p l c : Int) (fa : Option Addr) (n cap : Nat) (w : World) (hS : subW w (fun b => b < w.heap.size) x) (hb : bigW x) (_hi : wfIns ⟨18, a, b, s, t, iw⟩) (_hn : n ≤ 9223372036854775807) (_hl : 0 ≤ l ∧ l ≤ 40) (_hc : 0 ≤ c ∧ c ≤ 40) :
  Calls Tryz.prog 41 #[.agg #[.slice x.fa x.fs.length x.fcap, .slice x.ga x.gs.length x.gcap, .slice x.ra x.rs.length x.rcap, .slice x.ha x.hs.length x.hcap, .int .i64 lim], .agg #[.int .i64 p, .int .i64 l, .int .i64 c, .slice fa n cap], .agg #[.int .i64 18, .int .i64 a, .int .i64 b, .string s, .string t, .int .i64 iw.k, .int .i64 iw.n, .string iw.s]] w fun e w' => e = ret3 (takeD ⟨18, a, b, s, t, iw⟩) (leaveD ⟨18, a, b, s, t, iw⟩) (instrB (ctxOf x) l c n ⟨18, a, b, s, t, iw⟩) ∧ Below w.heap.size w w' := by
 have hb3 := hid (below_3 w (.cells #[.slice x.fa x.fs.length x.fcap, .slice x.ga x.gs.length x.gcap, .slice x.ra x.rs.length x.rcap, .slice x.ha x.hs.length x.hcap, .int .i64 lim] 29) (.cells #[.int .i64 p, .int .i64 l, .int .i64 c, .slice fa n cap] 63) (.cells #[.int .i64 18, .int .i64 a, .int .i64 b, .string s, .string t, .int .i64 iw.k, .int .i64 iw.n, .string iw.s] 89))
 have HT := hid (show takeD ⟨18, a, b, s, t, iw⟩ = a from by simp [takeD])
 have HL := hid (show leaveD ⟨18, a, b, s, t, iw⟩ = 1 from by simp [leaveD])
 by_cases he : primI s.data.toList = a
 ·
  have HR := hid (show instrB (ctxOf x) l c n ⟨18, a, b, s, t, iw⟩ = decide (0 < a) from by rw [prim_instr]; simp [he])
  have heq : (primI s.data.toList == a) = true := by simp [he]
  clear he
  obtain ⟨w3, hw3⟩ : ∃ w3, w3 = (((w.alloc (.cells #[.slice x.fa x.fs.length x.fcap, .slice x.ga x.gs.length x.gcap, .slice x.ra x.rs.length x.rcap, .slice x.ha x.hs.length x.hcap, .int .i64 lim] 29)).alloc (.cells #[.int .i64 p, .int .i64 l, .int .i64 c, .slice fa n cap] 63)).alloc (.cells #[.int .i64 18, .int .i64 a, .int .i64 b, .string s, .string t, .int .i64 iw.k, .int .i64 iw.n, .string iw.s] 89)) := ⟨_, rfl⟩
  have HB3 := hid (show Below w.heap.size w w3 by rw [hw3]; exact hb3.out)
  have hz3 : w3.heap.size = w.heap.size + 3 := by rw [hw3]; simp
  have k0 : w3.cell? ⟨w.heap.size, 0, none⟩ = some (.slice x.fa x.fs.length x.fcap) ∧ w3.cell? ⟨w.heap.size, 1, none⟩ = some (.slice x.ga x.gs.length x.gcap) ∧ w3.cell? ⟨w.heap.size, 2, none⟩ = some (.slice x.ra x.rs.length x.rcap) ∧ w3.cell? ⟨w.heap.size, 3, none⟩ = some (.slice x.ha x.hs.length x.hcap) ∧ w3.cell? ⟨w.heap.size, 4, none⟩ = some (.int .i64 lim) ∧
    w3.cell? ⟨w.heap.size + 2, 1, none⟩ = some (.int .i64 a) ∧ w3.cell? ⟨w.heap.size + 2, 2, none⟩ = some (.int .i64 b) ∧ w3.cell? ⟨w.heap.size + 2, 3, none⟩ = some (.string s) := by
   rw [hw3]; refine ⟨?_, ?_, ?_, ?_, ?_, ?_, ?_, ?_⟩ <;> go_simp
  obtain ⟨k0, k1, k2, k3, k4, k5, k6, k7⟩ := k0
  have H3 := hid hw3
  have HS := hid hS
  have hrl : x.rs.length ≤ 9223372036854775807 := by have := hb.r; omega
  have hfl : x.fs.length ≤ 9223372036854775807 := by have := hb.f; omega
  clear hw3 hS hb _hi _hl _hc
  go_enter Tryz.func41, Tryz.ntmps41
  go_wp2_with fail
  rw [← H3.out]
  refine wp_region_invA (fun _ w' => Below w3.heap.size w3 w') (fun _ w' w'' => Below w'.heap.size w' w'') (fun i vv w' => match i with
   | 0 => vv = .pointer (some ⟨w.heap.size + 2, 1, none⟩)
   | 1 => vv = .int .i64 a
   | 2 => vv = .pointer (some ⟨w.heap.size + 2, 3, none⟩)
   | 3 => vv = .string s
   | 4 => vv = .int .i64 (primI s.data.toList)
   | 5 => vv = .pointer (some ⟨w.heap.size + 2, 1, none⟩)
   | 6 => vv = .int .i64 a
   | 7 => vv = .bool true
   | 8 => vv = .bool true
   | 9 => vv = .pointer (some ⟨w.heap.size + 2, 1, none⟩)
   | 10 => vv = .int .i64 a
   | 11 => vv = .bool (decide (0 < a))
   | 12 => vv = .bool (decide (0 < a))
   | 13 => vv = .int .i64 a
   | 14 => vv = .int .i64 1
   | 15 => vv = .bool (decide (0 < a))
   | _ => True) (by kernel_rfl) (by kernel_rfl) (Below.refl _ _).drew ?hmono ⟨?o0, ?o1, ?o2, ?o3, ?o4, ?o5, ?o6, ?o7, ?o8, ?o9, ?o10, ?o11, ?o12, ?o13, ?o14, ?o15, trivial⟩ ?hend
  case o0 =>
   intro dn a w' _ hS hF K hK
   have h5 := hF.out 5 (by kernel_rfl) rfl
   rw [if_pos (by kernel_rfl)]
   go_simp
   exact hK _ _ _ rfl hS (Below.refl _ _) rfl
  case o1 =>
   intro dn a w' _ hS hF K hK
   obtain ⟨v122, h122, rfl⟩ := hF.va 0 122
   have k0' := cx hS k0
   have k1' := cx hS k1
   have k2' := cx hS k2
   have k3' := cx hS k3
   have k4' := cx hS k4
   have k5' := cx hS k5
   have k6' := cx hS k6
   have k7' := cx hS k7
   rw [if_pos (by kernel_rfl)]
   go_simp
   exact hK _ _ _ rfl hS (Below.refl _ _) rfl
  case o2 =>
   intro dn a w' _ hS hF K hK
   have h5 := hF.out 5 (by kernel_rfl) rfl
   rw [if_pos (by kernel_rfl)]
   go_simp
   exact hK _ _ _ rfl hS (Below.refl _ _) rfl
  case o3 =>
   intro dn a w' _ hS hF K hK
   obtain ⟨v124, h124, rfl⟩ := hF.va 2 124
   have k0' := cx hS k0
   have k1' := cx hS k1
   have k2' := cx hS k2
   have k3' := cx hS k3
   have k4' := cx hS k4
   have k5' := cx hS k5
   have k6' := cx hS k6
   have k7' := cx hS k7
   rw [if_pos (by kernel_rfl)]
   go_simp
   exact hK _ _ _ rfl hS (Below.refl _ _) rfl
  case o4 =>
   intro dn a w' _ hS hF K hK
   obtain ⟨v125, h125, rfl⟩ := hF.va 3 125
   rw [if_pos (by kernel_rfl)]
   go_simp
   refine (primArgs_any s w').mono ?_
   rintro e w'' ⟨rfl, nd, rfl⟩
   exact hK _ _ _ rfl (bdrew hS nd) (bdrew (Below.refl _ _) nd) rfl
  case o5 =>
   intro dn a w' _ hS hF K hK
   have h5 := hF.out 5 (by kernel_rfl) rfl
   rw [if_pos (by kernel_rfl)]
   go_simp
   exact hK _ _ _ rfl hS (Below.refl _ _) rfl
  case o6 =>
   intro dn a w' _ hS hF K hK
   obtain ⟨v127, h127, rfl⟩ := hF.va 5 127
   have k0' := cx hS k0
   have k1' := cx hS k1
   have k2' := cx hS k2
   have k3' := cx hS k3
   have k4' := cx hS k4
   have k5' := cx hS k5
   have k6' := cx hS k6
   have k7' := cx hS k7
   rw [if_pos (by kernel_rfl)]
   go_simp
   exact hK _ _ _ rfl hS (Below.refl _ _) rfl
  case o7 =>
   intro dn a w' _ hS hF K hK
   obtain ⟨v126, h126, rfl⟩ := hF.va 4 126
   obtain ⟨v128, h128, rfl⟩ := hF.va 6 128
   rw [if_pos (by kernel_rfl)]
   go_simp
   exact hK _ _ _ rfl hS (Below.refl _ _) rfl
  case o8 =>
   intro dn a w' _ hS hF K hK
   obtain ⟨v129, h129, rfl⟩ := hF.va 7 129
   rw [if_pos (by kernel_rfl)]
   go_simp
   exact hK _ _ _ rfl hS (Below.refl _ _) rfl
  case o9 =>
   intro dn a w' _ hS hF K hK
   have h5 := hF.out 5 (by kernel_rfl) rfl
   obtain ⟨v130, h130, rfl⟩ := hF.va 8 130
   rw [if_pos (wanted_yes 8 rfl (by kernel_rfl) h130)]
   go_simp
   exact hK _ _ _ rfl hS (Below.refl _ _) rfl
  case o10 =>
   intro dn a w' _ hS hF K hK
   obtain ⟨v131, h131, rfl⟩ := hF.va 9 131
   obtain ⟨v130, h130, rfl⟩ := hF.va 8 130
   have k0' := cx hS k0
   have k1' := cx hS k1
   have k2' := cx hS k2
   have k3' := cx hS k3
   have k4' := cx hS k4
   have k5' := cx hS k5
   have k6' := cx hS k6
   have k7' := cx hS k7
   rw [if_pos (wanted_yes 8 rfl (by kernel_rfl) h130)]
   go_simp
   exact hK _ _ _ rfl hS (Below.refl _ _) rfl
  case o11 =>
   intro dn a w' _ hS hF K hK
   obtain ⟨v132, h132, rfl⟩ := hF.va 10 132
   obtain ⟨v130, h130, rfl⟩ := hF.va 8 130
   rw [if_pos (wanted_yes 8 rfl (by kernel_rfl) h130)]
   go_simp
   exact hK _ _ _ rfl hS (Below.refl _ _) rfl
  case o12 =>
   intro dn a w' _ hS hF K hK
   obtain ⟨v130, h130, rfl⟩ := hF.va 8 130
   obtain ⟨v133, h133, rfl⟩ := hF.va 11 133
   rw [if_pos (by kernel_rfl)]
   go_simp
   exact hK _ _ _ rfl hS (Below.refl _ _) rfl
  case o13 =>
   intro dn a w' _ hS hF K hK
   obtain ⟨v123, h123, rfl⟩ := hF.va 1 123
   rw [if_pos (by kernel_rfl)]
   go_simp
   exact hK _ _ _ rfl hS (Below.refl _ _) rfl
  case o14 =>
   intro dn a w' _ hS hF K hK
   rw [if_pos (by kernel_rfl)]
   go_simp
   exact hK _ _ _ rfl hS (Below.refl _ _) rfl
  case o15 =>
   intro dn a w' _ hS hF K hK
   obtain ⟨v134, h134, rfl⟩ := hF.va 12 134
   rw [if_pos (by kernel_rfl)]
   go_simp
   exact hK _ _ _ rfl hS (Below.refl _ _) rfl
  case hmono =>
   intro i j v w1 w2 _ _ _ _ _ hv _
   exact hv
  case hend =>
   intro dn w5 vs hS hv
   have hvA : vs 13 = .int .i64 a := hv 13 (by decide)
   have hvB : vs 14 = .int .i64 1 := hv 14 (by decide)
   have hvC : vs 15 = .bool (decide (0 < a)) := hv 15 (by decide)
   clear hv
   simp only [putsL, Nat.reduceAdd, Act.put, List.setIfInBounds_toArray, List.set_cons_zero, List.set_cons_succ, hvA, hvB, hvC]
   go_wp2
   refine bodyPost_ret (v := .tuple #[.int .i64 a, .int .i64 1, .bool (decide (0 < a))]) (by simp [results, Tryz.results41, go_sem]) rfl ?_
   exact ⟨ret3_is HT.out.symm HL.out.symm HR.out.symm, HB3.out.trans (hS.mono HB3.out.size)⟩
 ·
  have HR := hid (show instrB (ctxOf x) l c n ⟨18, a, b, s, t, iw⟩ = false from by rw [prim_instr]; simp [he])
  have heq : (primI s.data.toList == a) = false := by simp [he]
  clear he
  obtain ⟨w3, hw3⟩ : ∃ w3, w3 = (((w.alloc (.cells #[.slice x.fa x.fs.length x.fcap, .slice x.ga x.gs.length x.gcap, .slice x.ra x.rs.length x.rcap, .slice x.ha x.hs.length x.hcap, .int .i64 lim] 29)).alloc (.cells #[.int .i64 p, .int .i64 l, .int .i64 c, .slice fa n cap] 63)).alloc (.cells #[.int .i64 18, .int .i64 a, .int .i64 b, .string s, .string t, .int .i64 iw.k, .int .i64 iw.n, .string iw.s] 89)) := ⟨_, rfl⟩
  have HB3 := hid (show Below w.heap.size w w3 by rw [hw3]; exact hb3.out)
  have hz3 : w3.heap.size = w.heap.size + 3 := by rw [hw3]; simp
  have k0 : w3.cell? ⟨w.heap.size, 0, none⟩ = some (.slice x.fa x.fs.length x.fcap) ∧ w3.cell? ⟨w.heap.size, 1, none⟩ = some (.slice x.ga x.gs.length x.gcap) ∧ w3.cell? ⟨w.heap.size, 2, none⟩ = some (.slice x.ra x.rs.length x.rcap) ∧ w3.cell? ⟨w.heap.size, 3, none⟩ = some (.slice x.ha x.hs.length x.hcap) ∧ w3.cell? ⟨w.heap.size, 4, none⟩ = some (.int .i64 lim) ∧
    w3.cell? ⟨w.heap.size + 2, 1, none⟩ = some (.int .i64 a) ∧ w3.cell? ⟨w.heap.size + 2, 2, none⟩ = some (.int .i64 b) ∧ w3.cell? ⟨w.heap.size + 2, 3, none⟩ = some (.string s) := by
   rw [hw3]; refine ⟨?_, ?_, ?_, ?_, ?_, ?_, ?_, ?_⟩ <;> go_simp
  obtain ⟨k0, k1, k2, k3, k4, k5, k6, k7⟩ := k0
  have H3 := hid hw3
  have HS := hid hS
  have hrl : x.rs.length ≤ 9223372036854775807 := by have := hb.r; omega
  have hfl : x.fs.length ≤ 9223372036854775807 := by have := hb.f; omega
  clear hw3 hS hb _hi _hl _hc
  go_enter Tryz.func41, Tryz.ntmps41
  go_wp2_with fail
  rw [← H3.out]
  refine wp_region_invA (fun _ w' => Below w3.heap.size w3 w') (fun _ w' w'' => Below w'.heap.size w' w'') (fun i vv w' => match i with
   | 0 => vv = .pointer (some ⟨w.heap.size + 2, 1, none⟩)
   | 1 => vv = .int .i64 a
   | 2 => vv = .pointer (some ⟨w.heap.size + 2, 3, none⟩)
   | 3 => vv = .string s
   | 4 => vv = .int .i64 (primI s.data.toList)
   | 5 => vv = .pointer (some ⟨w.heap.size + 2, 1, none⟩)
   | 6 => vv = .int .i64 a
   | 7 => vv = .bool false
   | 8 => vv = .bool false
   | 9 => vv = undef
   | 10 => vv = undef
   | 11 => vv = undef
   | 12 => vv = .bool false
   | 13 => vv = .int .i64 a
   | 14 => vv = .int .i64 1
   | 15 => vv = .bool false
   | _ => True) (by kernel_rfl) (by kernel_rfl) (Below.refl _ _).drew ?hmono ⟨?o0, ?o1, ?o2, ?o3, ?o4, ?o5, ?o6, ?o7, ?o8, ?o9, ?o10, ?o11, ?o12, ?o13, ?o14, ?o15, trivial⟩ ?hend
  case o0 =>
   intro dn a w' _ hS hF K hK
   have h5 := hF.out 5 (by kernel_rfl) rfl
   rw [if_pos (by kernel_rfl)]
   go_simp
   exact hK _ _ _ rfl hS (Below.refl _ _) rfl
  case o1 =>
   intro dn a w' _ hS hF K hK
   obtain ⟨v122, h122, rfl⟩ := hF.va 0 122
   have k0' := cx hS k0
   have k1' := cx hS k1
   have k2' := cx hS k2
   have k3' := cx hS k3
   have k4' := cx hS k4
   have k5' := cx hS k5
   have k6' := cx hS k6
   have k7' := cx hS k7
   rw [if_pos (by kernel_rfl)]
   go_simp
   exact hK _ _ _ rfl hS (Below.refl _ _) rfl
  case o2 =>
   intro dn a w' _ hS hF K hK
   have h5 := hF.out 5 (by kernel_rfl) rfl
   rw [if_pos (by kernel_rfl)]
   go_simp
   exact hK _ _ _ rfl hS (Below.refl _ _) rfl
  case o3 =>
   intro dn a w' _ hS hF K hK
   obtain ⟨v124, h124, rfl⟩ := hF.va 2 124
   have k0' := cx hS k0
   have k1' := cx hS k1
   have k2' := cx hS k2
   have k3' := cx hS k3
   have k4' := cx hS k4
   have k5' := cx hS k5
   have k6' := cx hS k6
   have k7' := cx hS k7
   rw [if_pos (by kernel_rfl)]
   go_simp
   exact hK _ _ _ rfl hS (Below.refl _ _) rfl
  case o4 =>
   intro dn a w' _ hS hF K hK
   obtain ⟨v125, h125, rfl⟩ := hF.va 3 125
   rw [if_pos (by kernel_rfl)]
   go_simp
   refine (primArgs_any s w').mono ?_
   rintro e w'' ⟨rfl, nd, rfl⟩
   exact hK _ _ _ rfl (bdrew hS nd) (bdrew (Below.refl _ _) nd) rfl
  case o5 =>
   intro dn a w' _ hS hF K hK
   have h5 := hF.out 5 (by kernel_rfl) rfl
   rw [if_pos (by kernel_rfl)]
   go_simp
   exact hK _ _ _ rfl hS (Below.refl _ _) rfl
  case o6 =>
   intro dn a w' _ hS hF K hK
   obtain ⟨v127, h127, rfl⟩ := hF.va 5 127
   have k0' := cx hS k0
   have k1' := cx hS k1
   have k2' := cx hS k2
   have k3' := cx hS k3
   have k4' := cx hS k4
   have k5' := cx hS k5
   have k6' := cx hS k6
   have k7' := cx hS k7
   rw [if_pos (by kernel_rfl)]
   go_simp
   exact hK _ _ _ rfl hS (Below.refl _ _) rfl
  case o7 =>
   intro dn a w' _ hS hF K hK
   obtain ⟨v126, h126, rfl⟩ := hF.va 4 126
   obtain ⟨v128, h128, rfl⟩ := hF.va 6 128
   rw [if_pos (by kernel_rfl)]
   go_simp
   exact hK _ _ _ rfl hS (Below.refl _ _) rfl
  case o8 =>
   intro dn a w' _ hS hF K hK
   obtain ⟨v129, h129, rfl⟩ := hF.va 7 129
   rw [if_pos (by kernel_rfl)]
   go_simp
   exact hK _ _ _ rfl hS (Below.refl _ _) rfl
  case o9 =>
   intro dn a w' _ hS hF K hK
   obtain ⟨v130, h130, rfl⟩ := hF.va 8 130
   rw [if_neg (by rw [wanted_no 8 rfl (by kernel_rfl) h130]; decide)]
   exact hK _ _ _ rfl hS (Below.refl _ _) rfl
  case o10 =>
   intro dn a w' _ hS hF K hK
   obtain ⟨v130, h130, rfl⟩ := hF.va 8 130
   rw [if_neg (by rw [wanted_no 8 rfl (by kernel_rfl) h130]; decide)]
   exact hK _ _ _ rfl hS (Below.refl _ _) rfl
  case o11 =>
   intro dn a w' _ hS hF K hK
   obtain ⟨v130, h130, rfl⟩ := hF.va 8 130
   rw [if_neg (by rw [wanted_no 8 rfl (by kernel_rfl) h130]; decide)]
   exact hK _ _ _ rfl hS (Below.refl _ _) rfl
  case o12 =>
   intro dn a w' _ hS hF K hK
   obtain ⟨v130, h130, rfl⟩ := hF.va 8 130
   obtain ⟨v133, h133, rfl⟩ := hF.va 11 133
   rw [if_pos (by kernel_rfl)]
   go_simp
   exact hK _ _ _ rfl hS (Below.refl _ _) rfl
  case o13 =>
   intro dn a w' _ hS hF K hK
   obtain ⟨v123, h123, rfl⟩ := hF.va 1 123
   rw [if_pos (by kernel_rfl)]
   go_simp
   exact hK _ _ _ rfl hS (Below.refl _ _) rfl
  case o14 =>
   intro dn a w' _ hS hF K hK
   rw [if_pos (by kernel_rfl)]
   go_simp
   exact hK _ _ _ rfl hS (Below.refl _ _) rfl
  case o15 =>
   intro dn a w' _ hS hF K hK
   obtain ⟨v134, h134, rfl⟩ := hF.va 12 134
   rw [if_pos (by kernel_rfl)]
   go_simp
   exact hK _ _ _ rfl hS (Below.refl _ _) rfl
  case hmono =>
   intro i j v w1 w2 _ _ _ _ _ hv _
   exact hv
  case hend =>
   intro dn w5 vs hS hv
   have hvA : vs 13 = .int .i64 a := hv 13 (by decide)
   have hvB : vs 14 = .int .i64 1 := hv 14 (by decide)
   have hvC : vs 15 = .bool false := hv 15 (by decide)
   clear hv
   simp only [putsL, Nat.reduceAdd, Act.put, List.setIfInBounds_toArray, List.set_cons_zero, List.set_cons_succ, hvA, hvB, hvC]
   go_wp2
   refine bodyPost_ret (v := .tuple #[.int .i64 a, .int .i64 1, .bool false]) (by simp [results, Tryz.results41, go_sem]) rfl ?_
   exact ⟨ret3_is HT.out.symm HL.out.symm HR.out.symm, HB3.out.trans (hS.mono HB3.out.size)⟩
set_option maxHeartbeats 2000000 in
theorem dinstr_19 (x : Wv) (lim : Int) (a b : Int) (s t : ByteArray) (iw : Wd) (p l c : Int) (fa : Option Addr) (n cap : Nat) (w : World) (hS : subW w (fun b => b < w.heap.size) x) (hb : bigW x) (_hi : wfIns ⟨19, a, b, s, t, iw⟩) (_hn : n ≤ 9223372036854775807) (_hl : 0 ≤ l ∧ l ≤ 40) (_hc : 0 ≤ c ∧ c ≤ 40) :
  Calls Tryz.prog 41 #[.agg #[.slice x.fa x.fs.length x.fcap, .slice x.ga x.gs.length x.gcap, .slice x.ra x.rs.length x.rcap, .slice x.ha x.hs.length x.hcap, .int .i64 lim], .agg #[.int .i64 p, .int .i64 l, .int .i64 c, .slice fa n cap], .agg #[.int .i64 19, .int .i64 a, .int .i64 b, .string s, .string t, .int .i64 iw.k, .int .i64 iw.n, .string iw.s]] w fun e w' => e = ret3 (takeD ⟨19, a, b, s, t, iw⟩) (leaveD ⟨19, a, b, s, t, iw⟩) (instrB (ctxOf x) l c n ⟨19, a, b, s, t, iw⟩) ∧ Below w.heap.size w w' := by
 have hb3 := hid (below_3 w (.cells #[.slice x.fa x.fs.length x.fcap, .slice x.ga x.gs.length x.gcap, .slice x.ra x.rs.length x.rcap, .slice x.ha x.hs.length x.hcap, .int .i64 lim] 29) (.cells #[.int .i64 p, .int .i64 l, .int .i64 c, .slice fa n cap] 63) (.cells #[.int .i64 19, .int .i64 a, .int .i64 b, .string s, .string t, .int .i64 iw.k, .int .i64 iw.n, .string iw.s] 89))
 have HT := hid (show takeD ⟨19, a, b, s, t, iw⟩ = a from by simp [takeD])
 have HL := hid (show leaveD ⟨19, a, b, s, t, iw⟩ = 1 from by simp [leaveD])
 have HI := hid (in_bel (a := a) (m := 7) (by omega) (by omega))
 have HR0 := hid (show instrB (ctxOf x) l c n ⟨19, a, b, s, t, iw⟩ = (hasS (x.rs.map Rc.name) s && belB a 7) from by unfold instrB ctxOf; simp)
 have hge := idxF_ge s (x.rs.map Rc.name) 0
 cases hh : hasS (x.rs.map Rc.name) s with
 | true =>
  have HR := hid (show instrB (ctxOf x) l c n ⟨19, a, b, s, t, iw⟩ = belB a 7 from by rw [HR0.out, hh]; rfl)
  rw [hh] at hge
  have hgt : ¬ idxF s 0 (x.rs.map Rc.name) < 0 := by simpa using hge
  clear HR0 hh
  obtain ⟨w3, hw3⟩ : ∃ w3, w3 = (((w.alloc (.cells #[.slice x.fa x.fs.length x.fcap, .slice x.ga x.gs.length x.gcap, .slice x.ra x.rs.length x.rcap, .slice x.ha x.hs.length x.hcap, .int .i64 lim] 29)).alloc (.cells #[.int .i64 p, .int .i64 l, .int .i64 c, .slice fa n cap] 63)).alloc (.cells #[.int .i64 19, .int .i64 a, .int .i64 b, .string s, .string t, .int .i64 iw.k, .int .i64 iw.n, .string iw.s] 89)) := ⟨_, rfl⟩
  have HB3 := hid (show Below w.heap.size w w3 by rw [hw3]; exact hb3.out)
  have hz3 : w3.heap.size = w.heap.size + 3 := by rw [hw3]; simp
  have k0 : w3.cell? ⟨w.heap.size, 0, none⟩ = some (.slice x.fa x.fs.length x.fcap) ∧ w3.cell? ⟨w.heap.size, 1, none⟩ = some (.slice x.ga x.gs.length x.gcap) ∧ w3.cell? ⟨w.heap.size, 2, none⟩ = some (.slice x.ra x.rs.length x.rcap) ∧ w3.cell? ⟨w.heap.size, 3, none⟩ = some (.slice x.ha x.hs.length x.hcap) ∧ w3.cell? ⟨w.heap.size, 4, none⟩ = some (.int .i64 lim) ∧
    w3.cell? ⟨w.heap.size + 2, 1, none⟩ = some (.int .i64 a) ∧ w3.cell? ⟨w.heap.size + 2, 2, none⟩ = some (.int .i64 b) ∧ w3.cell? ⟨w.heap.size + 2, 3, none⟩ = some (.string s) := by
   rw [hw3]; refine ⟨?_, ?_, ?_, ?_, ?_, ?_, ?_, ?_⟩ <;> go_simp
  obtain ⟨k0, k1, k2, k3, k4, k5, k6, k7⟩ := k0
  have H3 := hid hw3
  have HS := hid hS
  have hrl : x.rs.length ≤ 9223372036854775807 := by have := hb.r; omega
  have hfl : x.fs.length ≤ 9223372036854775807 := by have := hb.f; omega
  clear hw3 hS hb _hi _hl _hc
  go_enter Tryz.func41, Tryz.ntmps41
  go_wp2_with fail
  rw [← H3.out]
  refine wp_region_invA (fun _ w' => Below w3.heap.size w3 w') (fun _ w' w'' => Below w'.heap.size w' w'') (fun i vv w' => match i with
   | 0 => vv = .pointer (some ⟨w.heap.size + 2, 1, none⟩)
   | 1 => vv = .int .i64 a
   | 2 => vv = .agg #[.slice x.fa x.fs.length x.fcap, .slice x.ga x.gs.length x.gcap, .slice x.ra x.rs.length x.rcap, .slice x.ha x.hs.length x.hcap, .int .i64 lim]
   | 3 => vv = .pointer (some ⟨w.heap.size + 2, 3, none⟩)
   | 4 => vv = .string s
   | 5 => vv = .int .i64 (idxF s 0 (x.rs.map Rc.name))
   | 6 => vv = .bool true
   | 7 => vv = .bool true
   | 8 => vv = .pointer (some ⟨w.heap.size + 2, 1, none⟩)
   | 9 => vv = .int .i64 a
   | 10 => vv = .bool (inB a 0 6)
   | 11 => vv = .bool (inB a 0 6)
   | 12 => vv = .int .i64 a
   | 13 => vv = .int .i64 1
   | 14 => vv = .bool (inB a 0 6)
   | _ => True) (by kernel_rfl) (by kernel_rfl) (Below.refl _ _).drew ?hmono ⟨?o0, ?o1, ?o2, ?o3, ?o4, ?o5, ?o6, ?o7, ?o8, ?o9, ?o10, ?o11, ?o12, ?o13, ?o14, trivial⟩ ?hend
  case o0 =>
   intro dn a w' _ hS hF K hK
   have h5 := hF.out 5 (by kernel_rfl) rfl
   rw [if_pos (by kernel_rfl)]
   go_simp
   exact hK _ _ _ rfl hS (Below.refl _ _) rfl
  case o1 =>
   intro dn a w' _ hS hF K hK
   obtain ⟨v137, h137, rfl⟩ := hF.va 0 137
   have k0' := cx hS k0
   have k1' := cx hS k1
   have k2' := cx hS k2
   have k3' := cx hS k3
   have k4' := cx hS k4
   have k5' := cx hS k5
   have k6' := cx hS k6
   have k7' := cx hS k7
   rw [if_pos (by kernel_rfl)]
   go_simp
   exact hK _ _ _ rfl hS (Below.refl _ _) rfl
  case o2 =>
   intro dn a w' _ hS hF K hK
   have h3 := hF.out 3 (by kernel_rfl) rfl
   have k0' := cx hS k0
   have k1' := cx hS k1
   have k2' := cx hS k2
   have k3' := cx hS k3
   have k4' := cx hS k4
   have k5' := cx hS k5
   have k6' := cx hS k6
   have k7' := cx hS k7
   rw [if_pos (by kernel_rfl)]
   go_simp
   exact hK _ _ _ rfl hS (Below.refl _ _) rfl
  case o3 =>
   intro dn a w' _ hS hF K hK
   have h5 := hF.out 5 (by kernel_rfl) rfl
   rw [if_pos (by kernel_rfl)]
   go_simp
   exact hK _ _ _ rfl hS (Below.refl _ _) rfl
  case o4 =>
   intro dn a w' _ hS hF K hK
   obtain ⟨v140, h140, rfl⟩ := hF.va 3 140
   have k0' := cx hS k0
   have k1' := cx hS k1
   have k2' := cx hS k2
   have k3' := cx hS k3
   have k4' := cx hS k4
   have k5' := cx hS k5
   have k6' := cx hS k6
   have k7' := cx hS k7
   rw [if_pos (by kernel_rfl)]
   go_simp
   exact hK _ _ _ rfl hS (Below.refl _ _) rfl
  case o5 =>
   intro dn a w' _ hS hF K hK
   obtain ⟨v139, h139, rfl⟩ := hF.va 2 139
   obtain ⟨v141, h141, rfl⟩ := hF.va 4 141
   rw [if_pos (by kernel_rfl)]
   go_simp
   refine (recAt_any (.slice x.fa x.fs.length x.fcap) (.slice x.ga x.gs.length x.gcap) (.slice x.ha x.hs.length x.hcap) (.int .i64 lim) x.ra x.rs x.rcap s w' (Cs.below HS.out.r (HB3.out.trans (hS.mono HB3.out.size)) (Nat.le_trans HB3.out.size hS.size)) hrl).mono ?_
   rintro e w'' ⟨rfl, hb⟩
   exact hK _ _ _ rfl (hS.trans (hb.mono hS.size)) hb rfl
  case o6 =>
   intro dn a w' _ hS hF K hK
   obtain ⟨v142, h142, rfl⟩ := hF.va 5 142
   rw [if_pos (by kernel_rfl)]
   go_simp
   exact hK _ _ _ rfl hS (Below.refl _ _) rfl
  case o7 =>
   intro dn a w' _ hS hF K hK
   obtain ⟨v143, h143, rfl⟩ := hF.va 6 143
   rw [if_pos (by kernel_rfl)]
   go_simp
   exact hK _ _ _ rfl hS (Below.refl _ _) rfl
  case o8 =>
   intro dn a w' _ hS hF K hK
   have h5 := hF.out 5 (by kernel_rfl) rfl
   obtain ⟨v144, h144, rfl⟩ := hF.va 7 144
   rw [if_pos (wanted_yes 7 rfl (by kernel_rfl) h144)]
   go_simp
   exact hK _ _ _ rfl hS (Below.refl _ _) rfl
  case o9 =>
   intro dn a w' _ hS hF K hK
   obtain ⟨v145, h145, rfl⟩ := hF.va 8 145
   obtain ⟨v144, h144, rfl⟩ := hF.va 7 144
   have k0' := cx hS k0
   have k1' := cx hS k1
   have k2' := cx hS k2
   have k3' := cx hS k3
   have k4' := cx hS k4
   have k5' := cx hS k5
   have k6' := cx hS k6
   have k7' := cx hS k7
   rw [if_pos (wanted_yes 7 rfl (by kernel_rfl) h144)]
   go_simp
   exact hK _ _ _ rfl hS (Below.refl _ _) rfl
  case o10 =>
   intro dn a w' _ hS hF K hK
   obtain ⟨v146, h146, rfl⟩ := hF.va 9 146
   obtain ⟨v144, h144, rfl⟩ := hF.va 7 144
   rw [if_pos (wanted_yes 7 rfl (by kernel_rfl) h144)]
   go_simp
   refine (HH.In_any _ 0 6 w').mono ?_
   rintro e w'' ⟨rfl, rfl⟩
   exact hK _ _ _ rfl hS (Below.refl _ _) rfl
  case o11 =>
   intro dn a w' _ hS hF K hK
   obtain ⟨v144, h144, rfl⟩ := hF.va 7 144
   obtain ⟨v147, h147, rfl⟩ := hF.va 10 147
   rw [if_pos (by kernel_rfl)]
   go_simp
   exact hK _ _ _ rfl hS (Below.refl _ _) rfl
  case o12 =>
   intro dn a w' _ hS hF K hK
   obtain ⟨v138, h138, rfl⟩ := hF.va 1 138
   rw [if_pos (by kernel_rfl)]
   go_simp
   exact hK _ _ _ rfl hS (Below.refl _ _) rfl
  case o13 =>
   intro dn a w' _ hS hF K hK
   rw [if_pos (by kernel_rfl)]
   go_simp
   exact hK _ _ _ rfl hS (Below.refl _ _) rfl
  case o14 =>
   intro dn a w' _ hS hF K hK
   obtain ⟨v148, h148, rfl⟩ := hF.va 11 148
   rw [if_pos (by kernel_rfl)]
   go_simp
   exact hK _ _ _ rfl hS (Below.refl _ _) rfl
  case hmono =>
   intro i j v w1 w2 _ _ _ _ _ hv _
   exact hv
  case hend =>
   intro dn w5 vs hS hv
   have hvA : vs 12 = .int .i64 a := hv 12 (by decide)
   have hvB : vs 13 = .int .i64 1 := hv 13 (by decide)
   have hvC : vs 14 = .bool (inB a 0 6) := hv 14 (by decide)
   clear hv
   simp only [putsL, Nat.reduceAdd, Act.put, List.setIfInBounds_toArray, List.set_cons_zero, List.set_cons_succ, hvA, hvB, hvC]
   go_wp2
   refine bodyPost_ret (v := .tuple #[.int .i64 a, .int .i64 1, .bool (inB a 0 6)]) (by simp [results, Tryz.results41, go_sem]) rfl ?_
   exact ⟨ret3_is HT.out.symm HL.out.symm (HI.out.trans HR.out.symm), HB3.out.trans (hS.mono HB3.out.size)⟩
 | false =>
  have HR := hid (show instrB (ctxOf x) l c n ⟨19, a, b, s, t, iw⟩ = false from by rw [HR0.out, hh]; rfl)
  rw [hh] at hge
  have hgt : idxF s 0 (x.rs.map Rc.name) < 0 := by simpa using hge
  clear HR0 hh
  obtain ⟨w3, hw3⟩ : ∃ w3, w3 = (((w.alloc (.cells #[.slice x.fa x.fs.length x.fcap, .slice x.ga x.gs.length x.gcap, .slice x.ra x.rs.length x.rcap, .slice x.ha x.hs.length x.hcap, .int .i64 lim] 29)).alloc (.cells #[.int .i64 p, .int .i64 l, .int .i64 c, .slice fa n cap] 63)).alloc (.cells #[.int .i64 19, .int .i64 a, .int .i64 b, .string s, .string t, .int .i64 iw.k, .int .i64 iw.n, .string iw.s] 89)) := ⟨_, rfl⟩
  have HB3 := hid (show Below w.heap.size w w3 by rw [hw3]; exact hb3.out)
  have hz3 : w3.heap.size = w.heap.size + 3 := by rw [hw3]; simp
  have k0 : w3.cell? ⟨w.heap.size, 0, none⟩ = some (.slice x.fa x.fs.length x.fcap) ∧ w3.cell? ⟨w.heap.size, 1, none⟩ = some (.slice x.ga x.gs.length x.gcap) ∧ w3.cell? ⟨w.heap.size, 2, none⟩ = some (.slice x.ra x.rs.length x.rcap) ∧ w3.cell? ⟨w.heap.size, 3, none⟩ = some (.slice x.ha x.hs.length x.hcap) ∧ w3.cell? ⟨w.heap.size, 4, none⟩ = some (.int .i64 lim) ∧
    w3.cell? ⟨w.heap.size + 2, 1, none⟩ = some (.int .i64 a) ∧ w3.cell? ⟨w.heap.size + 2, 2, none⟩ = some (.int .i64 b) ∧ w3.cell? ⟨w.heap.size + 2, 3, none⟩ = some (.string s) := by
   rw [hw3]; refine ⟨?_, ?_, ?_, ?_, ?_, ?_, ?_, ?_⟩ <;> go_simp
  obtain ⟨k0, k1, k2, k3, k4, k5, k6, k7⟩ := k0
  have H3 := hid hw3
  have HS := hid hS
  have hrl : x.rs.length ≤ 9223372036854775807 := by have := hb.r; omega
  have hfl : x.fs.length ≤ 9223372036854775807 := by have := hb.f; omega
  clear hw3 hS hb _hi _hl _hc
  go_enter Tryz.func41, Tryz.ntmps41
  go_wp2_with fail
  rw [← H3.out]
  refine wp_region_invA (fun _ w' => Below w3.heap.size w3 w') (fun _ w' w'' => Below w'.heap.size w' w'') (fun i vv w' => match i with
   | 0 => vv = .pointer (some ⟨w.heap.size + 2, 1, none⟩)
   | 1 => vv = .int .i64 a
   | 2 => vv = .agg #[.slice x.fa x.fs.length x.fcap, .slice x.ga x.gs.length x.gcap, .slice x.ra x.rs.length x.rcap, .slice x.ha x.hs.length x.hcap, .int .i64 lim]
   | 3 => vv = .pointer (some ⟨w.heap.size + 2, 3, none⟩)
   | 4 => vv = .string s
   | 5 => vv = .int .i64 (idxF s 0 (x.rs.map Rc.name))
   | 6 => vv = .bool false
   | 7 => vv = .bool false
   | 8 => vv = undef
   | 9 => vv = undef
   | 10 => vv = undef
   | 11 => vv = .bool false
   | 12 => vv = .int .i64 a
   | 13 => vv = .int .i64 1
   | 14 => vv = .bool false
   | _ => True) (by kernel_rfl) (by kernel_rfl) (Below.refl _ _).drew ?hmono ⟨?o0, ?o1, ?o2, ?o3, ?o4, ?o5, ?o6, ?o7, ?o8, ?o9, ?o10, ?o11, ?o12, ?o13, ?o14, trivial⟩ ?hend
  case o0 =>
   intro dn a w' _ hS hF K hK
   have h5 := hF.out 5 (by kernel_rfl) rfl
   rw [if_pos (by kernel_rfl)]
   go_simp
   exact hK _ _ _ rfl hS (Below.refl _ _) rfl
  case o1 =>
   intro dn a w' _ hS hF K hK
   obtain ⟨v137, h137, rfl⟩ := hF.va 0 137
   have k0' := cx hS k0
   have k1' := cx hS k1
   have k2' := cx hS k2
   have k3' := cx hS k3
   have k4' := cx hS k4
   have k5' := cx hS k5
   have k6' := cx hS k6
   have k7' := cx hS k7
   rw [if_pos (by kernel_rfl)]
   go_simp
   exact hK _ _ _ rfl hS (Below.refl _ _) rfl
  case o2 =>
   intro dn a w' _ hS hF K hK
   have h3 := hF.out 3 (by kernel_rfl) rfl
   have k0' := cx hS k0
   have k1' := cx hS k1
   have k2' := cx hS k2
   have k3' := cx hS k3
   have k4' := cx hS k4
   have k5' := cx hS k5
   have k6' := cx hS k6
   have k7' := cx hS k7
   rw [if_pos (by kernel_rfl)]
   go_simp
   exact hK _ _ _ rfl hS (Below.refl _ _) rfl
  case o3 =>
   intro dn a w' _ hS hF K hK
   have h5 := hF.out 5 (by kernel_rfl) rfl
   rw [if_pos (by kernel_rfl)]
   go_simp
   exact hK _ _ _ rfl hS (Below.refl _ _) rfl
  case o4 =>
   intro dn a w' _ hS hF K hK
   obtain ⟨v140, h140, rfl⟩ := hF.va 3 140
   have k0' := cx hS k0
   have k1' := cx hS k1
   have k2' := cx hS k2
   have k3' := cx hS k3
   have k4' := cx hS k4
   have k5' := cx hS k5
   have k6' := cx hS k6
   have k7' := cx hS k7
   rw [if_pos (by kernel_rfl)]
   go_simp
   exact hK _ _ _ rfl hS (Below.refl _ _) rfl
  case o5 =>
   intro dn a w' _ hS hF K hK
   obtain ⟨v139, h139, rfl⟩ := hF.va 2 139
   obtain ⟨v141, h141, rfl⟩ := hF.va 4 141
   rw [if_pos (by kernel_rfl)]
   go_simp
   refine (recAt_any (.slice x.fa x.fs.length x.fcap) (.slice x.ga x.gs.length x.gcap) (.slice x.ha x.hs.length x.hcap) (.int .i64 lim) x.ra x.rs x.rcap s w' (Cs.below HS.out.r (HB3.out.trans (hS.mono HB3.out.size)) (Nat.le_trans HB3.out.size hS.size)) hrl).mono ?_
   rintro e w'' ⟨rfl, hb⟩
   exact hK _ _ _ rfl (hS.trans (hb.mono hS.size)) hb rfl
  case o6 =>
   intro dn a w' _ hS hF K hK
   obtain ⟨v142, h142, rfl⟩ := hF.va 5 142
   rw [if_pos (by kernel_rfl)]
   go_simp
   exact hK _ _ _ rfl hS (Below.refl _ _) rfl
  case o7 =>
   intro dn a w' _ hS hF K hK
   obtain ⟨v143, h143, rfl⟩ := hF.va 6 143
   rw [if_pos (by kernel_rfl)]
   go_simp
   exact hK _ _ _ rfl hS (Below.refl _ _) rfl
  case o8 =>
   intro dn a w' _ hS hF K hK
   obtain ⟨v144, h144, rfl⟩ := hF.va 7 144
   rw [if_neg (by rw [wanted_no 7 rfl (by kernel_rfl) h144]; decide)]
   exact hK _ _ _ rfl hS (Below.refl _ _) rfl
  case o9 =>
   intro dn a w' _ hS hF K hK
   obtain ⟨v144, h144, rfl⟩ := hF.va 7 144
   rw [if_neg (by rw [wanted_no 7 rfl (by kernel_rfl) h144]; decide)]
   exact hK _ _ _ rfl hS (Below.refl _ _) rfl
  case o10 =>
   intro dn a w' _ hS hF K hK
   obtain ⟨v144, h144, rfl⟩ := hF.va 7 144
   rw [if_neg (by rw [wanted_no 7 rfl (by kernel_rfl) h144]; decide)]
   exact hK _ _ _ rfl hS (Below.refl _ _) rfl
  case o11 =>
   intro dn a w' _ hS hF K hK
   obtain ⟨v144, h144, rfl⟩ := hF.va 7 144
   obtain ⟨v147, h147, rfl⟩ := hF.va 10 147
   rw [if_pos (by kernel_rfl)]
   go_simp
   exact hK _ _ _ rfl hS (Below.refl _ _) rfl
  case o12 =>
   intro dn a w' _ hS hF K hK
   obtain ⟨v138, h138, rfl⟩ := hF.va 1 138
   rw [if_pos (by kernel_rfl)]
   go_simp
   exact hK _ _ _ rfl hS (Below.refl _ _) rfl
  case o13 =>
   intro dn a w' _ hS hF K hK
   rw [if_pos (by kernel_rfl)]
   go_simp
   exact hK _ _ _ rfl hS (Below.refl _ _) rfl
  case o14 =>
   intro dn a w' _ hS hF K hK
   obtain ⟨v148, h148, rfl⟩ := hF.va 11 148
   rw [if_pos (by kernel_rfl)]
   go_simp
   exact hK _ _ _ rfl hS (Below.refl _ _) rfl
  case hmono =>
   intro i j v w1 w2 _ _ _ _ _ hv _
   exact hv
  case hend =>
   intro dn w5 vs hS hv
   have hvA : vs 12 = .int .i64 a := hv 12 (by decide)
   have hvB : vs 13 = .int .i64 1 := hv 13 (by decide)
   have hvC : vs 14 = .bool false := hv 14 (by decide)
   clear hv
   simp only [putsL, Nat.reduceAdd, Act.put, List.setIfInBounds_toArray, List.set_cons_zero, List.set_cons_succ, hvA, hvB, hvC]
   go_wp2
   refine bodyPost_ret (v := .tuple #[.int .i64 a, .int .i64 1, .bool false]) (by simp [results, Tryz.results41, go_sem]) rfl ?_
   exact ⟨ret3_is HT.out.symm HL.out.symm HR.out.symm, HB3.out.trans (hS.mono HB3.out.size)⟩
set_option maxHeartbeats 2000000 in
theorem dinstr_20 (x : Wv) (lim : Int) (a b : Int) (s t : ByteArray) (iw : Wd) (p l c : Int) (fa : Option Addr) (n cap : Nat) (w : World) (hS : subW w (fun b => b < w.heap.size) x) (hb : bigW x) (_hi : wfIns ⟨20, a, b, s, t, iw⟩) (_hn : n ≤ 9223372036854775807) (_hl : 0 ≤ l ∧ l ≤ 40) (_hc : 0 ≤ c ∧ c ≤ 40) :
  Calls Tryz.prog 41 #[.agg #[.slice x.fa x.fs.length x.fcap, .slice x.ga x.gs.length x.gcap, .slice x.ra x.rs.length x.rcap, .slice x.ha x.hs.length x.hcap, .int .i64 lim], .agg #[.int .i64 p, .int .i64 l, .int .i64 c, .slice fa n cap], .agg #[.int .i64 20, .int .i64 a, .int .i64 b, .string s, .string t, .int .i64 iw.k, .int .i64 iw.n, .string iw.s]] w fun e w' => e = ret3 (takeD ⟨20, a, b, s, t, iw⟩) (leaveD ⟨20, a, b, s, t, iw⟩) (instrB (ctxOf x) l c n ⟨20, a, b, s, t, iw⟩) ∧ Below w.heap.size w w' := by
 have hb3 := hid (below_3 w (.cells #[.slice x.fa x.fs.length x.fcap, .slice x.ga x.gs.length x.gcap, .slice x.ra x.rs.length x.rcap, .slice x.ha x.hs.length x.hcap, .int .i64 lim] 29) (.cells #[.int .i64 p, .int .i64 l, .int .i64 c, .slice fa n cap] 63) (.cells #[.int .i64 20, .int .i64 a, .int .i64 b, .string s, .string t, .int .i64 iw.k, .int .i64 iw.n, .string iw.s] 89))
 have HT := hid (show takeD ⟨20, a, b, s, t, iw⟩ = 1 from by simp [takeD])
 have HL := hid (show leaveD ⟨20, a, b, s, t, iw⟩ = 1 from by simp [leaveD])
 have HR := hid (show instrB (ctxOf x) l c n ⟨20, a, b, s, t, iw⟩ = hasS (x.rs.map Rc.name) s from by unfold instrB ctxOf; simp)
 have HG := hid (idxF_ge s (x.rs.map Rc.name) 0)
 have hgl : x.rs.length ≤ 9223372036854775807 := by have := hb.r; omega
 have hcall0 := hid (recAt_any (.slice x.fa x.fs.length x.fcap) (.slice x.ga x.gs.length x.gcap) (.slice x.ha x.hs.length x.hcap) (.int .i64 lim) x.ra x.rs x.rcap s (((w.alloc (.cells #[.slice x.fa x.fs.length x.fcap, .slice x.ga x.gs.length x.gcap, .slice x.ra x.rs.length x.rcap, .slice x.ha x.hs.length x.hcap, .int .i64 lim] 29)).alloc (.cells #[.int .i64 p, .int .i64 l, .int .i64 c, .slice fa n cap] 63)).alloc (.cells #[.int .i64 20, .int .i64 a, .int .i64 b, .string s, .string t, .int .i64 iw.k, .int .i64 iw.n, .string iw.s] 89)) (Cs.below hS.r hb3.out hb3.out.size) hgl)
 clear hS hb _hi _hl _hc hgl
 go_enter Tryz.func41, Tryz.ntmps41
 go_wp2_with fail
 have hcall := hcall0.out
 go_fit hcall
 clear hcall
 rintro e w2 ⟨rfl, hb2⟩
 have hB := hid (hb3.out.trans (hb2.mono hb3.out.size))
 go_wp2_with fail
 refine bodyPost_ret (v := .tuple #[.int .i64 1, .int .i64 1, .bool (decide (0 ≤ idxF s 0 (x.rs.map Rc.name)))]) (by simp [results, Tryz.results41, go_sem]) rfl ?_
 exact ⟨ret3_is HT.out.symm HL.out.symm (HG.out.trans HR.out.symm), hB.out⟩
set_option maxHeartbeats 2000000 in
theorem dinstr_21 (x : Wv) (lim : Int) (a b : Int) (s t : ByteArray) (iw : Wd) (p l c : Int) (fa : Option Addr) (n cap : Nat) (w : World) (hS : subW w (fun b => b < w.heap.size) x) (hb : bigW x) (_hi : wfIns ⟨21, a, b, s, t, iw⟩) (_hn : n ≤ 9223372036854775807) (_hl : 0 ≤ l ∧ l ≤ 40) (_hc : 0 ≤ c ∧ c ≤ 40) :
  Calls Tryz.prog 41 #[.agg #[.slice x.fa x.fs.length x.fcap, .slice x.ga x.gs.length x.gcap, .slice x.ra x.rs.length x.rcap, .slice x.ha x.hs.length x.hcap, .int .i64 lim], .agg #[.int .i64 p, .int .i64 l, .int .i64 c, .slice fa n cap], .agg #[.int .i64 21, .int .i64 a, .int .i64 b, .string s, .string t, .int .i64 iw.k, .int .i64 iw.n, .string iw.s]] w fun e w' => e = ret3 (takeD ⟨21, a, b, s, t, iw⟩) (leaveD ⟨21, a, b, s, t, iw⟩) (instrB (ctxOf x) l c n ⟨21, a, b, s, t, iw⟩) ∧ Below w.heap.size w w' := by
 have hb3 := hid (below_3 w (.cells #[.slice x.fa x.fs.length x.fcap, .slice x.ga x.gs.length x.gcap, .slice x.ra x.rs.length x.rcap, .slice x.ha x.hs.length x.hcap, .int .i64 lim] 29) (.cells #[.int .i64 p, .int .i64 l, .int .i64 c, .slice fa n cap] 63) (.cells #[.int .i64 21, .int .i64 a, .int .i64 b, .string s, .string t, .int .i64 iw.k, .int .i64 iw.n, .string iw.s] 89))
 have HT := hid (show takeD ⟨21, a, b, s, t, iw⟩ = 1 from by simp [takeD])
 have HL := hid (show leaveD ⟨21, a, b, s, t, iw⟩ = 1 from by simp [leaveD])
 have HR := hid (show instrB (ctxOf x) l c n ⟨21, a, b, s, t, iw⟩ = hasS (x.rs.map Rc.name) s from by unfold instrB ctxOf; simp)
 have HG := hid (idxF_ge s (x.rs.map Rc.name) 0)
 have hgl : x.rs.length ≤ 9223372036854775807 := by have := hb.r; omega
 have hcall0 := hid (recAt_any (.slice x.fa x.fs.length x.fcap) (.slice x.ga x.gs.length x.gcap) (.slice x.ha x.hs.length x.hcap) (.int .i64 lim) x.ra x.rs x.rcap s (((w.alloc (.cells #[.slice x.fa x.fs.length x.fcap, .slice x.ga x.gs.length x.gcap, .slice x.ra x.rs.length x.rcap, .slice x.ha x.hs.length x.hcap, .int .i64 lim] 29)).alloc (.cells #[.int .i64 p, .int .i64 l, .int .i64 c, .slice fa n cap] 63)).alloc (.cells #[.int .i64 21, .int .i64 a, .int .i64 b, .string s, .string t, .int .i64 iw.k, .int .i64 iw.n, .string iw.s] 89)) (Cs.below hS.r hb3.out hb3.out.size) hgl)
 clear hS hb _hi _hl _hc hgl
 go_enter Tryz.func41, Tryz.ntmps41
 go_wp2_with fail
 have hcall := hcall0.out
 go_fit hcall
 clear hcall
 rintro e w2 ⟨rfl, hb2⟩
 have hB := hid (hb3.out.trans (hb2.mono hb3.out.size))
 go_wp2_with fail
 refine bodyPost_ret (v := .tuple #[.int .i64 1, .int .i64 1, .bool (decide (0 ≤ idxF s 0 (x.rs.map Rc.name)))]) (by simp [results, Tryz.results41, go_sem]) rfl ?_
 exact ⟨ret3_is HT.out.symm HL.out.symm (HG.out.trans HR.out.symm), hB.out⟩
set_option maxHeartbeats 2000000 in
theorem dinstr_22 (x : Wv) (lim : Int) (a b : Int) (s t : ByteArray) (iw : Wd) (p l c : Int) (fa : Option Addr) (n cap : Nat) (w : World) (hS : subW w (fun b => b < w.heap.size) x) (hb : bigW x) (_hi : wfIns ⟨22, a, b, s, t, iw⟩) (_hn : n ≤ 9223372036854775807) (_hl : 0 ≤ l ∧ l ≤ 40) (_hc : 0 ≤ c ∧ c ≤ 40) :
  Calls Tryz.prog 41 #[.agg #[.slice x.fa x.fs.length x.fcap, .slice x.ga x.gs.length x.gcap, .slice x.ra x.rs.length x.rcap, .slice x.ha x.hs.length x.hcap, .int .i64 lim], .agg #[.int .i64 p, .int .i64 l, .int .i64 c, .slice fa n cap], .agg #[.int .i64 22, .int .i64 a, .int .i64 b, .string s, .string t, .int .i64 iw.k, .int .i64 iw.n, .string iw.s]] w fun e w' => e = ret3 (takeD ⟨22, a, b, s, t, iw⟩) (leaveD ⟨22, a, b, s, t, iw⟩) (instrB (ctxOf x) l c n ⟨22, a, b, s, t, iw⟩) ∧ Below w.heap.size w w' := by
 have hb3 := hid (below_3 w (.cells #[.slice x.fa x.fs.length x.fcap, .slice x.ga x.gs.length x.gcap, .slice x.ra x.rs.length x.rcap, .slice x.ha x.hs.length x.hcap, .int .i64 lim] 29) (.cells #[.int .i64 p, .int .i64 l, .int .i64 c, .slice fa n cap] 63) (.cells #[.int .i64 22, .int .i64 a, .int .i64 b, .string s, .string t, .int .i64 iw.k, .int .i64 iw.n, .string iw.s] 89))
 have HT := hid (show takeD ⟨22, a, b, s, t, iw⟩ = 2 from by simp [takeD])
 have HL := hid (show leaveD ⟨22, a, b, s, t, iw⟩ = 1 from by simp [leaveD])
 have HR := hid (show instrB (ctxOf x) l c n ⟨22, a, b, s, t, iw⟩ = hasS (x.rs.map Rc.name) s from by unfold instrB ctxOf; simp)
 have HG := hid (idxF_ge s (x.rs.map Rc.name) 0)
 have hgl : x.rs.length ≤ 9223372036854775807 := by have := hb.r; omega
 have hcall0 := hid (recAt_any (.slice x.fa x.fs.length x.fcap) (.slice x.ga x.gs.length x.gcap) (.slice x.ha x.hs.length x.hcap) (.int .i64 lim) x.ra x.rs x.rcap s (((w.alloc (.cells #[.slice x.fa x.fs.length x.fcap, .slice x.ga x.gs.length x.gcap, .slice x.ra x.rs.length x.rcap, .slice x.ha x.hs.length x.hcap, .int .i64 lim] 29)).alloc (.cells #[.int .i64 p, .int .i64 l, .int .i64 c, .slice fa n cap] 63)).alloc (.cells #[.int .i64 22, .int .i64 a, .int .i64 b, .string s, .string t, .int .i64 iw.k, .int .i64 iw.n, .string iw.s] 89)) (Cs.below hS.r hb3.out hb3.out.size) hgl)
 clear hS hb _hi _hl _hc hgl
 go_enter Tryz.func41, Tryz.ntmps41
 go_wp2_with fail
 have hcall := hcall0.out
 go_fit hcall
 clear hcall
 rintro e w2 ⟨rfl, hb2⟩
 have hB := hid (hb3.out.trans (hb2.mono hb3.out.size))
 go_wp2_with fail
 refine bodyPost_ret (v := .tuple #[.int .i64 2, .int .i64 1, .bool (decide (0 ≤ idxF s 0 (x.rs.map Rc.name)))]) (by simp [results, Tryz.results41, go_sem]) rfl ?_
 exact ⟨ret3_is HT.out.symm HL.out.symm (HG.out.trans HR.out.symm), hB.out⟩
set_option maxHeartbeats 2000000 in
theorem dinstr_other (x : Wv) (lim : Int) (op a b : Int) (s t : ByteArray) (iw : Wd) (p l c : Int) (fa : Option Addr) (n cap : Nat) (w : World) (_hS : subW w (fun b => b < w.heap.size) x) (_hb : bigW x) (_hi : wfIns ⟨op, a, b, s, t, iw⟩) (_hn : n ≤ 9223372036854775807) (_hl : 0 ≤ l ∧ l ≤ 40) (_hc : 0 ≤ c ∧ c ≤ 40) (ho : ¬ (1 ≤ op ∧ op ≤ 22)) :
  Calls Tryz.prog 41 #[.agg #[.slice x.fa x.fs.length x.fcap, .slice x.ga x.gs.length x.gcap, .slice x.ra x.rs.length x.rcap, .slice x.ha x.hs.length x.hcap, .int .i64 lim], .agg #[.int .i64 p, .int .i64 l, .int .i64 c, .slice fa n cap], .agg #[.int .i64 op, .int .i64 a, .int .i64 b, .string s, .string t, .int .i64 iw.k, .int .i64 iw.n, .string iw.s]] w fun e w' => e = ret3 (takeD ⟨op, a, b, s, t, iw⟩) (leaveD ⟨op, a, b, s, t, iw⟩) (instrB (ctxOf x) l c n ⟨op, a, b, s, t, iw⟩) ∧ Below w.heap.size w w' := by
 have hb3 := hid (below_3 w (.cells #[.slice x.fa x.fs.length x.fcap, .slice x.ga x.gs.length x.gcap, .slice x.ra x.rs.length x.rcap, .slice x.ha x.hs.length x.hcap, .int .i64 lim] 29) (.cells #[.int .i64 p, .int .i64 l, .int .i64 c, .slice fa n cap] 63) (.cells #[.int .i64 op, .int .i64 a, .int .i64 b, .string s, .string t, .int .i64 iw.k, .int .i64 iw.n, .string iw.s] 89))
 have HT := hid (show takeD ⟨op, a, b, s, t, iw⟩ = 0 from by
  unfold takeD
  dsimp only
  rw [if_neg (by omega), if_neg (by omega), if_neg (by omega), if_neg (by omega), if_neg (by omega)])
 have HL := hid (show leaveD ⟨op, a, b, s, t, iw⟩ = 0 from by
  unfold leaveD
  dsimp only
  rw [if_neg (by omega)])
 have HR := hid (show instrB (ctxOf x) l c n ⟨op, a, b, s, t, iw⟩ = false from by
  cases e : instrB (ctxOf x) l c n ⟨op, a, b, s, t, iw⟩
  ·
   rfl
  ·
   exact absurd (instrB_op e) ho)
 have n1 : (op == 1) = false := by simp; omega
 have n2 : (op == 2) = false := by simp; omega
 have n3 : (op == 3) = false := by simp; omega
 have n4 : (op == 4) = false := by simp; omega
 have n5 : (op == 5) = false := by simp; omega
 have n6 : (op == 6) = false := by simp; omega
 have n7 : (op == 7) = false := by simp; omega
 have n8 : (op == 8) = false := by simp; omega
 have n9 : (op == 9) = false := by simp; omega
 have n10 : (op == 10) = false := by simp; omega
 have n11 : (op == 11) = false := by simp; omega
 have n12 : (op == 12) = false := by simp; omega
 have n13 : (op == 13) = false := by simp; omega
 have n14 : (op == 14) = false := by simp; omega
 have n15 : (op == 15) = false := by simp; omega
 have n16 : (op == 16) = false := by simp; omega
 have n17 : (op == 17) = false := by simp; omega
 have n18 : (op == 18) = false := by simp; omega
 have n19 : (op == 19) = false := by simp; omega
 have n20 : (op == 20) = false := by simp; omega
 have n21 : (op == 21) = false := by simp; omega
 have n22 : (op == 22) = false := by simp; omega
 clear _hS _hb _hi _hl _hc ho
 go_enter Tryz.func41, Tryz.ntmps41
 go_wp2
 refine bodyPost_ret (v := .tuple #[.int .i64 0, .int .i64 0, .bool false]) (by simp [results, Tryz.results41, go_sem]) rfl ?_
 exact ⟨ret3_is HT.out.symm HL.out.symm HR.out.symm, hb3.out⟩
/-- May an instruction be, as the document has it. -/
theorem instrMay_any (x : Wv) (lim : Int) (op a b : Int) (s t : ByteArray) (iw : Wd) (p l c : Int) (fa : Option Addr) (n cap : Nat) (w : World) (hS : subW w (fun b => b < w.heap.size) x) (hb : bigW x) (hi : wfIns ⟨op, a, b, s, t, iw⟩) (hn : n ≤ 9223372036854775807) (hl : 0 ≤ l ∧ l ≤ 40) (hc : 0 ≤ c ∧ c ≤ 40) :
  Calls Tryz.prog 41 #[.agg #[.slice x.fa x.fs.length x.fcap, .slice x.ga x.gs.length x.gcap, .slice x.ra x.rs.length x.rcap, .slice x.ha x.hs.length x.hcap, .int .i64 lim], .agg #[.int .i64 p, .int .i64 l, .int .i64 c, .slice fa n cap], .agg #[.int .i64 op, .int .i64 a, .int .i64 b, .string s, .string t, .int .i64 iw.k, .int .i64 iw.n, .string iw.s]] w fun e w' => e = ret3 (takeD ⟨op, a, b, s, t, iw⟩) (leaveD ⟨op, a, b, s, t, iw⟩) (instrB (ctxOf x) l c n ⟨op, a, b, s, t, iw⟩) ∧ Below w.heap.size w w' := by
 by_cases ho : 1 ≤ op ∧ op ≤ 22
 ·
  have hcase : op = 1 ∨ op = 2 ∨ op = 3 ∨ op = 4 ∨ op = 5 ∨ op = 6 ∨ op = 7 ∨ op = 8 ∨ op = 9 ∨ op = 10 ∨ op = 11 ∨ op = 12 ∨ op = 13 ∨ op = 14 ∨ op = 15 ∨ op = 16 ∨ op = 17 ∨ op = 18 ∨ op = 19 ∨ op = 20 ∨ op = 21 ∨ op = 22 := by omega
  rcases hcase with rfl | rfl | rfl | rfl | rfl | rfl | rfl | rfl | rfl | rfl | rfl | rfl | rfl | rfl | rfl | rfl | rfl | rfl | rfl | rfl | rfl | rfl
  ·
   exact dinstr_1 x lim a b s t iw p l c fa n cap w hS hb hi hn hl hc
  ·
   exact dinstr_2 x lim a b s t iw p l c fa n cap w hS hb hi hn hl hc
  ·
   exact dinstr_3 x lim a b s t iw p l c fa n cap w hS hb hi hn hl hc
  ·
   exact dinstr_4 x lim a b s t iw p l c fa n cap w hS hb hi hn hl hc
  ·
   exact dinstr_5 x lim a b s t iw p l c fa n cap w hS hb hi hn hl hc
  ·
   exact dinstr_6 x lim a b s t iw p l c fa n cap w hS hb hi hn hl hc
  ·
   exact dinstr_7 x lim a b s t iw p l c fa n cap w hS hb hi hn hl hc
  ·
   exact dinstr_8 x lim a b s t iw p l c fa n cap w hS hb hi hn hl hc
  ·
   exact dinstr_9 x lim a b s t iw p l c fa n cap w hS hb hi hn hl hc
  ·
   exact dinstr_10 x lim a b s t iw p l c fa n cap w hS hb hi hn hl hc
  ·
   exact dinstr_11 x lim a b s t iw p l c fa n cap w hS hb hi hn hl hc
  ·
   exact dinstr_12 x lim a b s t iw p l c fa n cap w hS hb hi hn hl hc
  ·
   exact dinstr_13 x lim a b s t iw p l c fa n cap w hS hb hi hn hl hc
  ·
   exact dinstr_14 x lim a b s t iw p l c fa n cap w hS hb hi hn hl hc
  ·
   exact dinstr_15 x lim a b s t iw p l c fa n cap w hS hb hi hn hl hc
  ·
   exact dinstr_16 x lim a b s t iw p l c fa n cap w hS hb hi hn hl hc
  ·
   exact dinstr_17 x lim a b s t iw p l c fa n cap w hS hb hi hn hl hc
  ·
   exact dinstr_18 x lim a b s t iw p l c fa n cap w hS hb hi hn hl hc
  ·
   exact dinstr_19 x lim a b s t iw p l c fa n cap w hS hb hi hn hl hc
  ·
   exact dinstr_20 x lim a b s t iw p l c fa n cap w hS hb hi hn hl hc
  ·
   exact dinstr_21 x lim a b s t iw p l c fa n cap w hS hb hi hn hl hc
  ·
   exact dinstr_22 x lim a b s t iw p l c fa n cap w hS hb hi hn hl hc
 ·
  exact dinstr_other x lim op a b s t iw p l c fa n cap w hS hb hi hn hl hc ho
end Go.Proofs.YtldmanfgmadbfaaGreatDoor
