/- May an instruction be: vm's mayBeInstr. (Written by wip/tools/mkinstr.py.) -/
import Derived.Test.YtldmanfgmadbfaaGreatDoorQ08
import Derived.Test.YtldmanfgmadbfaaGreatDoorQ09
import Derived.RegionTactic
import Derived.Deep.RegionWith
namespace Go.Proofs.YtldmanfgmadbfaaGreatDoor
set_option maxRecDepth 100000
open HH UU VV
open Go.RowKit Go.Maps Go.WideMaps
set_option maxHeartbeats 2000000 in
theorem instr_1 (v : Vw) (th : List Th) (a b : Int) (s t : ByteArray) (iw : Wd) (p l c : Int) (fa : Option Addr) (n cap : Nat) (w : World) (_hV : ViewAt w v th) (_hi : wfIns ⟨1, a, b, s, t, iw⟩) (_hn : n ≤ 9223372036854775807) :
    Calls Tryz.prog 69 #[viewV v, .agg #[.int .i64 1, .int .i64 a, .int .i64 b, .string s, .string t, .int .i64 iw.k, .int .i64 iw.n, .string iw.s], .agg #[.int .i64 p, .int .i64 l, .int .i64 c, .slice fa n cap]] w fun e w' => e = .returned (.bool (instrB (ctxOf v.x) l c n ⟨1, a, b, s, t, iw⟩)) ∧ Below w.heap.size w w' := by
  have hb3 := hid (below_3 w (.cells #[.slice v.x.fa v.x.fs.length v.x.fcap, .slice v.x.ga v.x.gs.length v.x.gcap, .slice v.x.ra v.x.rs.length v.x.rcap, .slice v.x.ha v.x.hs.length v.x.hcap, .int .i64 v.lim, finG v.gq, finR v.rq, valF v.vq, .map (some v.pm)] 45) (.cells #[.int .i64 1, .int .i64 a, .int .i64 b, .string s, .string t, .int .i64 iw.k, .int .i64 iw.n, .string iw.s] 89) (.cells #[.int .i64 p, .int .i64 l, .int .i64 c, .slice fa n cap] 63))
  have HR := hid (show instrB (ctxOf v.x) l c n ⟨1, a, b, s, t, iw⟩ = true by unfold instrB; simp)
  clear _hV _hi
  go_enter Tryz.func69, Tryz.ntmps69
  go_wp2_with fail
  go_ret
  exact ⟨ret_bool HR.out.symm, hb3.out⟩
set_option maxHeartbeats 2000000 in
theorem instr_6 (v : Vw) (th : List Th) (a b : Int) (s t : ByteArray) (iw : Wd) (p l c : Int) (fa : Option Addr) (n cap : Nat) (w : World) (_hV : ViewAt w v th) (_hi : wfIns ⟨6, a, b, s, t, iw⟩) (_hn : n ≤ 9223372036854775807) :
    Calls Tryz.prog 69 #[viewV v, .agg #[.int .i64 6, .int .i64 a, .int .i64 b, .string s, .string t, .int .i64 iw.k, .int .i64 iw.n, .string iw.s], .agg #[.int .i64 p, .int .i64 l, .int .i64 c, .slice fa n cap]] w fun e w' => e = .returned (.bool (instrB (ctxOf v.x) l c n ⟨6, a, b, s, t, iw⟩)) ∧ Below w.heap.size w w' := by
  have hb3 := hid (below_3 w (.cells #[.slice v.x.fa v.x.fs.length v.x.fcap, .slice v.x.ga v.x.gs.length v.x.gcap, .slice v.x.ra v.x.rs.length v.x.rcap, .slice v.x.ha v.x.hs.length v.x.hcap, .int .i64 v.lim, finG v.gq, finR v.rq, valF v.vq, .map (some v.pm)] 45) (.cells #[.int .i64 6, .int .i64 a, .int .i64 b, .string s, .string t, .int .i64 iw.k, .int .i64 iw.n, .string iw.s] 89) (.cells #[.int .i64 p, .int .i64 l, .int .i64 c, .slice fa n cap] 63))
  have HR := hid (show instrB (ctxOf v.x) l c n ⟨6, a, b, s, t, iw⟩ = true by unfold instrB; simp)
  clear _hV _hi
  go_enter Tryz.func69, Tryz.ntmps69
  go_wp2_with fail
  go_ret
  exact ⟨ret_bool HR.out.symm, hb3.out⟩
set_option maxHeartbeats 2000000 in
theorem instr_7 (v : Vw) (th : List Th) (a b : Int) (s t : ByteArray) (iw : Wd) (p l c : Int) (fa : Option Addr) (n cap : Nat) (w : World) (_hV : ViewAt w v th) (_hi : wfIns ⟨7, a, b, s, t, iw⟩) (_hn : n ≤ 9223372036854775807) :
    Calls Tryz.prog 69 #[viewV v, .agg #[.int .i64 7, .int .i64 a, .int .i64 b, .string s, .string t, .int .i64 iw.k, .int .i64 iw.n, .string iw.s], .agg #[.int .i64 p, .int .i64 l, .int .i64 c, .slice fa n cap]] w fun e w' => e = .returned (.bool (instrB (ctxOf v.x) l c n ⟨7, a, b, s, t, iw⟩)) ∧ Below w.heap.size w w' := by
  have hb3 := hid (below_3 w (.cells #[.slice v.x.fa v.x.fs.length v.x.fcap, .slice v.x.ga v.x.gs.length v.x.gcap, .slice v.x.ra v.x.rs.length v.x.rcap, .slice v.x.ha v.x.hs.length v.x.hcap, .int .i64 v.lim, finG v.gq, finR v.rq, valF v.vq, .map (some v.pm)] 45) (.cells #[.int .i64 7, .int .i64 a, .int .i64 b, .string s, .string t, .int .i64 iw.k, .int .i64 iw.n, .string iw.s] 89) (.cells #[.int .i64 p, .int .i64 l, .int .i64 c, .slice fa n cap] 63))
  have HR := hid (show instrB (ctxOf v.x) l c n ⟨7, a, b, s, t, iw⟩ = true by unfold instrB; simp)
  clear _hV _hi
  go_enter Tryz.func69, Tryz.ntmps69
  go_wp2_with fail
  go_ret
  exact ⟨ret_bool HR.out.symm, hb3.out⟩
set_option maxHeartbeats 2000000 in
theorem instr_8 (v : Vw) (th : List Th) (a b : Int) (s t : ByteArray) (iw : Wd) (p l c : Int) (fa : Option Addr) (n cap : Nat) (w : World) (_hV : ViewAt w v th) (_hi : wfIns ⟨8, a, b, s, t, iw⟩) (_hn : n ≤ 9223372036854775807) :
    Calls Tryz.prog 69 #[viewV v, .agg #[.int .i64 8, .int .i64 a, .int .i64 b, .string s, .string t, .int .i64 iw.k, .int .i64 iw.n, .string iw.s], .agg #[.int .i64 p, .int .i64 l, .int .i64 c, .slice fa n cap]] w fun e w' => e = .returned (.bool (instrB (ctxOf v.x) l c n ⟨8, a, b, s, t, iw⟩)) ∧ Below w.heap.size w w' := by
  have hb3 := hid (below_3 w (.cells #[.slice v.x.fa v.x.fs.length v.x.fcap, .slice v.x.ga v.x.gs.length v.x.gcap, .slice v.x.ra v.x.rs.length v.x.rcap, .slice v.x.ha v.x.hs.length v.x.hcap, .int .i64 v.lim, finG v.gq, finR v.rq, valF v.vq, .map (some v.pm)] 45) (.cells #[.int .i64 8, .int .i64 a, .int .i64 b, .string s, .string t, .int .i64 iw.k, .int .i64 iw.n, .string iw.s] 89) (.cells #[.int .i64 p, .int .i64 l, .int .i64 c, .slice fa n cap] 63))
  have HR := hid (show instrB (ctxOf v.x) l c n ⟨8, a, b, s, t, iw⟩ = true by unfold instrB; simp)
  clear _hV _hi
  go_enter Tryz.func69, Tryz.ntmps69
  go_wp2_with fail
  go_ret
  exact ⟨ret_bool HR.out.symm, hb3.out⟩
set_option maxHeartbeats 2000000 in
theorem instr_14 (v : Vw) (th : List Th) (a b : Int) (s t : ByteArray) (iw : Wd) (p l c : Int) (fa : Option Addr) (n cap : Nat) (w : World) (_hV : ViewAt w v th) (_hi : wfIns ⟨14, a, b, s, t, iw⟩) (_hn : n ≤ 9223372036854775807) :
    Calls Tryz.prog 69 #[viewV v, .agg #[.int .i64 14, .int .i64 a, .int .i64 b, .string s, .string t, .int .i64 iw.k, .int .i64 iw.n, .string iw.s], .agg #[.int .i64 p, .int .i64 l, .int .i64 c, .slice fa n cap]] w fun e w' => e = .returned (.bool (instrB (ctxOf v.x) l c n ⟨14, a, b, s, t, iw⟩)) ∧ Below w.heap.size w w' := by
  have hb3 := hid (below_3 w (.cells #[.slice v.x.fa v.x.fs.length v.x.fcap, .slice v.x.ga v.x.gs.length v.x.gcap, .slice v.x.ra v.x.rs.length v.x.rcap, .slice v.x.ha v.x.hs.length v.x.hcap, .int .i64 v.lim, finG v.gq, finR v.rq, valF v.vq, .map (some v.pm)] 45) (.cells #[.int .i64 14, .int .i64 a, .int .i64 b, .string s, .string t, .int .i64 iw.k, .int .i64 iw.n, .string iw.s] 89) (.cells #[.int .i64 p, .int .i64 l, .int .i64 c, .slice fa n cap] 63))
  have HR := hid (show instrB (ctxOf v.x) l c n ⟨14, a, b, s, t, iw⟩ = true by unfold instrB; simp)
  clear _hV _hi
  go_enter Tryz.func69, Tryz.ntmps69
  go_wp2_with fail
  go_ret
  exact ⟨ret_bool HR.out.symm, hb3.out⟩
set_option maxHeartbeats 2000000 in
theorem instr_17 (v : Vw) (th : List Th) (a b : Int) (s t : ByteArray) (iw : Wd) (p l c : Int) (fa : Option Addr) (n cap : Nat) (w : World) (_hV : ViewAt w v th) (_hi : wfIns ⟨17, a, b, s, t, iw⟩) (_hn : n ≤ 9223372036854775807) :
    Calls Tryz.prog 69 #[viewV v, .agg #[.int .i64 17, .int .i64 a, .int .i64 b, .string s, .string t, .int .i64 iw.k, .int .i64 iw.n, .string iw.s], .agg #[.int .i64 p, .int .i64 l, .int .i64 c, .slice fa n cap]] w fun e w' => e = .returned (.bool (instrB (ctxOf v.x) l c n ⟨17, a, b, s, t, iw⟩)) ∧ Below w.heap.size w w' := by
  have hb3 := hid (below_3 w (.cells #[.slice v.x.fa v.x.fs.length v.x.fcap, .slice v.x.ga v.x.gs.length v.x.gcap, .slice v.x.ra v.x.rs.length v.x.rcap, .slice v.x.ha v.x.hs.length v.x.hcap, .int .i64 v.lim, finG v.gq, finR v.rq, valF v.vq, .map (some v.pm)] 45) (.cells #[.int .i64 17, .int .i64 a, .int .i64 b, .string s, .string t, .int .i64 iw.k, .int .i64 iw.n, .string iw.s] 89) (.cells #[.int .i64 p, .int .i64 l, .int .i64 c, .slice fa n cap] 63))
  have HR := hid (show instrB (ctxOf v.x) l c n ⟨17, a, b, s, t, iw⟩ = true by unfold instrB; simp)
  clear _hV _hi
  go_enter Tryz.func69, Tryz.ntmps69
  go_wp2_with fail
  go_ret
  exact ⟨ret_bool HR.out.symm, hb3.out⟩
set_option maxHeartbeats 2000000 in
theorem instr_2 (v : Vw) (th : List Th) (a b : Int) (s t : ByteArray) (iw : Wd) (p l c : Int) (fa : Option Addr) (n cap : Nat) (w : World) (_hV : ViewAt w v th) (hi : wfIns ⟨2, a, b, s, t, iw⟩) (_hn : n ≤ 9223372036854775807) :
    Calls Tryz.prog 69 #[viewV v, .agg #[.int .i64 2, .int .i64 a, .int .i64 b, .string s, .string t, .int .i64 iw.k, .int .i64 iw.n, .string iw.s], .agg #[.int .i64 p, .int .i64 l, .int .i64 c, .slice fa n cap]] w fun e w' => e = .returned (.bool (instrB (ctxOf v.x) l c n ⟨2, a, b, s, t, iw⟩)) ∧ Below w.heap.size w w' := by
  have hb3 := hid (below_3 w (.cells #[.slice v.x.fa v.x.fs.length v.x.fcap, .slice v.x.ga v.x.gs.length v.x.gcap, .slice v.x.ra v.x.rs.length v.x.rcap, .slice v.x.ha v.x.hs.length v.x.hcap, .int .i64 v.lim, finG v.gq, finR v.rq, valF v.vq, .map (some v.pm)] 45) (.cells #[.int .i64 2, .int .i64 a, .int .i64 b, .string s, .string t, .int .i64 iw.k, .int .i64 iw.n, .string iw.s] 89) (.cells #[.int .i64 p, .int .i64 l, .int .i64 c, .slice fa n cap] 63))
  have HR := hid (show instrB (ctxOf v.x) l c n ⟨2, a, b, s, t, iw⟩ = plainV iw by unfold instrB; simp)
  have hw := hi.w
  clear _hV hi
  go_enter Tryz.func69, Tryz.ntmps69
  go_wp2_with fail
  have hcall := isPlain_any iw (((w.alloc (.cells #[.slice v.x.fa v.x.fs.length v.x.fcap, .slice v.x.ga v.x.gs.length v.x.gcap, .slice v.x.ra v.x.rs.length v.x.rcap, .slice v.x.ha v.x.hs.length v.x.hcap, .int .i64 v.lim, finG v.gq, finR v.rq, valF v.vq, .map (some v.pm)] 45)).alloc (.cells #[.int .i64 2, .int .i64 a, .int .i64 b, .string s, .string t, .int .i64 iw.k, .int .i64 iw.n, .string iw.s] 89)).alloc (.cells #[.int .i64 p, .int .i64 l, .int .i64 c, .slice fa n cap] 63)) hw
  go_fit hcall
  clear hcall
  rintro e w2 ⟨rfl, hb2⟩
  have hB := hid (hb3.out.trans (hb2.mono hb3.out.size))
  go_wp2_with fail
  go_ret
  exact ⟨ret_bool HR.out.symm, hB.out⟩
set_option maxHeartbeats 2000000 in
theorem instr_3 (v : Vw) (th : List Th) (a b : Int) (s t : ByteArray) (iw : Wd) (p l c : Int) (fa : Option Addr) (n cap : Nat) (w : World) (_hV : ViewAt w v th) (_hi : wfIns ⟨3, a, b, s, t, iw⟩) (_hn : n ≤ 9223372036854775807) :
    Calls Tryz.prog 69 #[viewV v, .agg #[.int .i64 3, .int .i64 a, .int .i64 b, .string s, .string t, .int .i64 iw.k, .int .i64 iw.n, .string iw.s], .agg #[.int .i64 p, .int .i64 l, .int .i64 c, .slice fa n cap]] w fun e w' => e = .returned (.bool (instrB (ctxOf v.x) l c n ⟨3, a, b, s, t, iw⟩)) ∧ Below w.heap.size w w' := by
  have hb3 := hid (below_3 w (.cells #[.slice v.x.fa v.x.fs.length v.x.fcap, .slice v.x.ga v.x.gs.length v.x.gcap, .slice v.x.ra v.x.rs.length v.x.rcap, .slice v.x.ha v.x.hs.length v.x.hcap, .int .i64 v.lim, finG v.gq, finR v.rq, valF v.vq, .map (some v.pm)] 45) (.cells #[.int .i64 3, .int .i64 a, .int .i64 b, .string s, .string t, .int .i64 iw.k, .int .i64 iw.n, .string iw.s] 89) (.cells #[.int .i64 p, .int .i64 l, .int .i64 c, .slice fa n cap] 63))
  have HR := hid (show instrB (ctxOf v.x) l c n ⟨3, a, b, s, t, iw⟩ = belB a l by unfold instrB; simp)
  clear _hV _hi
  go_enter Tryz.func69, Tryz.ntmps69
  go_wp2_with (go_at_call 48; refine (isBelow_any _ _ _).mono ?_; rintro e w' ⟨rfl, rfl⟩)
  go_ret
  exact ⟨ret_bool HR.out.symm, hb3.out⟩
set_option maxHeartbeats 2000000 in
theorem instr_4 (v : Vw) (th : List Th) (a b : Int) (s t : ByteArray) (iw : Wd) (p l c : Int) (fa : Option Addr) (n cap : Nat) (w : World) (_hV : ViewAt w v th) (_hi : wfIns ⟨4, a, b, s, t, iw⟩) (_hn : n ≤ 9223372036854775807) :
    Calls Tryz.prog 69 #[viewV v, .agg #[.int .i64 4, .int .i64 a, .int .i64 b, .string s, .string t, .int .i64 iw.k, .int .i64 iw.n, .string iw.s], .agg #[.int .i64 p, .int .i64 l, .int .i64 c, .slice fa n cap]] w fun e w' => e = .returned (.bool (instrB (ctxOf v.x) l c n ⟨4, a, b, s, t, iw⟩)) ∧ Below w.heap.size w w' := by
  have hb3 := hid (below_3 w (.cells #[.slice v.x.fa v.x.fs.length v.x.fcap, .slice v.x.ga v.x.gs.length v.x.gcap, .slice v.x.ra v.x.rs.length v.x.rcap, .slice v.x.ha v.x.hs.length v.x.hcap, .int .i64 v.lim, finG v.gq, finR v.rq, valF v.vq, .map (some v.pm)] 45) (.cells #[.int .i64 4, .int .i64 a, .int .i64 b, .string s, .string t, .int .i64 iw.k, .int .i64 iw.n, .string iw.s] 89) (.cells #[.int .i64 p, .int .i64 l, .int .i64 c, .slice fa n cap] 63))
  have HR := hid (show instrB (ctxOf v.x) l c n ⟨4, a, b, s, t, iw⟩ = belB a l by unfold instrB; simp)
  clear _hV _hi
  go_enter Tryz.func69, Tryz.ntmps69
  go_wp2_with (go_at_call 48; refine (isBelow_any _ _ _).mono ?_; rintro e w' ⟨rfl, rfl⟩)
  go_ret
  exact ⟨ret_bool HR.out.symm, hb3.out⟩
set_option maxHeartbeats 2000000 in
theorem instr_5 (v : Vw) (th : List Th) (a b : Int) (s t : ByteArray) (iw : Wd) (p l c : Int) (fa : Option Addr) (n cap : Nat) (w : World) (_hV : ViewAt w v th) (_hi : wfIns ⟨5, a, b, s, t, iw⟩) (_hn : n ≤ 9223372036854775807) :
    Calls Tryz.prog 69 #[viewV v, .agg #[.int .i64 5, .int .i64 a, .int .i64 b, .string s, .string t, .int .i64 iw.k, .int .i64 iw.n, .string iw.s], .agg #[.int .i64 p, .int .i64 l, .int .i64 c, .slice fa n cap]] w fun e w' => e = .returned (.bool (instrB (ctxOf v.x) l c n ⟨5, a, b, s, t, iw⟩)) ∧ Below w.heap.size w w' := by
  have hb3 := hid (below_3 w (.cells #[.slice v.x.fa v.x.fs.length v.x.fcap, .slice v.x.ga v.x.gs.length v.x.gcap, .slice v.x.ra v.x.rs.length v.x.rcap, .slice v.x.ha v.x.hs.length v.x.hcap, .int .i64 v.lim, finG v.gq, finR v.rq, valF v.vq, .map (some v.pm)] 45) (.cells #[.int .i64 5, .int .i64 a, .int .i64 b, .string s, .string t, .int .i64 iw.k, .int .i64 iw.n, .string iw.s] 89) (.cells #[.int .i64 p, .int .i64 l, .int .i64 c, .slice fa n cap] 63))
  have HR := hid (show instrB (ctxOf v.x) l c n ⟨5, a, b, s, t, iw⟩ = belB a c by unfold instrB; simp)
  clear _hV _hi
  go_enter Tryz.func69, Tryz.ntmps69
  go_wp2_with (go_at_call 48; refine (isBelow_any _ _ _).mono ?_; rintro e w' ⟨rfl, rfl⟩)
  go_ret
  exact ⟨ret_bool HR.out.symm, hb3.out⟩
set_option maxHeartbeats 2000000 in
theorem instr_12 (v : Vw) (th : List Th) (a b : Int) (s t : ByteArray) (iw : Wd) (p l c : Int) (fa : Option Addr) (n cap : Nat) (w : World) (_hV : ViewAt w v th) (_hi : wfIns ⟨12, a, b, s, t, iw⟩) (_hn : n ≤ 9223372036854775807) :
    Calls Tryz.prog 69 #[viewV v, .agg #[.int .i64 12, .int .i64 a, .int .i64 b, .string s, .string t, .int .i64 iw.k, .int .i64 iw.n, .string iw.s], .agg #[.int .i64 p, .int .i64 l, .int .i64 c, .slice fa n cap]] w fun e w' => e = .returned (.bool (instrB (ctxOf v.x) l c n ⟨12, a, b, s, t, iw⟩)) ∧ Below w.heap.size w w' := by
  have hb3 := hid (below_3 w (.cells #[.slice v.x.fa v.x.fs.length v.x.fcap, .slice v.x.ga v.x.gs.length v.x.gcap, .slice v.x.ra v.x.rs.length v.x.rcap, .slice v.x.ha v.x.hs.length v.x.hcap, .int .i64 v.lim, finG v.gq, finR v.rq, valF v.vq, .map (some v.pm)] 45) (.cells #[.int .i64 12, .int .i64 a, .int .i64 b, .string s, .string t, .int .i64 iw.k, .int .i64 iw.n, .string iw.s] 89) (.cells #[.int .i64 p, .int .i64 l, .int .i64 c, .slice fa n cap] 63))
  have HR := hid (show instrB (ctxOf v.x) l c n ⟨12, a, b, s, t, iw⟩ = belB a 7 by unfold instrB; simp)
  clear _hV _hi
  go_enter Tryz.func69, Tryz.ntmps69
  go_wp2_with (go_at_call 48; refine (isBelow_any _ _ _).mono ?_; rintro e w' ⟨rfl, rfl⟩)
  go_ret
  exact ⟨ret_bool HR.out.symm, hb3.out⟩
set_option maxHeartbeats 2000000 in
theorem instr_13 (v : Vw) (th : List Th) (a b : Int) (s t : ByteArray) (iw : Wd) (p l c : Int) (fa : Option Addr) (n cap : Nat) (w : World) (_hV : ViewAt w v th) (_hi : wfIns ⟨13, a, b, s, t, iw⟩) (_hn : n ≤ 9223372036854775807) :
    Calls Tryz.prog 69 #[viewV v, .agg #[.int .i64 13, .int .i64 a, .int .i64 b, .string s, .string t, .int .i64 iw.k, .int .i64 iw.n, .string iw.s], .agg #[.int .i64 p, .int .i64 l, .int .i64 c, .slice fa n cap]] w fun e w' => e = .returned (.bool (instrB (ctxOf v.x) l c n ⟨13, a, b, s, t, iw⟩)) ∧ Below w.heap.size w w' := by
  have hb3 := hid (below_3 w (.cells #[.slice v.x.fa v.x.fs.length v.x.fcap, .slice v.x.ga v.x.gs.length v.x.gcap, .slice v.x.ra v.x.rs.length v.x.rcap, .slice v.x.ha v.x.hs.length v.x.hcap, .int .i64 v.lim, finG v.gq, finR v.rq, valF v.vq, .map (some v.pm)] 45) (.cells #[.int .i64 13, .int .i64 a, .int .i64 b, .string s, .string t, .int .i64 iw.k, .int .i64 iw.n, .string iw.s] 89) (.cells #[.int .i64 p, .int .i64 l, .int .i64 c, .slice fa n cap] 63))
  have HR := hid (show instrB (ctxOf v.x) l c n ⟨13, a, b, s, t, iw⟩ = belB a 7 by unfold instrB; simp)
  clear _hV _hi
  go_enter Tryz.func69, Tryz.ntmps69
  go_wp2_with (go_at_call 48; refine (isBelow_any _ _ _).mono ?_; rintro e w' ⟨rfl, rfl⟩)
  go_ret
  exact ⟨ret_bool HR.out.symm, hb3.out⟩
set_option maxHeartbeats 2000000 in
theorem instr_15 (v : Vw) (th : List Th) (a b : Int) (s t : ByteArray) (iw : Wd) (p l c : Int) (fa : Option Addr) (n cap : Nat) (w : World) (_hV : ViewAt w v th) (_hi : wfIns ⟨15, a, b, s, t, iw⟩) (_hn : n ≤ 9223372036854775807) :
    Calls Tryz.prog 69 #[viewV v, .agg #[.int .i64 15, .int .i64 a, .int .i64 b, .string s, .string t, .int .i64 iw.k, .int .i64 iw.n, .string iw.s], .agg #[.int .i64 p, .int .i64 l, .int .i64 c, .slice fa n cap]] w fun e w' => e = .returned (.bool (instrB (ctxOf v.x) l c n ⟨15, a, b, s, t, iw⟩)) ∧ Below w.heap.size w w' := by
  have hb3 := hid (below_3 w (.cells #[.slice v.x.fa v.x.fs.length v.x.fcap, .slice v.x.ga v.x.gs.length v.x.gcap, .slice v.x.ra v.x.rs.length v.x.rcap, .slice v.x.ha v.x.hs.length v.x.hcap, .int .i64 v.lim, finG v.gq, finR v.rq, valF v.vq, .map (some v.pm)] 45) (.cells #[.int .i64 15, .int .i64 a, .int .i64 b, .string s, .string t, .int .i64 iw.k, .int .i64 iw.n, .string iw.s] 89) (.cells #[.int .i64 p, .int .i64 l, .int .i64 c, .slice fa n cap] 63))
  have HR := hid (show instrB (ctxOf v.x) l c n ⟨15, a, b, s, t, iw⟩ = belB a n by unfold instrB; simp)
  clear _hV _hi
  go_enter Tryz.func69, Tryz.ntmps69
  go_wp2_with (go_at_call 48; refine (isBelow_any _ _ _).mono ?_; rintro e w' ⟨rfl, rfl⟩)
  go_ret
  exact ⟨ret_bool HR.out.symm, hb3.out⟩
set_option maxHeartbeats 2000000 in
theorem instr_16 (v : Vw) (th : List Th) (a b : Int) (s t : ByteArray) (iw : Wd) (p l c : Int) (fa : Option Addr) (n cap : Nat) (w : World) (_hV : ViewAt w v th) (_hi : wfIns ⟨16, a, b, s, t, iw⟩) (_hn : n ≤ 9223372036854775807) :
    Calls Tryz.prog 69 #[viewV v, .agg #[.int .i64 16, .int .i64 a, .int .i64 b, .string s, .string t, .int .i64 iw.k, .int .i64 iw.n, .string iw.s], .agg #[.int .i64 p, .int .i64 l, .int .i64 c, .slice fa n cap]] w fun e w' => e = .returned (.bool (instrB (ctxOf v.x) l c n ⟨16, a, b, s, t, iw⟩)) ∧ Below w.heap.size w w' := by
  have hb3 := hid (below_3 w (.cells #[.slice v.x.fa v.x.fs.length v.x.fcap, .slice v.x.ga v.x.gs.length v.x.gcap, .slice v.x.ra v.x.rs.length v.x.rcap, .slice v.x.ha v.x.hs.length v.x.hcap, .int .i64 v.lim, finG v.gq, finR v.rq, valF v.vq, .map (some v.pm)] 45) (.cells #[.int .i64 16, .int .i64 a, .int .i64 b, .string s, .string t, .int .i64 iw.k, .int .i64 iw.n, .string iw.s] 89) (.cells #[.int .i64 p, .int .i64 l, .int .i64 c, .slice fa n cap] 63))
  have HR := hid (show instrB (ctxOf v.x) l c n ⟨16, a, b, s, t, iw⟩ = belB a n by unfold instrB; simp)
  clear _hV _hi
  go_enter Tryz.func69, Tryz.ntmps69
  go_wp2_with (go_at_call 48; refine (isBelow_any _ _ _).mono ?_; rintro e w' ⟨rfl, rfl⟩)
  go_ret
  exact ⟨ret_bool HR.out.symm, hb3.out⟩
set_option maxHeartbeats 2000000 in
theorem instr_9 (v : Vw) (th : List Th) (a b : Int) (s t : ByteArray) (iw : Wd) (p l c : Int) (fa : Option Addr) (n cap : Nat) (w : World) (hV : ViewAt w v th) (hi : wfIns ⟨9, a, b, s, t, iw⟩) (_hn : n ≤ 9223372036854775807) :
    Calls Tryz.prog 69 #[viewV v, .agg #[.int .i64 9, .int .i64 a, .int .i64 b, .string s, .string t, .int .i64 iw.k, .int .i64 iw.n, .string iw.s], .agg #[.int .i64 p, .int .i64 l, .int .i64 c, .slice fa n cap]] w fun e w' => e = .returned (.bool (instrB (ctxOf v.x) l c n ⟨9, a, b, s, t, iw⟩)) ∧ Below w.heap.size w w' := by
  have hb3 := hid (below_3 w (.cells #[.slice v.x.fa v.x.fs.length v.x.fcap, .slice v.x.ga v.x.gs.length v.x.gcap, .slice v.x.ra v.x.rs.length v.x.rcap, .slice v.x.ha v.x.hs.length v.x.hcap, .int .i64 v.lim, finG v.gq, finR v.rq, valF v.vq, .map (some v.pm)] 45) (.cells #[.int .i64 9, .int .i64 a, .int .i64 b, .string s, .string t, .int .i64 iw.k, .int .i64 iw.n, .string iw.s] 89) (.cells #[.int .i64 p, .int .i64 l, .int .i64 c, .slice fa n cap] 63))
  have HR := hid (show instrB (ctxOf v.x) l c n ⟨9, a, b, s, t, iw⟩ = hasS (v.x.gs.map Gl.name) s by unfold instrB ctxOf; simp)
  have hs := hi.s
  have hq := hV.gq
  have hcall0 := hid (finG_any v.gq v.gm (v.x.gs.map Gl.name) s (((w.alloc (.cells #[.slice v.x.fa v.x.fs.length v.x.fcap, .slice v.x.ga v.x.gs.length v.x.gcap, .slice v.x.ra v.x.rs.length v.x.rcap, .slice v.x.ha v.x.hs.length v.x.hcap, .int .i64 v.lim, finG v.gq, finR v.rq, valF v.vq, .map (some v.pm)] 45)).alloc (.cells #[.int .i64 9, .int .i64 a, .int .i64 b, .string s, .string t, .int .i64 iw.k, .int .i64 iw.n, .string iw.s] 89)).alloc (.cells #[.int .i64 p, .int .i64 l, .int .i64 c, .slice fa n cap] 63)) hs (Nat.lt_of_lt_of_le hq hb3.out.size) ((hb3.out.cell (p := ⟨v.gq, 0, none⟩) hq).trans hV.gc) (owns_below hV.gm hb3.out))
  clear hV hi
  go_enter Tryz.func69, Tryz.ntmps69
  go_wp2_with fail
  have hcall := hcall0.out
  go_fit hcall
  clear hcall
  rintro e w2 ⟨ci, rfl, _, rfl⟩
  go_wp2_with fail
  go_ret
  exact ⟨ret_bool HR.out.symm, hb3.out⟩
set_option maxHeartbeats 2000000 in
theorem instr_10 (v : Vw) (th : List Th) (a b : Int) (s t : ByteArray) (iw : Wd) (p l c : Int) (fa : Option Addr) (n cap : Nat) (w : World) (hV : ViewAt w v th) (hi : wfIns ⟨10, a, b, s, t, iw⟩) (_hn : n ≤ 9223372036854775807) :
    Calls Tryz.prog 69 #[viewV v, .agg #[.int .i64 10, .int .i64 a, .int .i64 b, .string s, .string t, .int .i64 iw.k, .int .i64 iw.n, .string iw.s], .agg #[.int .i64 p, .int .i64 l, .int .i64 c, .slice fa n cap]] w fun e w' => e = .returned (.bool (instrB (ctxOf v.x) l c n ⟨10, a, b, s, t, iw⟩)) ∧ Below w.heap.size w w' := by
  have hb3 := hid (below_3 w (.cells #[.slice v.x.fa v.x.fs.length v.x.fcap, .slice v.x.ga v.x.gs.length v.x.gcap, .slice v.x.ra v.x.rs.length v.x.rcap, .slice v.x.ha v.x.hs.length v.x.hcap, .int .i64 v.lim, finG v.gq, finR v.rq, valF v.vq, .map (some v.pm)] 45) (.cells #[.int .i64 10, .int .i64 a, .int .i64 b, .string s, .string t, .int .i64 iw.k, .int .i64 iw.n, .string iw.s] 89) (.cells #[.int .i64 p, .int .i64 l, .int .i64 c, .slice fa n cap] 63))
  have HR := hid (show instrB (ctxOf v.x) l c n ⟨10, a, b, s, t, iw⟩ = hasS (v.x.gs.map Gl.name) s by unfold instrB ctxOf; simp)
  have hs := hi.s
  have hq := hV.gq
  have hcall0 := hid (finG_any v.gq v.gm (v.x.gs.map Gl.name) s (((w.alloc (.cells #[.slice v.x.fa v.x.fs.length v.x.fcap, .slice v.x.ga v.x.gs.length v.x.gcap, .slice v.x.ra v.x.rs.length v.x.rcap, .slice v.x.ha v.x.hs.length v.x.hcap, .int .i64 v.lim, finG v.gq, finR v.rq, valF v.vq, .map (some v.pm)] 45)).alloc (.cells #[.int .i64 10, .int .i64 a, .int .i64 b, .string s, .string t, .int .i64 iw.k, .int .i64 iw.n, .string iw.s] 89)).alloc (.cells #[.int .i64 p, .int .i64 l, .int .i64 c, .slice fa n cap] 63)) hs (Nat.lt_of_lt_of_le hq hb3.out.size) ((hb3.out.cell (p := ⟨v.gq, 0, none⟩) hq).trans hV.gc) (owns_below hV.gm hb3.out))
  clear hV hi
  go_enter Tryz.func69, Tryz.ntmps69
  go_wp2_with fail
  have hcall := hcall0.out
  go_fit hcall
  clear hcall
  rintro e w2 ⟨ci, rfl, _, rfl⟩
  go_wp2_with fail
  go_ret
  exact ⟨ret_bool HR.out.symm, hb3.out⟩
set_option maxHeartbeats 2000000 in
theorem instr_20 (v : Vw) (th : List Th) (a b : Int) (s t : ByteArray) (iw : Wd) (p l c : Int) (fa : Option Addr) (n cap : Nat) (w : World) (hV : ViewAt w v th) (hi : wfIns ⟨20, a, b, s, t, iw⟩) (_hn : n ≤ 9223372036854775807) :
    Calls Tryz.prog 69 #[viewV v, .agg #[.int .i64 20, .int .i64 a, .int .i64 b, .string s, .string t, .int .i64 iw.k, .int .i64 iw.n, .string iw.s], .agg #[.int .i64 p, .int .i64 l, .int .i64 c, .slice fa n cap]] w fun e w' => e = .returned (.bool (instrB (ctxOf v.x) l c n ⟨20, a, b, s, t, iw⟩)) ∧ Below w.heap.size w w' := by
  have hb3 := hid (below_3 w (.cells #[.slice v.x.fa v.x.fs.length v.x.fcap, .slice v.x.ga v.x.gs.length v.x.gcap, .slice v.x.ra v.x.rs.length v.x.rcap, .slice v.x.ha v.x.hs.length v.x.hcap, .int .i64 v.lim, finG v.gq, finR v.rq, valF v.vq, .map (some v.pm)] 45) (.cells #[.int .i64 20, .int .i64 a, .int .i64 b, .string s, .string t, .int .i64 iw.k, .int .i64 iw.n, .string iw.s] 89) (.cells #[.int .i64 p, .int .i64 l, .int .i64 c, .slice fa n cap] 63))
  have HR := hid (show instrB (ctxOf v.x) l c n ⟨20, a, b, s, t, iw⟩ = hasS (v.x.rs.map Rc.name) s by unfold instrB ctxOf; simp)
  have hs := hi.s
  have hq := hV.rq
  have hcall0 := hid (finR_any v.rq v.rm (v.x.rs.map Rc.name) s (((w.alloc (.cells #[.slice v.x.fa v.x.fs.length v.x.fcap, .slice v.x.ga v.x.gs.length v.x.gcap, .slice v.x.ra v.x.rs.length v.x.rcap, .slice v.x.ha v.x.hs.length v.x.hcap, .int .i64 v.lim, finG v.gq, finR v.rq, valF v.vq, .map (some v.pm)] 45)).alloc (.cells #[.int .i64 20, .int .i64 a, .int .i64 b, .string s, .string t, .int .i64 iw.k, .int .i64 iw.n, .string iw.s] 89)).alloc (.cells #[.int .i64 p, .int .i64 l, .int .i64 c, .slice fa n cap] 63)) hs (Nat.lt_of_lt_of_le hq hb3.out.size) ((hb3.out.cell (p := ⟨v.rq, 0, none⟩) hq).trans hV.rc) (owns_below hV.rm hb3.out))
  clear hV hi
  go_enter Tryz.func69, Tryz.ntmps69
  go_wp2_with fail
  have hcall := hcall0.out
  go_fit hcall
  clear hcall
  rintro e w2 ⟨ci, rfl, _, rfl⟩
  cases hh : hasS (v.x.rs.map Rc.name) s
  · rw [hh] at HR
    go_wp2_with fail
    go_ret
    exact ⟨ret_bool HR.out.symm, hb3.out⟩
  · rw [hh] at HR
    go_wp2_with fail
    go_ret
    exact ⟨ret_bool HR.out.symm, hb3.out⟩
set_option maxHeartbeats 2000000 in
theorem instr_21 (v : Vw) (th : List Th) (a b : Int) (s t : ByteArray) (iw : Wd) (p l c : Int) (fa : Option Addr) (n cap : Nat) (w : World) (hV : ViewAt w v th) (hi : wfIns ⟨21, a, b, s, t, iw⟩) (_hn : n ≤ 9223372036854775807) :
    Calls Tryz.prog 69 #[viewV v, .agg #[.int .i64 21, .int .i64 a, .int .i64 b, .string s, .string t, .int .i64 iw.k, .int .i64 iw.n, .string iw.s], .agg #[.int .i64 p, .int .i64 l, .int .i64 c, .slice fa n cap]] w fun e w' => e = .returned (.bool (instrB (ctxOf v.x) l c n ⟨21, a, b, s, t, iw⟩)) ∧ Below w.heap.size w w' := by
  have hb3 := hid (below_3 w (.cells #[.slice v.x.fa v.x.fs.length v.x.fcap, .slice v.x.ga v.x.gs.length v.x.gcap, .slice v.x.ra v.x.rs.length v.x.rcap, .slice v.x.ha v.x.hs.length v.x.hcap, .int .i64 v.lim, finG v.gq, finR v.rq, valF v.vq, .map (some v.pm)] 45) (.cells #[.int .i64 21, .int .i64 a, .int .i64 b, .string s, .string t, .int .i64 iw.k, .int .i64 iw.n, .string iw.s] 89) (.cells #[.int .i64 p, .int .i64 l, .int .i64 c, .slice fa n cap] 63))
  have HR := hid (show instrB (ctxOf v.x) l c n ⟨21, a, b, s, t, iw⟩ = hasS (v.x.rs.map Rc.name) s by unfold instrB ctxOf; simp)
  have hs := hi.s
  have hq := hV.rq
  have hcall0 := hid (finR_any v.rq v.rm (v.x.rs.map Rc.name) s (((w.alloc (.cells #[.slice v.x.fa v.x.fs.length v.x.fcap, .slice v.x.ga v.x.gs.length v.x.gcap, .slice v.x.ra v.x.rs.length v.x.rcap, .slice v.x.ha v.x.hs.length v.x.hcap, .int .i64 v.lim, finG v.gq, finR v.rq, valF v.vq, .map (some v.pm)] 45)).alloc (.cells #[.int .i64 21, .int .i64 a, .int .i64 b, .string s, .string t, .int .i64 iw.k, .int .i64 iw.n, .string iw.s] 89)).alloc (.cells #[.int .i64 p, .int .i64 l, .int .i64 c, .slice fa n cap] 63)) hs (Nat.lt_of_lt_of_le hq hb3.out.size) ((hb3.out.cell (p := ⟨v.rq, 0, none⟩) hq).trans hV.rc) (owns_below hV.rm hb3.out))
  clear hV hi
  go_enter Tryz.func69, Tryz.ntmps69
  go_wp2_with fail
  have hcall := hcall0.out
  go_fit hcall
  clear hcall
  rintro e w2 ⟨ci, rfl, _, rfl⟩
  cases hh : hasS (v.x.rs.map Rc.name) s
  · rw [hh] at HR
    go_wp2_with fail
    go_ret
    exact ⟨ret_bool HR.out.symm, hb3.out⟩
  · rw [hh] at HR
    go_wp2_with fail
    go_ret
    exact ⟨ret_bool HR.out.symm, hb3.out⟩
set_option maxHeartbeats 2000000 in
theorem instr_22 (v : Vw) (th : List Th) (a b : Int) (s t : ByteArray) (iw : Wd) (p l c : Int) (fa : Option Addr) (n cap : Nat) (w : World) (hV : ViewAt w v th) (hi : wfIns ⟨22, a, b, s, t, iw⟩) (_hn : n ≤ 9223372036854775807) :
    Calls Tryz.prog 69 #[viewV v, .agg #[.int .i64 22, .int .i64 a, .int .i64 b, .string s, .string t, .int .i64 iw.k, .int .i64 iw.n, .string iw.s], .agg #[.int .i64 p, .int .i64 l, .int .i64 c, .slice fa n cap]] w fun e w' => e = .returned (.bool (instrB (ctxOf v.x) l c n ⟨22, a, b, s, t, iw⟩)) ∧ Below w.heap.size w w' := by
  have hb3 := hid (below_3 w (.cells #[.slice v.x.fa v.x.fs.length v.x.fcap, .slice v.x.ga v.x.gs.length v.x.gcap, .slice v.x.ra v.x.rs.length v.x.rcap, .slice v.x.ha v.x.hs.length v.x.hcap, .int .i64 v.lim, finG v.gq, finR v.rq, valF v.vq, .map (some v.pm)] 45) (.cells #[.int .i64 22, .int .i64 a, .int .i64 b, .string s, .string t, .int .i64 iw.k, .int .i64 iw.n, .string iw.s] 89) (.cells #[.int .i64 p, .int .i64 l, .int .i64 c, .slice fa n cap] 63))
  have HR := hid (show instrB (ctxOf v.x) l c n ⟨22, a, b, s, t, iw⟩ = hasS (v.x.rs.map Rc.name) s by unfold instrB ctxOf; simp)
  have hs := hi.s
  have hq := hV.rq
  have hcall0 := hid (finR_any v.rq v.rm (v.x.rs.map Rc.name) s (((w.alloc (.cells #[.slice v.x.fa v.x.fs.length v.x.fcap, .slice v.x.ga v.x.gs.length v.x.gcap, .slice v.x.ra v.x.rs.length v.x.rcap, .slice v.x.ha v.x.hs.length v.x.hcap, .int .i64 v.lim, finG v.gq, finR v.rq, valF v.vq, .map (some v.pm)] 45)).alloc (.cells #[.int .i64 22, .int .i64 a, .int .i64 b, .string s, .string t, .int .i64 iw.k, .int .i64 iw.n, .string iw.s] 89)).alloc (.cells #[.int .i64 p, .int .i64 l, .int .i64 c, .slice fa n cap] 63)) hs (Nat.lt_of_lt_of_le hq hb3.out.size) ((hb3.out.cell (p := ⟨v.rq, 0, none⟩) hq).trans hV.rc) (owns_below hV.rm hb3.out))
  clear hV hi
  go_enter Tryz.func69, Tryz.ntmps69
  go_wp2_with fail
  have hcall := hcall0.out
  go_fit hcall
  clear hcall
  rintro e w2 ⟨ci, rfl, _, rfl⟩
  cases hh : hasS (v.x.rs.map Rc.name) s
  · rw [hh] at HR
    go_wp2_with fail
    go_ret
    exact ⟨ret_bool HR.out.symm, hb3.out⟩
  · rw [hh] at HR
    go_wp2_with fail
    go_ret
    exact ⟨ret_bool HR.out.symm, hb3.out⟩
set_option maxHeartbeats 2000000 in
theorem instr_19 (v : Vw) (th : List Th) (a b : Int) (s t : ByteArray) (iw : Wd) (p l c : Int) (fa : Option Addr) (n cap : Nat) (w : World) (hV : ViewAt w v th) (hi : wfIns ⟨19, a, b, s, t, iw⟩) (_hn : n ≤ 9223372036854775807) :
    Calls Tryz.prog 69 #[viewV v, .agg #[.int .i64 19, .int .i64 a, .int .i64 b, .string s, .string t, .int .i64 iw.k, .int .i64 iw.n, .string iw.s], .agg #[.int .i64 p, .int .i64 l, .int .i64 c, .slice fa n cap]] w fun e w' => e = .returned (.bool (instrB (ctxOf v.x) l c n ⟨19, a, b, s, t, iw⟩)) ∧ Below w.heap.size w w' := by
  have hb3 := hid (below_3 w (.cells #[.slice v.x.fa v.x.fs.length v.x.fcap, .slice v.x.ga v.x.gs.length v.x.gcap, .slice v.x.ra v.x.rs.length v.x.rcap, .slice v.x.ha v.x.hs.length v.x.hcap, .int .i64 v.lim, finG v.gq, finR v.rq, valF v.vq, .map (some v.pm)] 45) (.cells #[.int .i64 19, .int .i64 a, .int .i64 b, .string s, .string t, .int .i64 iw.k, .int .i64 iw.n, .string iw.s] 89) (.cells #[.int .i64 p, .int .i64 l, .int .i64 c, .slice fa n cap] 63))
  have HR := hid (show instrB (ctxOf v.x) l c n ⟨19, a, b, s, t, iw⟩ = (hasS (v.x.rs.map Rc.name) s && belB a 7) by unfold instrB ctxOf; simp)
  have hs := hi.s
  have hq := hV.rq
  have hcall0 := hid (finR_any v.rq v.rm (v.x.rs.map Rc.name) s (((w.alloc (.cells #[.slice v.x.fa v.x.fs.length v.x.fcap, .slice v.x.ga v.x.gs.length v.x.gcap, .slice v.x.ra v.x.rs.length v.x.rcap, .slice v.x.ha v.x.hs.length v.x.hcap, .int .i64 v.lim, finG v.gq, finR v.rq, valF v.vq, .map (some v.pm)] 45)).alloc (.cells #[.int .i64 19, .int .i64 a, .int .i64 b, .string s, .string t, .int .i64 iw.k, .int .i64 iw.n, .string iw.s] 89)).alloc (.cells #[.int .i64 p, .int .i64 l, .int .i64 c, .slice fa n cap] 63)) hs (Nat.lt_of_lt_of_le hq hb3.out.size) ((hb3.out.cell (p := ⟨v.rq, 0, none⟩) hq).trans hV.rc) (owns_below hV.rm hb3.out))
  clear hV hi
  go_enter Tryz.func69, Tryz.ntmps69
  go_wp2_with fail
  have hcall := hcall0.out
  go_fit hcall
  clear hcall
  rintro e w2 ⟨ci, rfl, _, rfl⟩
  cases hh : hasS (v.x.rs.map Rc.name) s
  · rw [hh] at HR
    go_wp2_with fail
    go_ret
    exact ⟨ret_bool HR.out.symm, hb3.out⟩
  · rw [hh] at HR
    go_wp2_with (go_at_call 48; refine (isBelow_any _ _ _).mono ?_; rintro e w' ⟨rfl, rfl⟩)
    go_ret
    exact ⟨ret_bool HR.out.symm, hb3.out⟩
set_option maxHeartbeats 2000000 in
theorem instr_18 (v : Vw) (th : List Th) (a b : Int) (s t : ByteArray) (iw : Wd) (p l c : Int) (fa : Option Addr) (n cap : Nat) (w : World) (hV : ViewAt w v th) (hi : wfIns ⟨18, a, b, s, t, iw⟩) (_hn : n ≤ 9223372036854775807) :
    Calls Tryz.prog 69 #[viewV v, .agg #[.int .i64 18, .int .i64 a, .int .i64 b, .string s, .string t, .int .i64 iw.k, .int .i64 iw.n, .string iw.s], .agg #[.int .i64 p, .int .i64 l, .int .i64 c, .slice fa n cap]] w fun e w' => e = .returned (.bool (instrB (ctxOf v.x) l c n ⟨18, a, b, s, t, iw⟩)) ∧ Below w.heap.size w w' := by
  have hb3 := hid (below_3 w (.cells #[.slice v.x.fa v.x.fs.length v.x.fcap, .slice v.x.ga v.x.gs.length v.x.gcap, .slice v.x.ra v.x.rs.length v.x.rcap, .slice v.x.ha v.x.hs.length v.x.hcap, .int .i64 v.lim, finG v.gq, finR v.rq, valF v.vq, .map (some v.pm)] 45) (.cells #[.int .i64 18, .int .i64 a, .int .i64 b, .string s, .string t, .int .i64 iw.k, .int .i64 iw.n, .string iw.s] 89) (.cells #[.int .i64 p, .int .i64 l, .int .i64 c, .slice fa n cap] 63))
  have HR := hid (show instrB (ctxOf v.x) l c n ⟨18, a, b, s, t, iw⟩ = (decide (¬ UU.valOf prims s.data.toList = 0) && decide (a = UU.valOf prims s.data.toList)) by unfold instrB; simp)
  have hs := hi.s
  have hrun := OwnsP.look2 (w := (((w.alloc (.cells #[.slice v.x.fa v.x.fs.length v.x.fcap, .slice v.x.ga v.x.gs.length v.x.gcap, .slice v.x.ra v.x.rs.length v.x.rcap, .slice v.x.ha v.x.hs.length v.x.hcap, .int .i64 v.lim, finG v.gq, finR v.rq, valF v.vq, .map (some v.pm)] 45)).alloc (.cells #[.int .i64 18, .int .i64 a, .int .i64 b, .string s, .string t, .int .i64 iw.k, .int .i64 iw.n, .string iw.s] 89)).alloc (.cells #[.int .i64 p, .int .i64 l, .int .i64 c, .slice fa n cap] 63))) (owns_below hV.pm hb3.out) hs
  clear hV hi
  generalize (prmOf primL s.data.toList).1 = wh at hrun
  generalize UU.valOf prims s.data.toList = vl at hrun HR
  by_cases h0 : vl = 0
  · subst h0
    rw [show (decide (¬ (0 : Int) = 0)) = false by decide] at hrun
    have HR2 := hid (show instrB (ctxOf v.x) l c n ⟨18, a, b, s, t, iw⟩ = false by rw [HR.out]; simp)
    clear HR
    go_enter Tryz.func69, Tryz.ntmps69
    go_wp2_with fail
    go_ret
    exact ⟨ret_bool HR2.out.symm, hb3.out.alloc hb3.out.size _⟩
  · rw [show (decide (¬ vl = 0)) = true by simp [h0]] at hrun
    have HR2 := hid (show instrB (ctxOf v.x) l c n ⟨18, a, b, s, t, iw⟩ = decide (a = vl) by rw [HR.out]; simp [h0])
    clear HR h0
    go_enter Tryz.func69, Tryz.ntmps69
    go_wp2_with fail
    go_ret
    exact ⟨ret_bool (by rw [HR2.out]; rfl), hb3.out.alloc hb3.out.size _⟩
set_option maxHeartbeats 2000000 in
theorem instr_11 (v : Vw) (th : List Th) (a b : Int) (s t : ByteArray) (iw : Wd) (p l c : Int) (fa : Option Addr) (n cap : Nat) (w : World) (hV : ViewAt w v th) (hi : wfIns ⟨11, a, b, s, t, iw⟩) (_hn : n ≤ 9223372036854775807) :
    Calls Tryz.prog 69 #[viewV v, .agg #[.int .i64 11, .int .i64 a, .int .i64 b, .string s, .string t, .int .i64 iw.k, .int .i64 iw.n, .string iw.s], .agg #[.int .i64 p, .int .i64 l, .int .i64 c, .slice fa n cap]] w fun e w' => e = .returned (.bool (instrB (ctxOf v.x) l c n ⟨11, a, b, s, t, iw⟩)) ∧ Below w.heap.size w w' := by
  have hb3 := hid (below_3 w (.cells #[.slice v.x.fa v.x.fs.length v.x.fcap, .slice v.x.ga v.x.gs.length v.x.gcap, .slice v.x.ra v.x.rs.length v.x.rcap, .slice v.x.ha v.x.hs.length v.x.hcap, .int .i64 v.lim, finG v.gq, finR v.rq, valF v.vq, .map (some v.pm)] 45) (.cells #[.int .i64 11, .int .i64 a, .int .i64 b, .string s, .string t, .int .i64 iw.k, .int .i64 iw.n, .string iw.s] 89) (.cells #[.int .i64 p, .int .i64 l, .int .i64 c, .slice fa n cap] 63))
  have HR := hid (show instrB (ctxOf v.x) l c n ⟨11, a, b, s, t, iw⟩ = (belB a v.x.fs.length && decide (b = (v.x.fs.map VV.Fn.c).getD a.toNat 0)) by unfold instrB ctxOf; simp)
  have hfs : v.x.fs.length ≤ 9223372036854775807 := by have := hV.big.f; omega
  by_cases hin : 0 ≤ a ∧ a < v.x.fs.length
  · obtain ⟨j, rfl⟩ := Int.eq_ofNat_of_zero_le hin.1
    have hj : j < v.x.fs.length := by omega
    have hbl : belB (j : Int) v.x.fs.length = true := by unfold belB; simp [hj]
    obtain ⟨q, o, hq, hqB, x0, x1, d2, x3⟩ := fn_at hV.sub.f hj
    have HR2 := hid (show instrB (ctxOf v.x) l c n ⟨11, (j : Int), b, s, t, iw⟩ = decide (b = (v.x.fs[j]'hj).c) by rw [HR.out, hbl, Int.toNat_natCast, List.getD_eq_getElem?_getD, List.getElem?_map, List.getElem?_eq_getElem hj]; rfl)
    generalize (v.x.fs[j]'hj).c = fc at d2 HR2
    obtain ⟨w3, hw3⟩ : ∃ w3, w3 = (((w.alloc (.cells #[.slice v.x.fa v.x.fs.length v.x.fcap, .slice v.x.ga v.x.gs.length v.x.gcap, .slice v.x.ra v.x.rs.length v.x.rcap, .slice v.x.ha v.x.hs.length v.x.hcap, .int .i64 v.lim, finG v.gq, finR v.rq, valF v.vq, .map (some v.pm)] 45)).alloc (.cells #[.int .i64 11, .int .i64 (j : Int), .int .i64 b, .string s, .string t, .int .i64 iw.k, .int .i64 iw.n, .string iw.s] 89)).alloc (.cells #[.int .i64 p, .int .i64 l, .int .i64 c, .slice fa n cap] 63)) := ⟨_, rfl⟩
    have HB3 := hid (show Below w.heap.size w w3 by rw [hw3]; exact hb3.out)
    have k0 : w3.cell? ⟨w.heap.size, 0, none⟩ = some (.slice v.x.fa v.x.fs.length v.x.fcap) ∧ w3.cell? ⟨w.heap.size + 1, 1, none⟩ = some (.int .i64 (j : Int)) ∧ w3.cell? ⟨w.heap.size + 1, 2, none⟩ = some (.int .i64 b) := by
      rw [hw3]; refine ⟨?_, ?_, ?_⟩ <;> go_simp
    obtain ⟨k0, k1, k2⟩ := k0
    have H3 := hid hw3
    have k3 := (HB3.out.cell (p := ⟨q, o + j * 4 + 2, none⟩) hqB).trans d2
    rw [hq] at k0
    clear hq x0 x1 x3 hw3 hV hi hin HR d2
    go_enter Tryz.func69, Tryz.ntmps69
    go_wp2_with fail
    rw [← H3.out]
    refine wp_region_invA (fun _ w' => w' = w3.drew) (fun _ w' w'' => w'' = w') (fun i vv w' => match i with
      | 0 => vv = .pointer (some ⟨w.heap.size + 1, 1, none⟩)
      | 1 => vv = .int .i64 (j : Int)
      | 2 => vv = .pointer (some ⟨w.heap.size, 0, none⟩)
      | 3 => vv = .pointer (some ⟨w.heap.size, 0, none⟩)
      | 4 => vv = .slice (some ⟨q, o, none⟩) v.x.fs.length v.x.fcap
      | 5 => vv = .int .i64 (v.x.fs.length : Int)
      | 6 => vv = .bool true
      | 7 => vv = .bool true
      | 8 => vv = .pointer (some ⟨w.heap.size + 1, 2, none⟩)
      | 9 => vv = .int .i64 b
      | 10 => vv = .pointer (some ⟨w.heap.size, 0, none⟩)
      | 11 => vv = .pointer (some ⟨w.heap.size, 0, none⟩)
      | 12 => vv = .slice (some ⟨q, o, none⟩) v.x.fs.length v.x.fcap
      | 13 => vv = .pointer (some ⟨w.heap.size + 1, 1, none⟩)
      | 14 => vv = .int .i64 (j : Int)
      | 15 => vv = .pointer (some ⟨q, o + j * 4, none⟩)
      | 16 => vv = .pointer (some ⟨q, o + j * 4 + 2, none⟩)
      | 17 => vv = .int .i64 fc
      | 18 => vv = .bool (decide (b = fc))
      | 19 => vv = .bool (decide (b = fc))
      | 20 => vv = .bool (decide (b = fc))
      | _ => True) (by kernel_rfl) (by kernel_rfl) rfl ?hmono ⟨?o0, ?o1, ?o2, ?o3, ?o4, ?o5, ?o6, ?o7, ?o8, ?o9, ?o10, ?o11, ?o12, ?o13, ?o14, ?o15, ?o16, ?o17, ?o18, ?o19, ?o20, trivial⟩ ?hend
    case o0 =>
      intro dn a w' _ hS hF K hK
      obtain rfl := hS
      have h4 := hF.out 4 (by kernel_rfl) rfl
      rw [if_pos (by kernel_rfl)]
      go_simp
      exact hK _ _ _ rfl rfl rfl rfl
    case o1 =>
      intro dn a w' _ hS hF K hK
      obtain rfl := hS
      obtain ⟨v56, h56, rfl⟩ := hF.val 0 56 (by kernel_rfl) (by kernel_rfl)
      rw [if_pos (by kernel_rfl)]
      go_simp
      exact hK _ _ _ rfl rfl rfl rfl
    case o2 =>
      intro dn a w' _ hS hF K hK
      obtain rfl := hS
      have h3 := hF.out 3 (by kernel_rfl) rfl
      rw [if_pos (by kernel_rfl)]
      go_simp
      exact hK _ _ _ rfl rfl rfl rfl
    case o3 =>
      intro dn a w' _ hS hF K hK
      obtain rfl := hS
      obtain ⟨v58, h58, rfl⟩ := hF.val 2 58 (by kernel_rfl) (by kernel_rfl)
      rw [if_pos (by kernel_rfl)]
      go_simp
      exact hK _ _ _ rfl rfl rfl rfl
    case o4 =>
      intro dn a w' _ hS hF K hK
      obtain rfl := hS
      obtain ⟨v59, h59, rfl⟩ := hF.val 3 59 (by kernel_rfl) (by kernel_rfl)
      rw [if_pos (by kernel_rfl)]
      go_simp
      exact hK _ _ _ rfl rfl rfl rfl
    case o5 =>
      intro dn a w' _ hS hF K hK
      obtain rfl := hS
      obtain ⟨v60, h60, rfl⟩ := hF.val 4 60 (by kernel_rfl) (by kernel_rfl)
      rw [if_pos (by kernel_rfl)]
      go_simp
      exact hK _ _ _ rfl rfl rfl rfl
    case o6 =>
      intro dn a w' _ hS hF K hK
      obtain rfl := hS
      obtain ⟨v57, h57, rfl⟩ := hF.val 1 57 (by kernel_rfl) (by kernel_rfl)
      obtain ⟨v61, h61, rfl⟩ := hF.val 5 61 (by kernel_rfl) (by kernel_rfl)
      rw [if_pos (by kernel_rfl)]
      go_simp
      refine (isBelow_is hbl _).mono ?_
      rintro e w'' ⟨rfl, rfl⟩
      exact hK _ _ _ rfl rfl rfl rfl
    case o7 =>
      intro dn a w' _ hS hF K hK
      obtain rfl := hS
      obtain ⟨v62, h62, rfl⟩ := hF.val 6 62 (by kernel_rfl) (by kernel_rfl)
      rw [if_pos (by kernel_rfl)]
      go_simp
      exact hK _ _ _ rfl rfl rfl rfl
    case o8 =>
      intro dn a w' _ hS hF K hK
      obtain rfl := hS
      have h4 := hF.out 4 (by kernel_rfl) rfl
      obtain ⟨v63, h63, rfl⟩ := hF.val 7 63 (by kernel_rfl) (by kernel_rfl)
      rw [if_pos (wanted_yes 7 rfl (by kernel_rfl) h63)]
      go_simp
      exact hK _ _ _ rfl rfl rfl rfl
    case o9 =>
      intro dn a w' _ hS hF K hK
      obtain rfl := hS
      obtain ⟨v64, h64, rfl⟩ := hF.val 8 64 (by kernel_rfl) (by kernel_rfl)
      obtain ⟨v63, h63, rfl⟩ := hF.val 7 63 (by kernel_rfl) (by kernel_rfl)
      rw [if_pos (wanted_yes 7 rfl (by kernel_rfl) h63)]
      go_simp
      exact hK _ _ _ rfl rfl rfl rfl
    case o10 =>
      intro dn a w' _ hS hF K hK
      obtain rfl := hS
      have h3 := hF.out 3 (by kernel_rfl) rfl
      obtain ⟨v63, h63, rfl⟩ := hF.val 7 63 (by kernel_rfl) (by kernel_rfl)
      rw [if_pos (wanted_yes 7 rfl (by kernel_rfl) h63)]
      go_simp
      exact hK _ _ _ rfl rfl rfl rfl
    case o11 =>
      intro dn a w' _ hS hF K hK
      obtain rfl := hS
      obtain ⟨v66, h66, rfl⟩ := hF.val 10 66 (by kernel_rfl) (by kernel_rfl)
      obtain ⟨v63, h63, rfl⟩ := hF.val 7 63 (by kernel_rfl) (by kernel_rfl)
      rw [if_pos (wanted_yes 7 rfl (by kernel_rfl) h63)]
      go_simp
      exact hK _ _ _ rfl rfl rfl rfl
    case o12 =>
      intro dn a w' _ hS hF K hK
      obtain rfl := hS
      obtain ⟨v67, h67, rfl⟩ := hF.val 11 67 (by kernel_rfl) (by kernel_rfl)
      obtain ⟨v63, h63, rfl⟩ := hF.val 7 63 (by kernel_rfl) (by kernel_rfl)
      rw [if_pos (wanted_yes 7 rfl (by kernel_rfl) h63)]
      go_simp
      exact hK _ _ _ rfl rfl rfl rfl
    case o13 =>
      intro dn a w' _ hS hF K hK
      obtain rfl := hS
      have h4 := hF.out 4 (by kernel_rfl) rfl
      obtain ⟨v63, h63, rfl⟩ := hF.val 7 63 (by kernel_rfl) (by kernel_rfl)
      rw [if_pos (wanted_yes 7 rfl (by kernel_rfl) h63)]
      go_simp
      exact hK _ _ _ rfl rfl rfl rfl
    case o14 =>
      intro dn a w' _ hS hF K hK
      obtain rfl := hS
      obtain ⟨v69, h69, rfl⟩ := hF.val 13 69 (by kernel_rfl) (by kernel_rfl)
      obtain ⟨v63, h63, rfl⟩ := hF.val 7 63 (by kernel_rfl) (by kernel_rfl)
      rw [if_pos (wanted_yes 7 rfl (by kernel_rfl) h63)]
      go_simp
      exact hK _ _ _ rfl rfl rfl rfl
    case o15 =>
      intro dn a w' _ hS hF K hK
      obtain rfl := hS
      obtain ⟨v68, h68, rfl⟩ := hF.val 12 68 (by kernel_rfl) (by kernel_rfl)
      obtain ⟨v70, h70, rfl⟩ := hF.val 14 70 (by kernel_rfl) (by kernel_rfl)
      obtain ⟨v63, h63, rfl⟩ := hF.val 7 63 (by kernel_rfl) (by kernel_rfl)
      rw [if_pos (wanted_yes 7 rfl (by kernel_rfl) h63)]
      go_simp
      exact hK _ _ _ rfl rfl rfl rfl
    case o16 =>
      intro dn a w' _ hS hF K hK
      obtain rfl := hS
      obtain ⟨v71, h71, rfl⟩ := hF.val 15 71 (by kernel_rfl) (by kernel_rfl)
      obtain ⟨v63, h63, rfl⟩ := hF.val 7 63 (by kernel_rfl) (by kernel_rfl)
      rw [if_pos (wanted_yes 7 rfl (by kernel_rfl) h63)]
      go_simp
      exact hK _ _ _ rfl rfl rfl rfl
    case o17 =>
      intro dn a w' _ hS hF K hK
      obtain rfl := hS
      obtain ⟨v72, h72, rfl⟩ := hF.val 16 72 (by kernel_rfl) (by kernel_rfl)
      obtain ⟨v63, h63, rfl⟩ := hF.val 7 63 (by kernel_rfl) (by kernel_rfl)
      rw [if_pos (wanted_yes 7 rfl (by kernel_rfl) h63)]
      go_simp
      exact hK _ _ _ rfl rfl rfl rfl
    case o18 =>
      intro dn a w' _ hS hF K hK
      obtain rfl := hS
      obtain ⟨v65, h65, rfl⟩ := hF.val 9 65 (by kernel_rfl) (by kernel_rfl)
      obtain ⟨v73, h73, rfl⟩ := hF.val 17 73 (by kernel_rfl) (by kernel_rfl)
      obtain ⟨v63, h63, rfl⟩ := hF.val 7 63 (by kernel_rfl) (by kernel_rfl)
      rw [if_pos (wanted_yes 7 rfl (by kernel_rfl) h63)]
      go_simp
      exact hK _ _ _ rfl rfl rfl rfl
    case o19 =>
      intro dn a w' _ hS hF K hK
      obtain rfl := hS
      obtain ⟨v63, h63, rfl⟩ := hF.val 7 63 (by kernel_rfl) (by kernel_rfl)
      obtain ⟨v74, h74, rfl⟩ := hF.val 18 74 (by kernel_rfl) (by kernel_rfl)
      rw [if_pos (by kernel_rfl)]
      go_simp
      exact hK _ _ _ rfl rfl rfl rfl
    case o20 =>
      intro dn a w' _ hS hF K hK
      obtain rfl := hS
      obtain ⟨v75, h75, rfl⟩ := hF.val 19 75 (by kernel_rfl) (by kernel_rfl)
      rw [if_pos (by kernel_rfl)]
      go_simp
      exact hK _ _ _ rfl rfl rfl rfl
    case hmono =>
      intro i j v w1 w2 _ _ _ _ _ hv _
      exact hv
    case hend =>
      intro dn w5 vs hS hv
      obtain rfl := hS
      have hvL : vs 20 = .bool (decide (b = fc)) := hv 20 (by decide)
      clear hv
      simp only [putsL, Nat.reduceAdd, Act.put, List.setIfInBounds_toArray, List.set_cons_zero, List.set_cons_succ, hvL]
      go_wp2
      go_ret
      exact ⟨ret_bool HR2.out.symm, bdrew HB3.out 1⟩
  · have hf : belB a v.x.fs.length = false := by rw [Bool.eq_false_iff]; intro e; unfold belB at e; simp only [Bool.and_eq_true, decide_eq_true_eq] at e; exact hin e
    have HR2 := hid (show instrB (ctxOf v.x) l c n ⟨11, a, b, s, t, iw⟩ = false by rw [HR.out, hf]; rfl)
    obtain ⟨w3, hw3⟩ : ∃ w3, w3 = (((w.alloc (.cells #[.slice v.x.fa v.x.fs.length v.x.fcap, .slice v.x.ga v.x.gs.length v.x.gcap, .slice v.x.ra v.x.rs.length v.x.rcap, .slice v.x.ha v.x.hs.length v.x.hcap, .int .i64 v.lim, finG v.gq, finR v.rq, valF v.vq, .map (some v.pm)] 45)).alloc (.cells #[.int .i64 11, .int .i64 a, .int .i64 b, .string s, .string t, .int .i64 iw.k, .int .i64 iw.n, .string iw.s] 89)).alloc (.cells #[.int .i64 p, .int .i64 l, .int .i64 c, .slice fa n cap] 63)) := ⟨_, rfl⟩
    have HB3 := hid (show Below w.heap.size w w3 by rw [hw3]; exact hb3.out)
    have k0 : w3.cell? ⟨w.heap.size, 0, none⟩ = some (.slice v.x.fa v.x.fs.length v.x.fcap) ∧ w3.cell? ⟨w.heap.size + 1, 1, none⟩ = some (.int .i64 a) ∧ w3.cell? ⟨w.heap.size + 1, 2, none⟩ = some (.int .i64 b) := by
      rw [hw3]; refine ⟨?_, ?_, ?_⟩ <;> go_simp
    obtain ⟨k0, k1, k2⟩ := k0
    have H3 := hid hw3
    clear hw3 hV hi hin HR
    go_enter Tryz.func69, Tryz.ntmps69
    go_wp2_with fail
    rw [← H3.out]
    refine wp_region_invA (fun _ w' => w' = w3.drew) (fun _ w' w'' => w'' = w') (fun i vv w' => match i with
      | 0 => vv = .pointer (some ⟨w.heap.size + 1, 1, none⟩)
      | 1 => vv = .int .i64 a
      | 2 => vv = .pointer (some ⟨w.heap.size, 0, none⟩)
      | 3 => vv = .pointer (some ⟨w.heap.size, 0, none⟩)
      | 4 => vv = .slice v.x.fa v.x.fs.length v.x.fcap
      | 5 => vv = .int .i64 (v.x.fs.length : Int)
      | 6 => vv = .bool false
      | 7 => vv = .bool false
      | 8 => vv = undef
      | 9 => vv = undef
      | 10 => vv = undef
      | 11 => vv = undef
      | 12 => vv = undef
      | 13 => vv = undef
      | 14 => vv = undef
      | 15 => vv = undef
      | 16 => vv = undef
      | 17 => vv = undef
      | 18 => vv = undef
      | 19 => vv = .bool false
      | 20 => vv = .bool false
      | _ => True) (by kernel_rfl) (by kernel_rfl) rfl ?hmono ⟨?o0, ?o1, ?o2, ?o3, ?o4, ?o5, ?o6, ?o7, ?o8, ?o9, ?o10, ?o11, ?o12, ?o13, ?o14, ?o15, ?o16, ?o17, ?o18, ?o19, ?o20, trivial⟩ ?hend
    case o0 =>
      intro dn a w' _ hS hF K hK
      obtain rfl := hS
      have h4 := hF.out 4 (by kernel_rfl) rfl
      rw [if_pos (by kernel_rfl)]
      go_simp
      exact hK _ _ _ rfl rfl rfl rfl
    case o1 =>
      intro dn a w' _ hS hF K hK
      obtain rfl := hS
      obtain ⟨v56, h56, rfl⟩ := hF.val 0 56 (by kernel_rfl) (by kernel_rfl)
      rw [if_pos (by kernel_rfl)]
      go_simp
      exact hK _ _ _ rfl rfl rfl rfl
    case o2 =>
      intro dn a w' _ hS hF K hK
      obtain rfl := hS
      have h3 := hF.out 3 (by kernel_rfl) rfl
      rw [if_pos (by kernel_rfl)]
      go_simp
      exact hK _ _ _ rfl rfl rfl rfl
    case o3 =>
      intro dn a w' _ hS hF K hK
      obtain rfl := hS
      obtain ⟨v58, h58, rfl⟩ := hF.val 2 58 (by kernel_rfl) (by kernel_rfl)
      rw [if_pos (by kernel_rfl)]
      go_simp
      exact hK _ _ _ rfl rfl rfl rfl
    case o4 =>
      intro dn a w' _ hS hF K hK
      obtain rfl := hS
      obtain ⟨v59, h59, rfl⟩ := hF.val 3 59 (by kernel_rfl) (by kernel_rfl)
      rw [if_pos (by kernel_rfl)]
      go_simp
      exact hK _ _ _ rfl rfl rfl rfl
    case o5 =>
      intro dn a w' _ hS hF K hK
      obtain rfl := hS
      obtain ⟨v60, h60, rfl⟩ := hF.val 4 60 (by kernel_rfl) (by kernel_rfl)
      rw [if_pos (by kernel_rfl)]
      go_simp
      exact hK _ _ _ rfl rfl rfl rfl
    case o6 =>
      intro dn a w' _ hS hF K hK
      obtain rfl := hS
      obtain ⟨v57, h57, rfl⟩ := hF.val 1 57 (by kernel_rfl) (by kernel_rfl)
      obtain ⟨v61, h61, rfl⟩ := hF.val 5 61 (by kernel_rfl) (by kernel_rfl)
      rw [if_pos (by kernel_rfl)]
      go_simp
      refine (isBelow_is hf _).mono ?_
      rintro e w'' ⟨rfl, rfl⟩
      exact hK _ _ _ rfl rfl rfl rfl
    case o7 =>
      intro dn a w' _ hS hF K hK
      obtain rfl := hS
      obtain ⟨v62, h62, rfl⟩ := hF.val 6 62 (by kernel_rfl) (by kernel_rfl)
      rw [if_pos (by kernel_rfl)]
      go_simp
      exact hK _ _ _ rfl rfl rfl rfl
    case o8 =>
      intro dn a w' _ hS hF K hK
      obtain rfl := hS
      obtain ⟨v63, h63, rfl⟩ := hF.val 7 63 (by kernel_rfl) (by kernel_rfl)
      rw [if_neg (by rw [wanted_no 7 rfl (by kernel_rfl) h63]; decide)]
      exact hK _ _ _ rfl rfl rfl rfl
    case o9 =>
      intro dn a w' _ hS hF K hK
      obtain rfl := hS
      obtain ⟨v63, h63, rfl⟩ := hF.val 7 63 (by kernel_rfl) (by kernel_rfl)
      rw [if_neg (by rw [wanted_no 7 rfl (by kernel_rfl) h63]; decide)]
      exact hK _ _ _ rfl rfl rfl rfl
    case o10 =>
      intro dn a w' _ hS hF K hK
      obtain rfl := hS
      obtain ⟨v63, h63, rfl⟩ := hF.val 7 63 (by kernel_rfl) (by kernel_rfl)
      rw [if_neg (by rw [wanted_no 7 rfl (by kernel_rfl) h63]; decide)]
      exact hK _ _ _ rfl rfl rfl rfl
    case o11 =>
      intro dn a w' _ hS hF K hK
      obtain rfl := hS
      obtain ⟨v63, h63, rfl⟩ := hF.val 7 63 (by kernel_rfl) (by kernel_rfl)
      rw [if_neg (by rw [wanted_no 7 rfl (by kernel_rfl) h63]; decide)]
      exact hK _ _ _ rfl rfl rfl rfl
    case o12 =>
      intro dn a w' _ hS hF K hK
      obtain rfl := hS
      obtain ⟨v63, h63, rfl⟩ := hF.val 7 63 (by kernel_rfl) (by kernel_rfl)
      rw [if_neg (by rw [wanted_no 7 rfl (by kernel_rfl) h63]; decide)]
      exact hK _ _ _ rfl rfl rfl rfl
    case o13 =>
      intro dn a w' _ hS hF K hK
      obtain rfl := hS
      obtain ⟨v63, h63, rfl⟩ := hF.val 7 63 (by kernel_rfl) (by kernel_rfl)
      rw [if_neg (by rw [wanted_no 7 rfl (by kernel_rfl) h63]; decide)]
      exact hK _ _ _ rfl rfl rfl rfl
    case o14 =>
      intro dn a w' _ hS hF K hK
      obtain rfl := hS
      obtain ⟨v63, h63, rfl⟩ := hF.val 7 63 (by kernel_rfl) (by kernel_rfl)
      rw [if_neg (by rw [wanted_no 7 rfl (by kernel_rfl) h63]; decide)]
      exact hK _ _ _ rfl rfl rfl rfl
    case o15 =>
      intro dn a w' _ hS hF K hK
      obtain rfl := hS
      obtain ⟨v63, h63, rfl⟩ := hF.val 7 63 (by kernel_rfl) (by kernel_rfl)
      rw [if_neg (by rw [wanted_no 7 rfl (by kernel_rfl) h63]; decide)]
      exact hK _ _ _ rfl rfl rfl rfl
    case o16 =>
      intro dn a w' _ hS hF K hK
      obtain rfl := hS
      obtain ⟨v63, h63, rfl⟩ := hF.val 7 63 (by kernel_rfl) (by kernel_rfl)
      rw [if_neg (by rw [wanted_no 7 rfl (by kernel_rfl) h63]; decide)]
      exact hK _ _ _ rfl rfl rfl rfl
    case o17 =>
      intro dn a w' _ hS hF K hK
      obtain rfl := hS
      obtain ⟨v63, h63, rfl⟩ := hF.val 7 63 (by kernel_rfl) (by kernel_rfl)
      rw [if_neg (by rw [wanted_no 7 rfl (by kernel_rfl) h63]; decide)]
      exact hK _ _ _ rfl rfl rfl rfl
    case o18 =>
      intro dn a w' _ hS hF K hK
      obtain rfl := hS
      obtain ⟨v63, h63, rfl⟩ := hF.val 7 63 (by kernel_rfl) (by kernel_rfl)
      rw [if_neg (by rw [wanted_no 7 rfl (by kernel_rfl) h63]; decide)]
      exact hK _ _ _ rfl rfl rfl rfl
    case o19 =>
      intro dn a w' _ hS hF K hK
      obtain rfl := hS
      obtain ⟨v63, h63, rfl⟩ := hF.val 7 63 (by kernel_rfl) (by kernel_rfl)
      obtain ⟨v74, h74, rfl⟩ := hF.val 18 74 (by kernel_rfl) (by kernel_rfl)
      rw [if_pos (by kernel_rfl)]
      go_simp
      exact hK _ _ _ rfl rfl rfl rfl
    case o20 =>
      intro dn a w' _ hS hF K hK
      obtain rfl := hS
      obtain ⟨v75, h75, rfl⟩ := hF.val 19 75 (by kernel_rfl) (by kernel_rfl)
      rw [if_pos (by kernel_rfl)]
      go_simp
      exact hK _ _ _ rfl rfl rfl rfl
    case hmono =>
      intro i j v w1 w2 _ _ _ _ _ hv _
      exact hv
    case hend =>
      intro dn w5 vs hS hv
      obtain rfl := hS
      have hvL : vs 20 = .bool false := hv 20 (by decide)
      clear hv
      simp only [putsL, Nat.reduceAdd, Act.put, List.setIfInBounds_toArray, List.set_cons_zero, List.set_cons_succ, hvL]
      go_wp2
      go_ret
      exact ⟨ret_bool HR2.out.symm, bdrew HB3.out 1⟩
set_option maxHeartbeats 2000000 in
theorem instr_other (v : Vw) (th : List Th) (op a b : Int) (s t : ByteArray) (iw : Wd) (p l c : Int) (fa : Option Addr) (n cap : Nat) (w : World) (_hV : ViewAt w v th) (_hi : wfIns ⟨op, a, b, s, t, iw⟩) (_hn : n ≤ 9223372036854775807) (ho : ¬ (1 ≤ op ∧ op ≤ 22)) :
    Calls Tryz.prog 69 #[viewV v, .agg #[.int .i64 op, .int .i64 a, .int .i64 b, .string s, .string t, .int .i64 iw.k, .int .i64 iw.n, .string iw.s], .agg #[.int .i64 p, .int .i64 l, .int .i64 c, .slice fa n cap]] w fun e w' => e = .returned (.bool (instrB (ctxOf v.x) l c n ⟨op, a, b, s, t, iw⟩)) ∧ Below w.heap.size w w' := by
  have hb3 := hid (below_3 w (.cells #[.slice v.x.fa v.x.fs.length v.x.fcap, .slice v.x.ga v.x.gs.length v.x.gcap, .slice v.x.ra v.x.rs.length v.x.rcap, .slice v.x.ha v.x.hs.length v.x.hcap, .int .i64 v.lim, finG v.gq, finR v.rq, valF v.vq, .map (some v.pm)] 45) (.cells #[.int .i64 op, .int .i64 a, .int .i64 b, .string s, .string t, .int .i64 iw.k, .int .i64 iw.n, .string iw.s] 89) (.cells #[.int .i64 p, .int .i64 l, .int .i64 c, .slice fa n cap] 63))
  have HR := hid (show instrB (ctxOf v.x) l c n ⟨op, a, b, s, t, iw⟩ = false by
    cases e : instrB (ctxOf v.x) l c n ⟨op, a, b, s, t, iw⟩
    · rfl
    · exact absurd (instrB_op e) ho)
  have n1 : (op == 1) = false := by simp; omega
  have n2 : (op == 2) = false := by simp; omega
  have n3 : (op == 3) = false := by simp; omega
  have n4 : (op == 4) = false := by simp; omega
  have n5 : (op == 5) = false := by simp; omega
  have n6 : (op == 6) = false := by simp; omega
  have n7 : (op == 7) = false := by simp; omega
  have n8 : (op == 8) = false := by simp; omega
  have n9 : (op == 9) = false := by simp; omega
  have n10 : (op == 10) = false := by simp; omega
  have n11 : (op == 11) = false := by simp; omega
  have n12 : (op == 12) = false := by simp; omega
  have n13 : (op == 13) = false := by simp; omega
  have n14 : (op == 14) = false := by simp; omega
  have n15 : (op == 15) = false := by simp; omega
  have n16 : (op == 16) = false := by simp; omega
  have n17 : (op == 17) = false := by simp; omega
  have n18 : (op == 18) = false := by simp; omega
  have n19 : (op == 19) = false := by simp; omega
  have n20 : (op == 20) = false := by simp; omega
  have n21 : (op == 21) = false := by simp; omega
  have n22 : (op == 22) = false := by simp; omega
  clear _hV _hi ho
  go_enter Tryz.func69, Tryz.ntmps69
  go_wp2_with fail
  go_ret
  exact ⟨ret_bool HR.out.symm, hb3.out⟩
/-- May an instruction be. -/
theorem mayBeInstr_any (v : Vw) (th : List Th) (op a b : Int) (s t : ByteArray) (iw : Wd) (p l c : Int) (fa : Option Addr) (n cap : Nat) (w : World) (hV : ViewAt w v th) (hi : wfIns ⟨op, a, b, s, t, iw⟩) (hn : n ≤ 9223372036854775807) :
    Calls Tryz.prog 69 #[viewV v, .agg #[.int .i64 op, .int .i64 a, .int .i64 b, .string s, .string t, .int .i64 iw.k, .int .i64 iw.n, .string iw.s], .agg #[.int .i64 p, .int .i64 l, .int .i64 c, .slice fa n cap]] w fun e w' => e = .returned (.bool (instrB (ctxOf v.x) l c n ⟨op, a, b, s, t, iw⟩)) ∧ Below w.heap.size w w' := by
  by_cases ho : 1 ≤ op ∧ op ≤ 22
  · have hcase : op = 1 ∨ op = 2 ∨ op = 3 ∨ op = 4 ∨ op = 5 ∨ op = 6 ∨ op = 7 ∨ op = 8 ∨ op = 9 ∨ op = 10 ∨ op = 11 ∨ op = 12 ∨ op = 13 ∨ op = 14 ∨ op = 15 ∨ op = 16 ∨ op = 17 ∨ op = 18 ∨ op = 19 ∨ op = 20 ∨ op = 21 ∨ op = 22 := by omega
    rcases hcase with rfl | rfl | rfl | rfl | rfl | rfl | rfl | rfl | rfl | rfl | rfl | rfl | rfl | rfl | rfl | rfl | rfl | rfl | rfl | rfl | rfl | rfl
    · exact instr_1 v th a b s t iw p l c fa n cap w hV hi hn
    · exact instr_2 v th a b s t iw p l c fa n cap w hV hi hn
    · exact instr_3 v th a b s t iw p l c fa n cap w hV hi hn
    · exact instr_4 v th a b s t iw p l c fa n cap w hV hi hn
    · exact instr_5 v th a b s t iw p l c fa n cap w hV hi hn
    · exact instr_6 v th a b s t iw p l c fa n cap w hV hi hn
    · exact instr_7 v th a b s t iw p l c fa n cap w hV hi hn
    · exact instr_8 v th a b s t iw p l c fa n cap w hV hi hn
    · exact instr_9 v th a b s t iw p l c fa n cap w hV hi hn
    · exact instr_10 v th a b s t iw p l c fa n cap w hV hi hn
    · exact instr_11 v th a b s t iw p l c fa n cap w hV hi hn
    · exact instr_12 v th a b s t iw p l c fa n cap w hV hi hn
    · exact instr_13 v th a b s t iw p l c fa n cap w hV hi hn
    · exact instr_14 v th a b s t iw p l c fa n cap w hV hi hn
    · exact instr_15 v th a b s t iw p l c fa n cap w hV hi hn
    · exact instr_16 v th a b s t iw p l c fa n cap w hV hi hn
    · exact instr_17 v th a b s t iw p l c fa n cap w hV hi hn
    · exact instr_18 v th a b s t iw p l c fa n cap w hV hi hn
    · exact instr_19 v th a b s t iw p l c fa n cap w hV hi hn
    · exact instr_20 v th a b s t iw p l c fa n cap w hV hi hn
    · exact instr_21 v th a b s t iw p l c fa n cap w hV hi hn
    · exact instr_22 v th a b s t iw p l c fa n cap w hV hi hn
  · exact instr_other v th op a b s t iw p l c fa n cap w hV hi hn ho
end Go.Proofs.YtldmanfgmadbfaaGreatDoor
