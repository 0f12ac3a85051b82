/- May a function be: the document's funcMay. (Written by wip/tools/mkdfunc.py.) -/
import Derived.Test.YtldmanfgmadbfaaGreatDoorR04
import Derived.Test.YtldmanfgmadbfaaGreatDoorQ13
import Derived.Deep.AppendLies
import Derived.Maps.AppendAt
namespace Go.Proofs.YtldmanfgmadbfaaGreatDoor
set_option maxRecDepth 100000
open HH UU VV
open Go.RowKit Go.Maps Go.WideMaps
theorem head_doc (p l k : Int) (code : List Ins) : headB p l k code = (inB p 0 6 && inB l p 40 && inB k 0 40 && inB (code.length : Int) 1 6000 && decide ((code.map Ins.op).getD 0 0 = 1)) := by
 unfold headB inB belB
 rw [Bool.eq_iff_iff]
 simp only [Bool.and_eq_true, decide_eq_true_eq]
 omega
theorem func_no {c : Ctx} {x : VV.Fn} (h : headB x.p x.l x.c x.code = false) : funcD c x = false := by unfold funcD; rw [h]; simp
theorem come_far {ds : List Int} {m n : Nat} {t h : Int} (hn : ds.length = n) (hi : inB t ((m : Int) + 1) ((n : Int) - 1) = false) : comeD ds m t h = none := by
 unfold comeD; rw [hn, if_pos hi]
theorem come_other {ds : List Int} {m n j : Nat} {h : Int} (_hn : ds.length = n) (hj : j < ds.length) (h0 : ¬ ds[j] = 0) (h1 : ¬ ds[j] = h) : comeD ds m (j : Int) h = none := by
 unfold comeD
 by_cases hi : inB (j : Int) ((m : Int) + 1) ((ds.length : Int) - 1) = false
 ·
  rw [if_pos hi]
 ·
  rw [if_neg hi, Int.toNat_natCast, getD_at hj, if_pos ⟨h0, h1⟩]
theorem come_yes {ds : List Int} {m n j : Nat} {h : Int} (hn : ds.length = n) (hj : j < ds.length) (hi : inB (j : Int) ((m : Int) + 1) ((n : Int) - 1) = true) (h0 : ds[j] = 0 ∨ ds[j] = h) : comeD ds m (j : Int) h = some (ds.set j h) := by
 unfold comeD
 rw [hn, if_neg (by rw [hi]; decide), Int.toNat_natCast, getD_at hj, if_neg (by rcases h0 with e | e <;> simp [e])]
theorem all_none {k : Nat} {h t : Int} {ds r : List Int} (e : comeD ds k t h = none) : allD k h ds (t :: r) = none := by
 show (comeD ds k t h).bind _ = none
 rw [e]; rfl
theorem all_some {k : Nat} {h t : Int} {ds ds' r : List Int} (e : comeD ds k t h = some ds') : allD k h ds (t :: r) = allD k h ds' r := by
 show (comeD ds k t h).bind _ = _
 rw [e]; rfl
theorem step_low {ds : List Int} {m : Nat} {i : Ins} {d t l q1 hh q2 : Int} (hd : ds.getD m 0 = d) (_ht : takeD i = t) (_hl : leaveD i = l) (_h1 : IntKind.i64.wrap (d - t) = q1) (_h2 : IntKind.i64.wrap (q1 + l) = hh) (h3 : IntKind.i64.wrap (d - 1) = q2) (h : q2 < t) : stepD ds m i = none := by
 unfold stepD; rw [hd, h3, _ht, if_pos (Or.inl h)]
theorem step_high {ds : List Int} {m : Nat} {i : Ins} {d t l q1 hh q3 : Int} (hd : ds.getD m 0 = d) (ht : takeD i = t) (hl : leaveD i = l) (h1 : IntKind.i64.wrap (d - t) = q1) (h2 : IntKind.i64.wrap (q1 + l) = hh) (h3 : IntKind.i64.wrap (hh - 1) = q3) (h : 6000 < q3) : stepD ds m i = none := by
 unfold stepD leftD; rw [hd, ht, hl, h1, h2, h3, if_pos (Or.inr h)]
theorem step_on {ds : List Int} {m : Nat} {i : Ins} {d t l q1 hh q2 q3 : Int} {ns : List Int} (hd : ds.getD m 0 = d) (ht : takeD i = t) (hl : leaveD i = l) (h1 : IntKind.i64.wrap (d - t) = q1) (h2 : IntKind.i64.wrap (q1 + l) = hh) (h3 : IntKind.i64.wrap (d - 1) = q2) (h4 : IntKind.i64.wrap (hh - 1) = q3) (hA : ¬ q2 < t) (hB : ¬ 6000 < q3) (hns : nextD m i = ns) : stepD ds m i = allD m hh ds ns := by
 unfold stepD leftD; rw [hd, ht, hl, h1, h2, h3, h4, hns, if_neg (by omega)]
theorem next_cell {w : World} {B g c n : Nat} {ns : List Int} (h : w.ownsRow B 3 1 (.slice (some ⟨g, 0, none⟩) n c) n (ns.map (Value.int .i64))) {k : Nat} (hk : k < ns.length) : B ≤ g ∧ g < w.heap.size ∧ w.cell? ⟨g, k, none⟩ = some (.int .i64 ns[k]) := by
 have hlen := h.1
 have hlt := ownsRow_lt' h
 rcases h.2 with ⟨h', _⟩ | ⟨g', cap, cur, hv, _, hc, _, _, hcs, hcut⟩
 ·
  cases h'
 ·
  injection hv with e1 e2 e3
  injection e1 with e1
  injection e1 with e1
  subst e1 e3
  refine ⟨hlt.1, hlt.2, ?_⟩
  have hkn : k < n := by simpa using (by simpa using hlen : ns.length = n) ▸ hk
  have h1 : (cur.toList.take (n * 1))[k]? = some (.int .i64 ns[k]) := by rw [hcut, List.getElem?_map, List.getElem?_eq_getElem hk]; rfl
  rw [List.getElem?_take_of_lt (by omega)] at h1
  simp only [World.cell?, hc]; simpa using h1
set_option maxRecDepth 1000000 in
set_option maxHeartbeats 16000000 in
theorem funcMay_aux (x : Wv) (lim p l c : Int) (adr : Option Addr) (n cap : Nat) (code : List Ins) (w : World) (hn : code.length = n) (hS : subW w (fun b => b < w.heap.size) x) (hb : bigW x) (hF : subF w (fun b => b < w.heap.size) ⟨p, l, c, adr, cap, code⟩) (hbig : bigF ⟨p, l, c, adr, cap, code⟩) (hw : wfFn ⟨p, l, c, adr, cap, code⟩) :
  Calls Tryz.prog 18 #[.agg #[.slice x.fa x.fs.length x.fcap, .slice x.ga x.gs.length x.gcap, .slice x.ra x.rs.length x.rcap, .slice x.ha x.hs.length x.hcap, .int .i64 lim], .agg #[.int .i64 p, .int .i64 l, .int .i64 c, .slice adr n cap]] w fun e w' => e = .returned (.bool (funcD (ctxOf x) ⟨p, l, c, adr, cap, code⟩)) ∧ Below w.heap.size w w' := by
 have hn0 : n ≤ 9223372036854775807 := by have : code.length * 88 ≤ 140737488355328 := hbig; omega
 obtain ⟨w2, hw2⟩ : ∃ w2, w2 = (w.alloc (.cells #[.slice x.fa x.fs.length x.fcap, .slice x.ga x.gs.length x.gcap, .slice x.ra x.rs.length x.rcap, .slice x.ha x.hs.length x.hcap, .int .i64 lim] 29)).alloc (.cells #[.int .i64 p, .int .i64 l, .int .i64 c, .slice adr n cap] 63) := ⟨_, rfl⟩
 have hb2 : Hid (Below w.heap.size w ((w.alloc (.cells #[.slice x.fa x.fs.length x.fcap, .slice x.ga x.gs.length x.gcap, .slice x.ra x.rs.length x.rcap, .slice x.ha x.hs.length x.hcap, .int .i64 lim] 29)).alloc (.cells #[.int .i64 p, .int .i64 l, .int .i64 c, .slice adr n cap] 63))) := hid (below_2 _ _ _)
 have hsp := head_doc p l c code
 rw [hn] at hsp
 have HF := hid hF
 have HS := hid hS
 have HBg := hid hb
 have HX := hid hw
 have HN := hid hn
 have H2 := hid hw2
 clear hF hS hb hw hbig hw2
 cases h1 : inB p 0 6
 case false =>
  have HR := hid (show funcD (ctxOf x) ⟨p, l, c, adr, cap, code⟩ = false from func_no (by dsimp only; rw [hsp, h1]; simp))
  clear hsp
  go_enter Tryz.func18, Tryz.ntmps18
  go_wp2_with (go_at_call 31; refine (HH.In_any _ _ _ _).mono ?_; rintro e w' ⟨rfl, rfl⟩; first | rw [h1])
  go_ret
  exact ⟨ret_bool HR.out.symm, hb2.out⟩
 cases h2 : inB l p 40
 case false =>
  have HR := hid (show funcD (ctxOf x) ⟨p, l, c, adr, cap, code⟩ = false from func_no (by dsimp only; rw [hsp, h1, h2]; simp))
  clear hsp
  go_enter Tryz.func18, Tryz.ntmps18
  go_wp2_with (go_at_call 31; refine (HH.In_any _ _ _ _).mono ?_; rintro e w' ⟨rfl, rfl⟩; first | rw [h1] | rw [h2])
  go_ret
  exact ⟨ret_bool HR.out.symm, hb2.out⟩
 cases h3 : inB c 0 40
 case false =>
  have HR := hid (show funcD (ctxOf x) ⟨p, l, c, adr, cap, code⟩ = false from func_no (by dsimp only; rw [hsp, h1, h2, h3]; simp))
  clear hsp
  go_enter Tryz.func18, Tryz.ntmps18
  go_wp2_with (go_at_call 31; refine (HH.In_any _ _ _ _).mono ?_; rintro e w' ⟨rfl, rfl⟩; first | rw [h1] | rw [h2] | rw [h3])
  go_ret
  exact ⟨ret_bool HR.out.symm, hb2.out⟩
 cases h4 : inB (n : Int) 1 6000
 case false =>
  have HR := hid (show funcD (ctxOf x) ⟨p, l, c, adr, cap, code⟩ = false from func_no (by dsimp only; rw [hsp, h1, h2, h3, h4]; simp))
  clear hsp
  go_enter Tryz.func18, Tryz.ntmps18
  go_wp2_with (go_at_call 31; refine (HH.In_any _ _ _ _).mono ?_; rintro e w' ⟨rfl, rfl⟩; first | rw [h1] | rw [h2] | rw [h3] | rw [h4])
  go_ret
  exact ⟨ret_bool HR.out.symm, hb2.out⟩
 have hlen : 1 ≤ n ∧ n ≤ 6000 := by have h4 := h4; unfold inB at h4; simp only [Bool.and_eq_true, decide_eq_true_eq] at h4; omega
 have hge : (code.map Ins.op).getD 0 0 = (code[0]'(by omega)).op := by rw [List.getD_eq_getElem?_getD, List.getElem?_map, List.getElem?_eq_getElem (by omega : 0 < code.length)]; rfl
 obtain ⟨b0, o0, ha, hb0, j0, hrest⟩ := ins_at (i := 0) HF.out (by omega : 0 < code.length)
 clear hrest
 have ha : adr = some ⟨b0, o0, none⟩ := ha
 subst ha
 have hb0 : b0 < w.heap.size := hb0
 have hl0 : (0 : Int) < n := by omega
 rw [Nat.zero_mul, Nat.add_zero] at j0
 by_cases h5 : (code[0]'(by omega)).op = 1
 case neg =>
  have HR := hid (show funcD (ctxOf x) ⟨p, l, c, some ⟨b0, o0, none⟩, cap, code⟩ = false from func_no (by dsimp only; rw [hsp, h1, h2, h3, h4, hge]; simp [h5]))
  generalize (code[0]'(by omega)).op = op0 at j0 h5
  have h5b : (op0 != 1) = true := by simp [h5]
  clear hsp hge hn
  go_enter Tryz.func18, Tryz.ntmps18
  go_wp2_with (go_at_call 31; refine (HH.In_any _ _ _ _).mono ?_; rintro e w' ⟨rfl, rfl⟩; first | rw [h1] | rw [h2] | rw [h3] | rw [h4])
  go_ret
  exact ⟨ret_bool HR.out.symm, hb2.out⟩
 have HFin := hid (show ∀ r, flowD (instrB (ctxOf x) l c n) (startD n) 0 code = r → funcD (ctxOf x) ⟨p, l, c, some ⟨b0, o0, none⟩, cap, code⟩ = r from by
  intro r h
  unfold funcD
  dsimp only
  rw [HN.out, h, hsp, h1, h2, h3, h4, hge]
  simp [h5])
 have hl40 : 0 ≤ l ∧ l ≤ 40 := by
  have h1 := h1
  have h2 := h2
  unfold inB at h1 h2; simp only [Bool.and_eq_true, decide_eq_true_eq] at h1 h2; omega
 have hc40 : 0 ≤ c ∧ c ≤ 40 := by
  have h3 := h3
  unfold inB at h3; simp only [Bool.and_eq_true, decide_eq_true_eq] at h3; omega
 rw [h5] at j0
 obtain ⟨i0, hi, iz0, iz1, iz2⟩ := info_parts infoInt
 have HIn := hid hi
 have HZ0 := hid iz0
 have HZ1 := hid iz1
 have HZ2 := hid iz2
 clear hi iz0 iz1 iz2 hsp hge h5 hn
 have hw1 : IntKind.i64.wrap ((n : Int) - 1) = (n : Int) - 1 := wrap_small (by omega) (by omega)
 have hz2 : w2.heap.size = w.heap.size + 2 := by rw [H2.out]; simp
 have HB2 := hid (show Below w.heap.size w w2 from by rw [H2.out]; exact hb2.out)
 have kk : w2.cell? ⟨w.heap.size, 0, none⟩ = some (.slice x.fa x.fs.length x.fcap) ∧ w2.cell? ⟨w.heap.size, 1, none⟩ = some (.slice x.ga x.gs.length x.gcap) ∧ w2.cell? ⟨w.heap.size, 2, none⟩ = some (.slice x.ra x.rs.length x.rcap) ∧ w2.cell? ⟨w.heap.size, 3, none⟩ = some (.slice x.ha x.hs.length x.hcap) ∧ w2.cell? ⟨w.heap.size, 4, none⟩ = some (.int .i64 lim) ∧
   w2.cell? ⟨w.heap.size + 1, 0, none⟩ = some (.int .i64 p) ∧ w2.cell? ⟨w.heap.size + 1, 1, none⟩ = some (.int .i64 l) ∧ w2.cell? ⟨w.heap.size + 1, 2, none⟩ = some (.int .i64 c) ∧ w2.cell? ⟨w.heap.size + 1, 3, none⟩ = some (.slice (some ⟨b0, o0, none⟩) n cap) := by
  rw [H2.out]; refine ⟨?_, ?_, ?_, ?_, ?_, ?_, ?_, ?_, ?_⟩ <;> go_simp
 have KK := hid kk
 clear kk hb2
 go_enter Tryz.func18, Tryz.ntmps18
 go_wp2_with (first | (go_at_call 31; refine (HH.In_any _ _ _ _).mono ?_; rintro e w' ⟨rfl, rfl⟩; first | rw [h1] | rw [h2] | rw [h3] | rw [h4]) | (at_make; rw [← H2.out]; refine wpList_make_full _ rfl _ _ 86 rfl w2.heap.size 3 i0 (.int .i64 0) 1 Tryz.underlying86 HIn.out HZ0.out HZ1.out _ _ _ _ n rfl rfl rfl rfl (by rw [HZ2.out]; omega) (by unfold maxLen; omega) (Nat.le_refl _) ?_; intro w3 hown hgrow; have hb3 : Below w2.heap.size w2 w3 := (Below.refl _ _).grown hgrow (Nat.le_refl _) (fun k e => by cases e); have hh3 := hgt_made hown; have hlt3 := (ownsRow_lt' hown).2; rw [hz2] at hb3 hh3 hlt3; have HH3 := hid hh3; have HB3 := hid hb3; obtain ⟨q0, q1⟩ := hh3 0 (by simp; omega); generalize (List.replicate n (0 : Int))[0]'(_) = z at q0; clear hown hgrow hb3 hh3))
 obtain ⟨w4, hw4⟩ : ∃ w4, w4 = w3.setCell ⟨(w.heap.size + 2), 0, none⟩ (.int .i64 1) := ⟨_, rfl⟩
 rw [← hw4]
 have hz4 : w4.heap.size = w3.heap.size := by rw [hw4]; simp
 have HH4 := hid (show Hgt w4 (w.heap.size + 2) (startD n) from by rw [hw4]; exact HH3.out.set 0 1 (by simp; omega))
 have HB24 := hid (show Below (w.heap.size + 2) w2 w4 from by rw [hw4]; exact HB3.out.setCell (p := ⟨(w.heap.size + 2), 0, none⟩) (Nat.le_refl _) _)
 have HB4 := hid (HB2.out.trans (HB24.out.mono (by omega)))
 obtain ⟨k0, k1, k2, k3, k4, f0, f1, f2, f3⟩ := KK.out
 have k0 := (HB24.out.cell (p := ⟨w.heap.size, 0, none⟩) (by dsimp only; omega)).trans k0
 have k1 := (HB24.out.cell (p := ⟨w.heap.size, 1, none⟩) (by dsimp only; omega)).trans k1
 have k2 := (HB24.out.cell (p := ⟨w.heap.size, 2, none⟩) (by dsimp only; omega)).trans k2
 have k3 := (HB24.out.cell (p := ⟨w.heap.size, 3, none⟩) (by dsimp only; omega)).trans k3
 have k4 := (HB24.out.cell (p := ⟨w.heap.size, 4, none⟩) (by dsimp only; omega)).trans k4
 have f0 := (HB24.out.cell (p := ⟨w.heap.size + 1, 0, none⟩) (by dsimp only; omega)).trans f0
 have f1 := (HB24.out.cell (p := ⟨w.heap.size + 1, 1, none⟩) (by dsimp only; omega)).trans f1
 have f2 := (HB24.out.cell (p := ⟨w.heap.size + 1, 2, none⟩) (by dsimp only; omega)).trans f2
 have f3 := (HB24.out.cell (p := ⟨w.heap.size + 1, 3, none⟩) (by dsimp only; omega)).trans f3
 have CC := hid (And.intro k0 (And.intro k1 (And.intro k2 (And.intro k3 (And.intro k4 (And.intro f0 (And.intro f1 (And.intro f2 f3))))))))
 clear hw4 KK HH3 HB3 j0 k0 k1 k2 k3 k4 f0 f1 f2 f3
 have hg4 : (w.heap.size + 2) < w4.heap.size := by omega
 clear hz2
 generalize hgb : w.heap.size + 2 = g at *
 go_loopw [7] (fun i wr => ∃ (m : Nat) (ds : List Int), m ≤ n ∧ i = .int .i64 m ∧ ds.length = n ∧ Hgt wr g ds ∧ KpB w4.heap.size g w4 wr ∧ flowD (instrB (ctxOf x) l c n) (startD n) 0 code = flowD (instrB (ctxOf x) l c n) ds m (code.drop m)) (fun i _ => n - (intOf i).toNat)
 case atStart => exact ⟨0, startD n, Nat.zero_le _, rfl, by unfold startD; simp, HH4.out, KpB.refl _ _ _, rfl⟩
 case round =>
  obtain ⟨m, ds, hm, rfl, hdl, hH, hkp, hfl⟩ := hrel
  have HFl := hid hfl
  have HHr := hid hH
  have HKr := hid hkp
  have hzr : w4.heap.size ≤ wr.heap.size := hkp.size
  have hzw : w.heap.size < wr.heap.size := by omega
  have hzx : w.heap.size + 1 < wr.heap.size := by omega
  have HBr := hid (HB4.out.trans (hkp.below (B := w.heap.size) (by omega) (by omega)))
  obtain ⟨k0, k1, k2, k3, k4, f0, f1, f2, f3⟩ := CC.out
  have k0 := (hkp.cell (b := w.heap.size) (o := 0) (by omega) (by omega)).trans k0
  have k1 := (hkp.cell (b := w.heap.size) (o := 1) (by omega) (by omega)).trans k1
  have k2 := (hkp.cell (b := w.heap.size) (o := 2) (by omega) (by omega)).trans k2
  have k3 := (hkp.cell (b := w.heap.size) (o := 3) (by omega) (by omega)).trans k3
  have k4 := (hkp.cell (b := w.heap.size) (o := 4) (by omega) (by omega)).trans k4
  have f0 := (hkp.cell (b := w.heap.size + 1) (o := 0) (by omega) (by omega)).trans f0
  have f1 := (hkp.cell (b := w.heap.size + 1) (o := 1) (by omega) (by omega)).trans f1
  have f2 := (hkp.cell (b := w.heap.size + 1) (o := 2) (by omega) (by omega)).trans f2
  have f3 := (hkp.cell (b := w.heap.size + 1) (o := 3) (by omega) (by omega)).trans f3
  clear hfl hH hkp
  by_cases hlt : m < n
  case neg =>
   have hlt2 : ¬ (m : Int) < n := by omega
   have HR := hid (HFin.out true (by rw [HFl.out, show m = n by omega, List.drop_of_length_le (by rw [HN.out]; exact Nat.le_refl _)]; rfl))
   go_wp2
   go_ret
   exact ⟨ret_bool HR.out.symm, HBr.out⟩
  case pos =>
   have hlt2 : (m : Int) < n := by omega
   have hw0 : IntKind.i64.wrap ((m : Int) + 1) = (m : Int) + 1 := wrap_small (by omega) (by omega)
   have hmc : m < code.length := by rw [HN.out]; exact hlt
   obtain ⟨b, o, hq, hbB, j0, j1, j2, j3, j4, j5, j6, j7⟩ := ins_at (Cs.below HF.out HBr.out HBr.out.size) (i := m) hmc
   injection hq with hq
   injection hq with hq1 hq2
   subst hq1 hq2
   have HI0 := hid (HX.out.code _ (List.getElem_mem hmc))
   have hdr : code.drop m = code[m] :: code.drop (m + 1) := List.drop_eq_getElem_cons hmc
   generalize code[m]'hmc = ii at j0 j1 j2 j3 j4 j5 j6 j7 HI0 hdr
   obtain ⟨op, ia, ib, is, it, iw⟩ := ii
   dsimp only at j0 j1 j2 j3 j4 j5 j6 j7
   have HDr := hid hdr
   have hmd : m < ds.length := by omega
   have hgd := getD_at hmd
   have HDs := hid hgd
   generalize (ds[m]'hmd) = h0 at hgd HDs
   have hba : Below wr.heap.size wr (wr.alloc (.cells #[.int .i64 op, .int .i64 ia, .int .i64 ib, .string is, .string it, .int .i64 iw.k, .int .i64 iw.n, .string iw.s] 89)) := (Below.refl _ _).alloc (Nat.le_refl _) _
   have hBa := HBr.out.trans (hba.mono HBr.out.size)
   have HSa := hid (subW_keep HS.out (fun b hb' => hBa.block b hb') (fun _ hb' => Nat.lt_of_lt_of_le hb' hBa.size))
   have HBa := hid hBa
   have HKa := hid (HKr.out.trans (KpB.of (g := g) hba hzr))
   have HHa := hid (HHr.out.kept (hba.block g (by omega)))
   have hza : (wr.alloc (.cells #[.int .i64 op, .int .i64 ia, .int .i64 ib, .string is, .string it, .int .i64 iw.k, .int .i64 iw.n, .string iw.s] 89)).heap.size = wr.heap.size + 1 := by simp
   obtain ⟨tk, htk⟩ : ∃ t, takeD ⟨op, ia, ib, is, it, iw⟩ = t := ⟨_, rfl⟩
   obtain ⟨lv, hlv⟩ : ∃ t, leaveD ⟨op, ia, ib, is, it, iw⟩ = t := ⟨_, rfl⟩
   have hcall := instrMay_any x lim op ia ib is it iw p l c (some ⟨b0, o0, none⟩) n cap _ HSa.out HBg.out HI0.out hn0 hl40 hc40
   have aa : (wr.alloc (.cells #[.int .i64 op, .int .i64 ia, .int .i64 ib, .string is, .string it, .int .i64 iw.k, .int .i64 iw.n, .string iw.s] 89)).cell? ⟨wr.heap.size, 0, none⟩ = some (.int .i64 op) ∧ (wr.alloc (.cells #[.int .i64 op, .int .i64 ia, .int .i64 ib, .string is, .string it, .int .i64 iw.k, .int .i64 iw.n, .string iw.s] 89)).cell? ⟨wr.heap.size, 1, none⟩ = some (.int .i64 ia) := by
    refine ⟨?_, ?_⟩ <;> go_simp
   have AA := hid aa
   rw [htk, hlv] at hcall
   clear hba hBa hdr aa
   cases hio : instrB (ctxOf x) l c n ⟨op, ia, ib, is, it, iw⟩ with
   | false =>
    have HR := hid (HFin.out false (by rw [HFl.out, HDr.out]; exact flowD_bad hio))
    rw [hio] at hcall
    unfold ret3 at hcall
    go_wp2_with fail
    go_fit hcall
    clear hcall
    rintro e w5 ⟨rfl, hb5⟩
    have HBz := hid (HBa.out.trans (hb5.mono HBa.out.size))
    clear hb5
    go_wp2
    go_ret
    exact ⟨ret_bool HR.out.symm, HBz.out⟩
   | true =>
    rw [hio] at hcall
    unfold ret3 at hcall
    go_wp2_with fail
    go_fit hcall
    clear hcall
    rintro e w5 ⟨rfl, hb5⟩
    have hz5 := hb5.size
    have HK5 := hid (HKa.out.trans (KpB.of (g := g) hb5 (by omega)))
    have HH5 := hid (HHa.out.kept (hb5.block g (by omega)))
    have hg5 : g < w5.heap.size := by omega
    have h45 : w4.heap.size ≤ w5.heap.size := by omega
    have hr5 : wr.heap.size < w5.heap.size := by omega
    have e0 := (hb5.cell (p := ⟨wr.heap.size, 0, none⟩) (by dsimp only; omega)).trans AA.out.1
    have e1 := (hb5.cell (p := ⟨wr.heap.size, 1, none⟩) (by dsimp only; omega)).trans AA.out.2
    obtain ⟨q0, _⟩ := HH5.out m hmd
    rw [← getD_at hmd, HDs.out] at q0
    clear hb5 k0 k1 k2 k3 k4 f0 f1 f2 f3 j0 j1 j2 j3 j4 j5 j6 j7
    by_cases hd0 : h0 = 0
    ·
     have HR := hid (show flowD (instrB (ctxOf x) l c n) (startD n) 0 code = flowD (instrB (ctxOf x) l c n) ds (m + 1) (code.drop (m + 1)) from by rw [HFl.out, HDr.out]; exact flowD_skip hio (by rw [HDs.out, hd0]))
     rw [hd0] at q0
     clear hgd hd0 htk hlv
     go_wp2_with fail
     go_roundw
     case rel => exact ⟨m + 1, ds, by omega, by go_num, hdl, HH5.out, HK5.out, HR.out⟩
     case measure => simp [intOf]; omega
    have HD0 := hid (show ¬ ds.getD m 0 = 0 from by rw [HDs.out]; exact hd0)
    have hd1 : (h0 == 0) = false := by rw [beq_eq_false_iff_ne]; exact hd0
    obtain ⟨q1, hq1⟩ : ∃ q, IntKind.i64.wrap (h0 - tk) = q := ⟨_, rfl⟩
    obtain ⟨hh, hq2⟩ : ∃ q, IntKind.i64.wrap (q1 + lv) = q := ⟨_, rfl⟩
    obtain ⟨q2, hq3⟩ : ∃ q, IntKind.i64.wrap (h0 - 1) = q := ⟨_, rfl⟩
    obtain ⟨q3, hq4⟩ : ∃ q, IntKind.i64.wrap (hh - 1) = q := ⟨_, rfl⟩
    by_cases hA : q2 < tk
    ·
     have HR := hid (HFin.out false (by rw [HFl.out, HDr.out]; exact flowD_none hio HD0.out (step_low hgd htk hlv hq1 hq2 hq3 hA)))
     go_wp2
     go_ret
     exact ⟨ret_bool HR.out.symm, HB4.out.trans (HK5.out.below (by omega) (by omega))⟩
    by_cases hB : 6000 < q3
    ·
     have HR := hid (HFin.out false (by rw [HFl.out, HDr.out]; exact flowD_none hio HD0.out (step_high hgd htk hlv hq1 hq2 hq4 hB)))
     go_wp2
     go_ret
     exact ⟨ret_bool HR.out.symm, HB4.out.trans (HK5.out.below (by omega) (by omega))⟩
    have HAB := hid (show ¬ q2 < tk ∧ ¬ 6000 < q3 from by omega)
    clear hd0
    by_cases o13 : op = 13
    ·
     subst o13
     go_wp2_with fail
     have HB56 := hid (Below.refl w5.heap.size w5)
     obtain ⟨ns, hns⟩ : ∃ ns : List Int, ns = [] := ⟨_, rfl⟩
     have HNs := hid (step_on hgd htk hlv hq1 hq2 hq3 hq4 (by have := HAB.out; omega) (by have := HAB.out; omega) (show nextD m ⟨13, ia, ib, is, it, iw⟩ = ns from by rw [hns]; unfold nextD; simp))
     have hnl : ns.length = 0 := by rw [hns]; rfl
     have HH6 := hid (HH5.out.kept (HB56.out.block g hg5))
     have HK6 := hid (HK5.out.trans (KpB.of (g := g) HB56.out h45))
     have hz6 := HB56.out.size
     clear hns hA hB htk hlv hgd hq1 hq2 hq3 hq4
     go_loopw [14] (fun i wq => ∃ (k : Nat) (es : List Int), k ≤ 0 ∧ i = .int .i64 k ∧ es.length = n ∧ Hgt wq g es ∧ KpB w5.heap.size g w5 wq ∧ allD m hh ds ns = allD m hh es (ns.drop k)) (fun i _ => 0 - (intOf i).toNat)
     case atStart => exact ⟨0, ds, Nat.zero_le _, rfl, hdl, HH6.out, KpB.refl _ _ _, rfl⟩
     case round =>
      obtain ⟨k, es, hk, rfl, hel, hH, hkq, hal⟩ := hrel
      have HAl := hid hal
      have HHq := hid hH
      have HKq := hid hkq
      have HKo := hid (HK6.out.trans (hkq.mono HK6.out.size))
      by_cases hlk : k < 0
      case neg =>
       have hlk2 : ¬ (k : Int) < 0 := by omega
       have HR := hid (show flowD (instrB (ctxOf x) l c n) (startD n) 0 code = flowD (instrB (ctxOf x) l c n) es (m + 1) (code.drop (m + 1)) from by rw [HFl.out, HDr.out]; exact flowD_some hio HD0.out (by rw [HNs.out, HAl.out, List.drop_of_length_le (by omega)]; rfl))
       clear hal hH hkq
       go_wp2_with fail
       go_roundw
       case rel => exact ⟨m + 1, es, by omega, by go_num, hel, HHq.out, HKo.out, HR.out⟩
       case measure => simp [intOf]; omega
      case pos => exact absurd hlk (by omega)
    by_cases o14 : op = 14
    ·
     subst o14
     clear o13
     go_wp2_with fail
     have HB56 := hid (Below.refl w5.heap.size w5)
     obtain ⟨ns, hns⟩ : ∃ ns : List Int, ns = [] := ⟨_, rfl⟩
     have HNs := hid (step_on hgd htk hlv hq1 hq2 hq3 hq4 (by have := HAB.out; omega) (by have := HAB.out; omega) (show nextD m ⟨14, ia, ib, is, it, iw⟩ = ns from by rw [hns]; unfold nextD; simp))
     have hnl : ns.length = 0 := by rw [hns]; rfl
     have HH6 := hid (HH5.out.kept (HB56.out.block g hg5))
     have HK6 := hid (HK5.out.trans (KpB.of (g := g) HB56.out h45))
     have hz6 := HB56.out.size
     clear hns hA hB htk hlv hgd hq1 hq2 hq3 hq4
     go_loopw [14] (fun i wq => ∃ (k : Nat) (es : List Int), k ≤ 0 ∧ i = .int .i64 k ∧ es.length = n ∧ Hgt wq g es ∧ KpB w5.heap.size g w5 wq ∧ allD m hh ds ns = allD m hh es (ns.drop k)) (fun i _ => 0 - (intOf i).toNat)
     case atStart => exact ⟨0, ds, Nat.zero_le _, rfl, hdl, HH6.out, KpB.refl _ _ _, rfl⟩
     case round =>
      obtain ⟨k, es, hk, rfl, hel, hH, hkq, hal⟩ := hrel
      have HAl := hid hal
      have HHq := hid hH
      have HKq := hid hkq
      have HKo := hid (HK6.out.trans (hkq.mono HK6.out.size))
      by_cases hlk : k < 0
      case neg =>
       have hlk2 : ¬ (k : Int) < 0 := by omega
       have HR := hid (show flowD (instrB (ctxOf x) l c n) (startD n) 0 code = flowD (instrB (ctxOf x) l c n) es (m + 1) (code.drop (m + 1)) from by rw [HFl.out, HDr.out]; exact flowD_some hio HD0.out (by rw [HNs.out, HAl.out, List.drop_of_length_le (by omega)]; rfl))
       clear hal hH hkq
       go_wp2_with fail
       go_roundw
       case rel => exact ⟨m + 1, es, by omega, by go_num, hel, HHq.out, HKo.out, HR.out⟩
       case measure => simp [intOf]; omega
      case pos => exact absurd hlk (by omega)
    by_cases o15 : op = 15
    ·
     subst o15
     clear o13 o14
     go_wp2_with (at_builtin; refine wpList_append_lies _ rfl (.tmp 106) (.tmp 109) 86 rfl w5.heap.size 3 i0 (.int .i64 0) 1 8 Tryz.underlying86 HIn.out HZ0.out HZ1.out HZ2.out rfl (by decide) (.slice none 0 0) 0 [] rfl ⟨by simp, .inl ⟨rfl, rfl⟩⟩ ⟨w5.heap.size, 0, none⟩ 1 1 [.int .i64 ia] rfl rfl (cell_one_new _ _ _) (by simp [Value.oneCell']) (by decide) (by unfold maxLen; omega) (by omega) (by first | (simp; done) | (simp; omega)) _ rfl ?_; intro g3 c3 w6 hown6 hgrow6 _ _; have hb6 := ((Below.refl w5.heap.size w5).alloc (Nat.le_refl _) _).grown hgrow6 (by simp) (fun j hj => by cases hj); have e0 := (hb6.cell (p := ⟨wr.heap.size, 0, none⟩) (by dsimp only; omega)).trans e0; have e1 := (hb6.cell (p := ⟨wr.heap.size, 1, none⟩) (by dsimp only; omega)).trans e1)
     have HB56 := hid hb6
     clear hgrow6 hb6
     obtain ⟨ns, hns⟩ : ∃ ns : List Int, ns = [ia] := ⟨_, rfl⟩
     have HNs := hid (step_on hgd htk hlv hq1 hq2 hq3 hq4 (by have := HAB.out; omega) (by have := HAB.out; omega) (show nextD m ⟨15, ia, ib, is, it, iw⟩ = ns from by rw [hns]; unfold nextD; simp))
     have HRow := hid (show World.ownsRow w6 w5.heap.size 3 1 (.slice (some ⟨g3, 0, none⟩) 1 c3) 1 (ns.map (Value.int .i64)) from by rw [hns]; exact hown6)
     have hnl : ns.length = 1 := by rw [hns]; rfl
     have HH6 := hid (HH5.out.kept (HB56.out.block g hg5))
     have HK6 := hid (HK5.out.trans (KpB.of (g := g) HB56.out h45))
     have hz6 := HB56.out.size
     clear hns hA hB htk hlv hgd hq1 hq2 hq3 hq4
     go_loopw [14] (fun i wq => ∃ (k : Nat) (es : List Int), k ≤ 1 ∧ i = .int .i64 k ∧ es.length = n ∧ Hgt wq g es ∧ KpB w6.heap.size g w6 wq ∧ allD m hh ds ns = allD m hh es (ns.drop k)) (fun i _ => 1 - (intOf i).toNat)
     case atStart => exact ⟨0, ds, Nat.zero_le _, rfl, hdl, HH6.out, KpB.refl _ _ _, rfl⟩
     case round =>
      obtain ⟨k, es, hk, rfl, hel, hH, hkq, hal⟩ := hrel
      have HAl := hid hal
      have HHq := hid hH
      have HKq := hid hkq
      have HKo := hid (HK6.out.trans (hkq.mono HK6.out.size))
      by_cases hlk : k < 1
      case neg =>
       have hlk2 : ¬ (k : Int) < 1 := by omega
       have HR := hid (show flowD (instrB (ctxOf x) l c n) (startD n) 0 code = flowD (instrB (ctxOf x) l c n) es (m + 1) (code.drop (m + 1)) from by rw [HFl.out, HDr.out]; exact flowD_some hio HD0.out (by rw [HNs.out, HAl.out, List.drop_of_length_le (by omega)]; rfl))
       clear hal hH hkq
       go_wp2_with fail
       go_roundw
       case rel => exact ⟨m + 1, es, by omega, by go_num, hel, HHq.out, HKo.out, HR.out⟩
       case measure => simp [intOf]; omega
      case pos =>
       have hlk2 : (k : Int) < 1 := by omega
       have hkn : k < ns.length := by omega
       obtain ⟨n1, n2, n3⟩ := next_cell HRow.out hkn
       have d0 := (hkq.cell (b := g3) (o := k) n2 (by omega)).trans n3
       have hdr : ns.drop k = ns[k] :: ns.drop (k + 1) := List.drop_eq_getElem_cons hkn
       clear n3
       generalize ns[k]'hkn = t at d0 hdr
       have HDk := hid hdr
       clear hdr hal hH hkq hlk
       cases hI : inB t ((m : Int) + 1) ((n : Int) - 1) with
       | false =>
        have HR := hid (HFin.out false (by rw [HFl.out, HDr.out]; exact flowD_none hio HD0.out (by rw [HNs.out, HAl.out, HDk.out]; exact all_none (come_far hel hI))))
        go_wp2_with (go_at_call 31; refine (HH.In_any _ _ _ _).mono ?_; rintro e w' ⟨rfl, rfl⟩; rw [hI])
        go_ret
        exact ⟨ret_bool HR.out.symm, HB4.out.trans (HKo.out.below (by omega) (by omega))⟩
       | true =>
        obtain ⟨j, rfl⟩ : ∃ j : Nat, t = j := by
         have hI := hI
         unfold inB at hI; simp only [Bool.and_eq_true, decide_eq_true_eq] at hI
         exact ⟨t.toNat, by omega⟩
        have hjn : j < n := by
         have hI := hI
         unfold inB at hI; simp only [Bool.and_eq_true, decide_eq_true_eq] at hI
         omega
        have hjn2 : (j : Int) < n := by omega
        have hje : j < es.length := by omega
        obtain ⟨s0, s1⟩ := HHq.out j hje
        have HS2 := hid (HHq.out.set j hh hje)
        have HKs := hid (HKq.out.trans (KpB.set w6.heap.size g j wr (.int .i64 hh)))
        by_cases z0 : es[j]'hje = 0
        ·
         have HR := hid (show allD m hh ds ns = allD m hh (es.set j hh) (ns.drop (k + 1)) from by rw [HAl.out, HDk.out]; exact all_some (come_yes hel hje hI (Or.inl z0)))
         rw [z0] at s0
         clear z0
         go_wp2_with (go_at_call 31; refine (HH.In_any _ _ _ _).mono ?_; rintro e w' ⟨rfl, rfl⟩; rw [hI])
         go_roundw
         case rel => exact ⟨k + 1, es.set j hh, by omega, by go_num, by rw [List.length_set]; exact hel, HS2.out, HKs.out, HR.out⟩
         case measure => simp [intOf]; omega
        ·
         by_cases z1 : es[j]'hje = hh
         ·
          have HR := hid (show allD m hh ds ns = allD m hh (es.set j hh) (ns.drop (k + 1)) from by rw [HAl.out, HDk.out]; exact all_some (come_yes hel hje hI (Or.inr z1)))
          have z2 : (hh != 0) = true := by rw [bne_iff_ne, ← z1]; exact z0
          have z3 : (hh != hh) = false := by simp
          rw [z1] at s0
          clear z0 z1
          go_wp2_with (go_at_call 31; refine (HH.In_any _ _ _ _).mono ?_; rintro e w' ⟨rfl, rfl⟩; rw [hI])
          go_roundw
          case rel => exact ⟨k + 1, es.set j hh, by omega, by go_num, by rw [List.length_set]; exact hel, HS2.out, HKs.out, HR.out⟩
          case measure => simp [intOf]; omega
         ·
          have HR := hid (HFin.out false (by rw [HFl.out, HDr.out]; exact flowD_none hio HD0.out (by rw [HNs.out, HAl.out, HDk.out]; exact all_none (come_other hel hje z0 z1))))
          generalize es[j]'hje = dj at s0 z0 z1
          have z2 : (dj != 0) = true := by rw [bne_iff_ne]; exact z0
          have z3 : (dj != hh) = true := by rw [bne_iff_ne]; exact z1
          clear z0 z1
          go_wp2_with (go_at_call 31; refine (HH.In_any _ _ _ _).mono ?_; rintro e w' ⟨rfl, rfl⟩; rw [hI])
          go_ret
          exact ⟨ret_bool HR.out.symm, HB4.out.trans (HKo.out.below (by omega) (by omega))⟩
    have n15 : (op != 15) = true := by rw [bne_iff_ne]; exact o15
    have n14 : (op != 14) = true := by rw [bne_iff_ne]; exact o14
    have n13 : (op != 13) = true := by rw [bne_iff_ne]; exact o13
    by_cases o16 : op = 16
    ·
     subst o16
     clear o13 o14 o15 n15 n14 n13
     go_wp2_with (first | (at_builtin; refine wpList_append_lies _ rfl (.tmp 106) (.tmp 109) 86 rfl w5.heap.size 3 i0 (.int .i64 0) 1 8 Tryz.underlying86 HIn.out HZ0.out HZ1.out HZ2.out rfl (by decide) (.slice none 0 0) 0 [] rfl ⟨by simp, .inl ⟨rfl, rfl⟩⟩ ⟨w5.heap.size, 0, none⟩ 1 1 [.int .i64 ia] rfl rfl (cell_one_new _ _ _) (by simp [Value.oneCell']) (by decide) (by unfold maxLen; omega) (by omega) (by first | (simp; done) | (simp; omega)) _ rfl ?_; intro g2 c2 w6 hown6 hgrow6 _ _; have hb6 := ((Below.refl w5.heap.size w5).alloc (Nat.le_refl _) _).grown hgrow6 (by simp) (fun j hj => by cases hj); have e0 := (hb6.cell (p := ⟨wr.heap.size, 0, none⟩) (by dsimp only; omega)).trans e0; have e1 := (hb6.cell (p := ⟨wr.heap.size, 1, none⟩) (by dsimp only; omega)).trans e1; have hown7 : World.ownsRow w6 w5.heap.size 3 1 (.slice (some ⟨g2, 0, none⟩) 1 c2) 1 [.int .i64 ia] := hown6; have hz7 := hb6.size) | (at_builtin; refine wpList_append_lies _ rfl (.tmp 124) (.tmp 127) 86 rfl w5.heap.size 3 i0 (.int .i64 0) 1 8 Tryz.underlying86 HIn.out HZ0.out HZ1.out HZ2.out rfl (by decide) (.slice (some ⟨g2, 0, none⟩) 1 c2) 1 [.int .i64 ia] rfl (hown7.alloc _) ⟨w6.heap.size, 0, none⟩ 1 1 [.int .i64 ((m : Int) + 1)] rfl rfl (cell_one_new _ _ _) (by simp [Value.oneCell']) (by decide) (by unfold maxLen; omega) (by omega) (by first | (simp; done) | (simp; omega)) _ rfl ?_; intro g3 c3 w7 hown8 hgrow7 _ _))
     have HB56 := hid ((hb6.alloc hz7 _).grown hgrow7 (by simp; omega) (fun j hj => by injection hj with hj; subst hj; exact (ownsRow_lt' hown7).1))
     clear hgrow6 hb6 hgrow7
     obtain ⟨ns, hns⟩ : ∃ ns : List Int, ns = [ia, (m : Int) + 1] := ⟨_, rfl⟩
     have HNs := hid (step_on hgd htk hlv hq1 hq2 hq3 hq4 (by have := HAB.out; omega) (by have := HAB.out; omega) (show nextD m ⟨16, ia, ib, is, it, iw⟩ = ns from by rw [hns]; unfold nextD; simp))
     have HRow := hid (show World.ownsRow w7 w5.heap.size 3 1 (.slice (some ⟨g3, 0, none⟩) 2 c3) 2 (ns.map (Value.int .i64)) from by rw [hns]; exact hown8)
     have hnl : ns.length = 2 := by rw [hns]; rfl
     have HH6 := hid (HH5.out.kept (HB56.out.block g hg5))
     have HK6 := hid (HK5.out.trans (KpB.of (g := g) HB56.out h45))
     have hz6 := HB56.out.size
     clear hns hA hB htk hlv hgd hq1 hq2 hq3 hq4
     go_loopw [14] (fun i wq => ∃ (k : Nat) (es : List Int), k ≤ 2 ∧ i = .int .i64 k ∧ es.length = n ∧ Hgt wq g es ∧ KpB w7.heap.size g w7 wq ∧ allD m hh ds ns = allD m hh es (ns.drop k)) (fun i _ => 2 - (intOf i).toNat)
     case atStart => exact ⟨0, ds, Nat.zero_le _, rfl, hdl, HH6.out, KpB.refl _ _ _, rfl⟩
     case round =>
      obtain ⟨k, es, hk, rfl, hel, hH, hkq, hal⟩ := hrel
      have HAl := hid hal
      have HHq := hid hH
      have HKq := hid hkq
      have HKo := hid (HK6.out.trans (hkq.mono HK6.out.size))
      by_cases hlk : k < 2
      case neg =>
       have hlk2 : ¬ (k : Int) < 2 := by omega
       have HR := hid (show flowD (instrB (ctxOf x) l c n) (startD n) 0 code = flowD (instrB (ctxOf x) l c n) es (m + 1) (code.drop (m + 1)) from by rw [HFl.out, HDr.out]; exact flowD_some hio HD0.out (by rw [HNs.out, HAl.out, List.drop_of_length_le (by omega)]; rfl))
       clear hal hH hkq
       go_wp2_with fail
       go_roundw
       case rel => exact ⟨m + 1, es, by omega, by go_num, hel, HHq.out, HKo.out, HR.out⟩
       case measure => simp [intOf]; omega
      case pos =>
       have hlk2 : (k : Int) < 2 := by omega
       have hkn : k < ns.length := by omega
       obtain ⟨n1, n2, n3⟩ := next_cell HRow.out hkn
       have d0 := (hkq.cell (b := g3) (o := k) n2 (by omega)).trans n3
       have hdr : ns.drop k = ns[k] :: ns.drop (k + 1) := List.drop_eq_getElem_cons hkn
       clear n3
       generalize ns[k]'hkn = t at d0 hdr
       have HDk := hid hdr
       clear hdr hal hH hkq hlk
       cases hI : inB t ((m : Int) + 1) ((n : Int) - 1) with
       | false =>
        have HR := hid (HFin.out false (by rw [HFl.out, HDr.out]; exact flowD_none hio HD0.out (by rw [HNs.out, HAl.out, HDk.out]; exact all_none (come_far hel hI))))
        go_wp2_with (go_at_call 31; refine (HH.In_any _ _ _ _).mono ?_; rintro e w' ⟨rfl, rfl⟩; rw [hI])
        go_ret
        exact ⟨ret_bool HR.out.symm, HB4.out.trans (HKo.out.below (by omega) (by omega))⟩
       | true =>
        obtain ⟨j, rfl⟩ : ∃ j : Nat, t = j := by
         have hI := hI
         unfold inB at hI; simp only [Bool.and_eq_true, decide_eq_true_eq] at hI
         exact ⟨t.toNat, by omega⟩
        have hjn : j < n := by
         have hI := hI
         unfold inB at hI; simp only [Bool.and_eq_true, decide_eq_true_eq] at hI
         omega
        have hjn2 : (j : Int) < n := by omega
        have hje : j < es.length := by omega
        obtain ⟨s0, s1⟩ := HHq.out j hje
        have HS2 := hid (HHq.out.set j hh hje)
        have HKs := hid (HKq.out.trans (KpB.set w7.heap.size g j wr (.int .i64 hh)))
        by_cases z0 : es[j]'hje = 0
        ·
         have HR := hid (show allD m hh ds ns = allD m hh (es.set j hh) (ns.drop (k + 1)) from by rw [HAl.out, HDk.out]; exact all_some (come_yes hel hje hI (Or.inl z0)))
         rw [z0] at s0
         clear z0
         go_wp2_with (go_at_call 31; refine (HH.In_any _ _ _ _).mono ?_; rintro e w' ⟨rfl, rfl⟩; rw [hI])
         go_roundw
         case rel => exact ⟨k + 1, es.set j hh, by omega, by go_num, by rw [List.length_set]; exact hel, HS2.out, HKs.out, HR.out⟩
         case measure => simp [intOf]; omega
        ·
         by_cases z1 : es[j]'hje = hh
         ·
          have HR := hid (show allD m hh ds ns = allD m hh (es.set j hh) (ns.drop (k + 1)) from by rw [HAl.out, HDk.out]; exact all_some (come_yes hel hje hI (Or.inr z1)))
          have z2 : (hh != 0) = true := by rw [bne_iff_ne, ← z1]; exact z0
          have z3 : (hh != hh) = false := by simp
          rw [z1] at s0
          clear z0 z1
          go_wp2_with (go_at_call 31; refine (HH.In_any _ _ _ _).mono ?_; rintro e w' ⟨rfl, rfl⟩; rw [hI])
          go_roundw
          case rel => exact ⟨k + 1, es.set j hh, by omega, by go_num, by rw [List.length_set]; exact hel, HS2.out, HKs.out, HR.out⟩
          case measure => simp [intOf]; omega
         ·
          have HR := hid (HFin.out false (by rw [HFl.out, HDr.out]; exact flowD_none hio HD0.out (by rw [HNs.out, HAl.out, HDk.out]; exact all_none (come_other hel hje z0 z1))))
          generalize es[j]'hje = dj at s0 z0 z1
          have z2 : (dj != 0) = true := by rw [bne_iff_ne]; exact z0
          have z3 : (dj != hh) = true := by rw [bne_iff_ne]; exact z1
          clear z0 z1
          go_wp2_with (go_at_call 31; refine (HH.In_any _ _ _ _).mono ?_; rintro e w' ⟨rfl, rfl⟩; rw [hI])
          go_ret
          exact ⟨ret_bool HR.out.symm, HB4.out.trans (HKo.out.below (by omega) (by omega))⟩
    have b15 : (op == 15) = false := by rw [beq_eq_false_iff_ne]; exact o15
    have b16 : (op == 16) = false := by rw [beq_eq_false_iff_ne]; exact o16
    go_wp2_with (at_builtin; refine wpList_append_lies _ rfl (.tmp 124) (.tmp 127) 86 rfl w5.heap.size 3 i0 (.int .i64 0) 1 8 Tryz.underlying86 HIn.out HZ0.out HZ1.out HZ2.out rfl (by decide) (.slice none 0 0) 0 [] rfl ⟨by simp, .inl ⟨rfl, rfl⟩⟩ ⟨w5.heap.size, 0, none⟩ 1 1 [.int .i64 ((m : Int) + 1)] rfl rfl (cell_one_new _ _ _) (by simp [Value.oneCell']) (by decide) (by unfold maxLen; omega) (by omega) (by first | (simp; done) | (simp; omega)) _ rfl ?_; intro g3 c3 w6 hown6 hgrow6 _ _; have hb6 := ((Below.refl w5.heap.size w5).alloc (Nat.le_refl _) _).grown hgrow6 (by simp) (fun j hj => by cases hj); have e0 := (hb6.cell (p := ⟨wr.heap.size, 0, none⟩) (by dsimp only; omega)).trans e0; have e1 := (hb6.cell (p := ⟨wr.heap.size, 1, none⟩) (by dsimp only; omega)).trans e1)
    have HB56 := hid hb6
    clear hgrow6 hb6
    obtain ⟨ns, hns⟩ : ∃ ns : List Int, ns = [(m : Int) + 1] := ⟨_, rfl⟩
    have HNs := hid (step_on hgd htk hlv hq1 hq2 hq3 hq4 (by have := HAB.out; omega) (by have := HAB.out; omega) (show nextD m ⟨op, ia, ib, is, it, iw⟩ = ns from by rw [hns]; unfold nextD; simp [o13, o14, o15, o16]))
    have HRow := hid (show World.ownsRow w6 w5.heap.size 3 1 (.slice (some ⟨g3, 0, none⟩) 1 c3) 1 (ns.map (Value.int .i64)) from by rw [hns]; exact hown6)
    have hnl : ns.length = 1 := by rw [hns]; rfl
    have HH6 := hid (HH5.out.kept (HB56.out.block g hg5))
    have HK6 := hid (HK5.out.trans (KpB.of (g := g) HB56.out h45))
    have hz6 := HB56.out.size
    clear hns hA hB htk hlv hgd hq1 hq2 hq3 hq4
    go_loopw [14] (fun i wq => ∃ (k : Nat) (es : List Int), k ≤ 1 ∧ i = .int .i64 k ∧ es.length = n ∧ Hgt wq g es ∧ KpB w6.heap.size g w6 wq ∧ allD m hh ds ns = allD m hh es (ns.drop k)) (fun i _ => 1 - (intOf i).toNat)
    case atStart => exact ⟨0, ds, Nat.zero_le _, rfl, hdl, HH6.out, KpB.refl _ _ _, rfl⟩
    case round =>
     obtain ⟨k, es, hk, rfl, hel, hH, hkq, hal⟩ := hrel
     have HAl := hid hal
     have HHq := hid hH
     have HKq := hid hkq
     have HKo := hid (HK6.out.trans (hkq.mono HK6.out.size))
     by_cases hlk : k < 1
     case neg =>
      have hlk2 : ¬ (k : Int) < 1 := by omega
      have HR := hid (show flowD (instrB (ctxOf x) l c n) (startD n) 0 code = flowD (instrB (ctxOf x) l c n) es (m + 1) (code.drop (m + 1)) from by rw [HFl.out, HDr.out]; exact flowD_some hio HD0.out (by rw [HNs.out, HAl.out, List.drop_of_length_le (by omega)]; rfl))
      clear hal hH hkq
      go_wp2_with fail
      go_roundw
      case rel => exact ⟨m + 1, es, by omega, by go_num, hel, HHq.out, HKo.out, HR.out⟩
      case measure => simp [intOf]; omega
     case pos =>
      have hlk2 : (k : Int) < 1 := by omega
      have hkn : k < ns.length := by omega
      obtain ⟨n1, n2, n3⟩ := next_cell HRow.out hkn
      have d0 := (hkq.cell (b := g3) (o := k) n2 (by omega)).trans n3
      have hdr : ns.drop k = ns[k] :: ns.drop (k + 1) := List.drop_eq_getElem_cons hkn
      clear n3
      generalize ns[k]'hkn = t at d0 hdr
      have HDk := hid hdr
      clear hdr hal hH hkq hlk
      cases hI : inB t ((m : Int) + 1) ((n : Int) - 1) with
      | false =>
       have HR := hid (HFin.out false (by rw [HFl.out, HDr.out]; exact flowD_none hio HD0.out (by rw [HNs.out, HAl.out, HDk.out]; exact all_none (come_far hel hI))))
       go_wp2_with (go_at_call 31; refine (HH.In_any _ _ _ _).mono ?_; rintro e w' ⟨rfl, rfl⟩; rw [hI])
       go_ret
       exact ⟨ret_bool HR.out.symm, HB4.out.trans (HKo.out.below (by omega) (by omega))⟩
      | true =>
       obtain ⟨j, rfl⟩ : ∃ j : Nat, t = j := by
        have hI := hI
        unfold inB at hI; simp only [Bool.and_eq_true, decide_eq_true_eq] at hI
        exact ⟨t.toNat, by omega⟩
       have hjn : j < n := by
        have hI := hI
        unfold inB at hI; simp only [Bool.and_eq_true, decide_eq_true_eq] at hI
        omega
       have hjn2 : (j : Int) < n := by omega
       have hje : j < es.length := by omega
       obtain ⟨s0, s1⟩ := HHq.out j hje
       have HS2 := hid (HHq.out.set j hh hje)
       have HKs := hid (HKq.out.trans (KpB.set w6.heap.size g j wr (.int .i64 hh)))
       by_cases z0 : es[j]'hje = 0
       ·
        have HR := hid (show allD m hh ds ns = allD m hh (es.set j hh) (ns.drop (k + 1)) from by rw [HAl.out, HDk.out]; exact all_some (come_yes hel hje hI (Or.inl z0)))
        rw [z0] at s0
        clear z0
        go_wp2_with (go_at_call 31; refine (HH.In_any _ _ _ _).mono ?_; rintro e w' ⟨rfl, rfl⟩; rw [hI])
        go_roundw
        case rel => exact ⟨k + 1, es.set j hh, by omega, by go_num, by rw [List.length_set]; exact hel, HS2.out, HKs.out, HR.out⟩
        case measure => simp [intOf]; omega
       ·
        by_cases z1 : es[j]'hje = hh
        ·
         have HR := hid (show allD m hh ds ns = allD m hh (es.set j hh) (ns.drop (k + 1)) from by rw [HAl.out, HDk.out]; exact all_some (come_yes hel hje hI (Or.inr z1)))
         have z2 : (hh != 0) = true := by rw [bne_iff_ne, ← z1]; exact z0
         have z3 : (hh != hh) = false := by simp
         rw [z1] at s0
         clear z0 z1
         go_wp2_with (go_at_call 31; refine (HH.In_any _ _ _ _).mono ?_; rintro e w' ⟨rfl, rfl⟩; rw [hI])
         go_roundw
         case rel => exact ⟨k + 1, es.set j hh, by omega, by go_num, by rw [List.length_set]; exact hel, HS2.out, HKs.out, HR.out⟩
         case measure => simp [intOf]; omega
        ·
         have HR := hid (HFin.out false (by rw [HFl.out, HDr.out]; exact flowD_none hio HD0.out (by rw [HNs.out, HAl.out, HDk.out]; exact all_none (come_other hel hje z0 z1))))
         generalize es[j]'hje = dj at s0 z0 z1
         have z2 : (dj != 0) = true := by rw [bne_iff_ne]; exact z0
         have z3 : (dj != hh) = true := by rw [bne_iff_ne]; exact z1
         clear z0 z1
         go_wp2_with (go_at_call 31; refine (HH.In_any _ _ _ _).mono ?_; rintro e w' ⟨rfl, rfl⟩; rw [hI])
         go_ret
         exact ⟨ret_bool HR.out.symm, HB4.out.trans (HKo.out.below (by omega) (by omega))⟩
/-- May a function be: the document's funcMay. -/
theorem funcMay_any (x : Wv) (lim p l c : Int) (adr : Option Addr) (cap : Nat) (code : List Ins) (w : World) (hS : subW w (fun b => b < w.heap.size) x) (hb : bigW x) (hF : subF w (fun b => b < w.heap.size) ⟨p, l, c, adr, cap, code⟩) (hbig : bigF ⟨p, l, c, adr, cap, code⟩) (hw : wfFn ⟨p, l, c, adr, cap, code⟩) :
  Calls Tryz.prog 18 #[.agg #[.slice x.fa x.fs.length x.fcap, .slice x.ga x.gs.length x.gcap, .slice x.ra x.rs.length x.rcap, .slice x.ha x.hs.length x.hcap, .int .i64 lim], .agg #[.int .i64 p, .int .i64 l, .int .i64 c, .slice adr code.length cap]] w fun e w' => e = .returned (.bool (funcD (ctxOf x) ⟨p, l, c, adr, cap, code⟩)) ∧ Below w.heap.size w w' :=
 funcMay_aux x lim p l c adr code.length cap code w rfl hS hb hF hbig hw
end Go.Proofs.YtldmanfgmadbfaaGreatDoor
