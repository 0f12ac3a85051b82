/- Do all ways hold: vm's hold. · May a function be: vm's mayBeFunc. · May a record's moves be: vm's mayBeMoves. · An environment that may be: unit's checkEnv: P2.3. · unit.Check: an environment that may be: P2.3. · unit.CheckShape: P2.3. -/
import Derived.Test.YtldmanfgmadbfaaGreatDoorQ12
import Derived.OwnWalk
import Derived.Laws.OwnMore
import Derived.Test.YtldmanfgmadbfaaGreatDoorQ10
import Derived.Test.YtldmanfgmadbfaaGreatDoorQ08
import Derived.Test.YtldmanfgmadbfaaGreatDoorQ07
import Derived.RegionTactic
import Derived.BigRegion
import Derived.Deep.RegionWith
import Derived.Deep.CutBlock
import Derived.Deep.DeepCutAuto
namespace Go.Proofs.YtldmanfgmadbfaaGreatDoor
set_option maxRecDepth 100000
open HH UU VV
open Go.RowKit Go.Maps Go.WideMaps
theorem infoInt : (Tryz.prog.info? 3).map (fun i => (i.zero, i.size, i.bytes)) = some (some (.int .i64 0), 1, 8) := by kernel_rfl
theorem hgt_made {w1 : World} {base g n : Nat} (h : w1.ownsRow base 3 1 (.slice (some ⟨g, 0, none⟩) n n) n (madeCells #[.int .i64 0] (n * 1)).toList) : Hgt w1 g (List.replicate n 0) := by
  rcases h.2 with ⟨h', _⟩ | ⟨g', cap, cur, hv, _, hc, _, _, hcs, hcut⟩
  · cases h'
  · injection hv with e1 e2 e3
    injection e1 with e1
    injection e1 with e1
    subst e1 e3
    rw [toList_madeCells_one] at hcut
    intro j hj
    have hj : j < n := by simpa using hj
    have hj2 : cur[j]? = some (.int .i64 0) := by
      have h1 : (cur.toList.take (n * 1))[j]? = some (.int .i64 0) := by rw [hcut]; simp [hj]
      rw [List.getElem?_take_of_lt (by omega)] at h1
      simpa using h1
    refine ⟨?_, ?_⟩
    · simp only [World.cell?, hc]; simpa using hj2
    · simp [World.frozen?, hc]
def partI (n k : Nat) : List Int := List.replicate k (-1) ++ List.replicate (n - k) 0
theorem partI_len {n k : Nat} (h : k ≤ n) : (partI n k).length = n := by unfold partI; simp; omega
theorem partI_set {n k : Nat} (h : k < n) : (partI n k).set k (-1) = partI n (k + 1) := by
  unfold partI
  obtain ⟨m, hm⟩ : ∃ m, n - k = m + 1 := ⟨n - k - 1, by omega⟩
  have hm2 : n - (k + 1) = m := by omega
  rw [hm, hm2, List.set_append_right _ _ (by simp), List.length_replicate, Nat.sub_self, List.replicate_succ, List.set_cons_zero, List.replicate_succ', List.append_assoc]
  rfl
theorem partI_all (n : Nat) : partI n n = List.replicate n (-1) := by unfold partI; simp
theorem EffAt.keep {w w' : World} {N g : Nat} (h : EffAt w) (hk : KpB N g w w') (hN : 0 < N) (hg : ¬ 0 = g) : EffAt w' := by
  refine ⟨Nat.lt_of_lt_of_le h.lt hk.size, fun k hk2 => ?_⟩
  have e : ∀ o, w'.cell? ⟨0, o, none⟩ = w.cell? ⟨0, o, none⟩ := fun o => hk.cell hN hg
  rw [e, e, e, e, e, e]
  exact h.at_ k hk2
def OpsIn (code : List Ins) : Prop := ∀ i, i ∈ code → 0 ≤ i.op ∧ i.op ≤ 22
set_option maxHeartbeats 2000000 in
theorem hold_any (w : World) (B y n cap : Nat) (ca : Option Addr) (code : List Ins) (hC : Cs w (fun b => b < B) ca (flatC insC code)) (hn : code.length = n) (h1 : 1 ≤ n) (hm : n ≤ 6000) (hO : OpsIn code) (hE : EffAt w) (hBy : B ≤ y) (hy : y < w.heap.size) (hG : 0 < B)
    (c0 : w.cell? ⟨y, 0, none⟩ = some (.slice ca n cap)) (c1 : w.cell? ⟨y, 1, none⟩ = some (.slice none 0 0)) (d1 : w.frozen? ⟨y, 1, none⟩ = false) :
    Calls Tryz.prog 70 #[.pointer (some ⟨y, 0, none⟩)] w fun e w' => e = .returned (.bool (flowI (startI n) 0 code)) ∧ Below B w w' := by
  obtain ⟨i0, hi, iz0, iz1, iz2⟩ := info_parts infoInt
  have HI := hid hi
  have HZ0 := hid iz0
  have HZ1 := hid iz1
  have HZ2 := hid iz2
  have HN := hid hn
  clear hi iz0 iz1 iz2 hn
  have hne0 : ¬ y = w.heap.size := by omega
  go_enter Tryz.func70, Tryz.ntmps70
  go_wp2_with (at_make; refine wpList_make_full _ rfl _ _ 86 rfl w.heap.size 3 i0 (.int .i64 0) 1 Tryz.underlying86 HI.out HZ0.out HZ1.out _ _ _ _ n rfl rfl rfl rfl (by rw [HZ2.out]; omega) (by unfold maxLen; omega) (Nat.le_refl _) ?_; intro w1 hown hgrow; have hb1 : Below w.heap.size w w1 := (Below.refl _ _).grown hgrow (Nat.le_refl _) (fun k e => by cases e); have HH1 := hid (hgt_made hown); have hlt1 := (ownsRow_lt' hown).2; have HB1 := hid hb1; have e0 := (hb1.cell (p := ⟨y, 0, none⟩) hy).trans c0; have e1 := (hb1.cell (p := ⟨y, 1, none⟩) hy).trans c1; have f1 := (hb1.frozen (p := ⟨y, 1, none⟩) hy).trans d1; clear hown hgrow hb1)
  obtain ⟨w2, hw2⟩ : ∃ w2, w2 = w1.setCell ⟨y, 1, none⟩ (.slice (some ⟨w.heap.size, 0, none⟩) n n) := ⟨_, rfl⟩
  rw [← hw2]
  have hz2 : w2.heap.size = w1.heap.size := by rw [hw2]; simp
  have HY := hid (show WaysAt w2 y w.heap.size ca cap n from by
    refine ⟨by omega, by omega, hne0, ?_, ?_⟩
    · rw [hw2, World.cell?_setCell_other _ _ _ _ (by intro x; injection x with _ x; omega)]; exact e0
    · rw [hw2, World.cell?_setCell_same _ _ _ e1])
  have HB2 := hid (show Below B w w2 from by rw [hw2]; exact (HB1.out.mono (by omega)).setCell (p := ⟨y, 1, none⟩) hBy _)
  have HH2 := hid (show Hgt w2 w.heap.size (partI n 0) from by
    have : partI n 0 = List.replicate n 0 := by unfold partI; simp
    rw [this]
    exact HH1.out.kept (by rw [hw2]; exact Below.heap_setCell _ _ _ _ (Ne.symm hne0)))
  have HE2 := hid (show EffAt w2 from hE.below HB2.out hG)
  have HC2 := hid (show Cs w2 (fun b => b < B) ca (flatC insC code) from Cs.below hC HB2.out (Nat.le_refl _))
  have HNe := hid hne0
  clear hw2 e0 e1 f1 c0 c1 d1 hC hE HH1 HB1 hne0
  generalize hgb : w.heap.size = g at *
  have hBg : B ≤ g := by omega
  go_loopw [20] (fun i wr => ∃ k : Nat, k ≤ n ∧ i = .int .i64 k ∧ Hgt wr g (partI n k) ∧ KpB w2.heap.size g w2 wr) (fun i _ => n - (intOf i).toNat)
  case atStart => exact ⟨0, Nat.zero_le _, rfl, HH2.out, KpB.refl _ _ _⟩
  case round =>
    obtain ⟨k, hk, rfl, hH, hkp⟩ := hrel
    have hYr := HY.out.keep hkp
    have c1 := hYr.c1
    by_cases hlt : k < n
    · have hlt2 : (k : Int) < n := by omega
      obtain ⟨q0, q1⟩ := hH k (by rw [partI_len hk]; exact hlt)
      have HS := hid (show Hgt (wr.setCell ⟨g, k, none⟩ (.int .i64 (-1))) g (partI n (k + 1)) from by rw [← partI_set hlt]; exact hH.set k (-1) (by rw [partI_len hk]; exact hlt))
      have HK := hid (hkp.trans (KpB.set w2.heap.size g k wr (.int .i64 (-1))))
      clear hH hkp hYr
      generalize (partI n k)[k]'(_) = z at q0
      go_wp2
      go_roundw
      case rel => exact ⟨k + 1, by omega, by go_num, HS.out, HK.out⟩
      case measure => simp [intOf]; omega
    · have hlt2 : ¬ (k : Int) < n := by omega
      obtain rfl : k = n := by omega
      have HHn := hid (show Hgt wr g (List.replicate k (-1)) from by rw [← partI_all]; exact hH)
      have HK := hid hkp
      have c0 := hYr.c0
      obtain ⟨q0, q1⟩ := HHn.out 0 (by simp; omega)
      have HS := hid (HHn.out.set 0 0 (by simp; omega))
      have HK3 := hid (hkp.trans (KpB.set w2.heap.size g 0 wr (.int .i64 0)))
      have h0k : (0 : Int) < k := by omega
      clear hH hkp hYr
      generalize (List.replicate k (-1 : Int))[0]'(_) = z at q0
      go_wp2
      have hn1 := HN.out
      go_loopw [40] (fun i wr => ∃ (m : Nat) (hs : List Int), m ≤ k ∧ i = .int .i64 m ∧ hs.length = k ∧ Hgt wr g hs ∧ KpB w2.heap.size g w2 wr ∧ flowI (startI k) 0 code = flowI hs m (code.drop m)) (fun i _ => k - (intOf i).toNat)
      case atStart => exact ⟨0, startI k, Nat.zero_le _, rfl, by unfold startI; simp, HS.out, HK3.out, rfl⟩
      case round =>
        clear HS HK3 HHn HK c0 c1 q0 q1
        obtain ⟨m, hs, hm2, rfl, hl, hH, hkp, hfl⟩ := hrel
        have hYr := HY.out.keep hkp
        have c1 := hYr.c1
        have HEr := hid (HE2.out.keep hkp (by have := HY.out.lt; omega) (by omega))
        have HFl := hid hfl
        have HHr := hid hH
        have HKr := hid hkp
        have HYr := hid hYr
        by_cases hlt : m < k
        · have hlt2 : (m : Int) < k := by omega
          obtain ⟨b, o, rfl, hbB, i0, i1, i2, i3, i4, i5, i6, i7⟩ := ins_at (Cs.below HC2.out (hkp.below (B := B) (by have := HY.out.lt; omega) hBg) (Nat.le_refl _)) (i := m) (by omega)
          obtain ⟨q0, _⟩ := hH m (by omega)
          have hgd := getD_at (hs := hs) (k := m) (by omega)
          have hop := hO (code[m]'(by omega)) (List.getElem_mem _)
          obtain ⟨op, hop3⟩ := Int.eq_ofNat_of_zero_le hop.1
          have hop2 : op ≤ 22 := by omega
          have hdr : code.drop m = ⟨op, (code[m]'(by omega)).a, (code[m]'(by omega)).b, (code[m]'(by omega)).s, (code[m]'(by omega)).t, (code[m]'(by omega)).w⟩ :: code.drop (m + 1) := by
            rw [List.drop_eq_getElem_cons (by omega), ← hop3]
          have HDr := hid hdr
          rw [hop3] at i0
          generalize (code[m]'(by omega)).a = ia at i1 HDr
          generalize (code[m]'(by omega)).b = ib at i2 HDr
          generalize (code[m]'(by omega)).s = is at i3 HDr
          generalize (code[m]'(by omega)).t = it at i4 HDr
          generalize (code[m]'(by omega)).w = iw at i5 i6 i7 HDr
          have HG := hid hgd
          generalize hs[m]'(by omega) = h0 at q0 HG
          have hyl := HYr.out.lt
          have hgl := HYr.out.glt
          have hba : Below wr.heap.size wr (wr.alloc (.cells #[.int .i64 op, .int .i64 ia, .int .i64 ib, .string is, .string it, .int .i64 iw.k, .int .i64 iw.n, .string iw.s] 89)) := (Below.refl _ _).alloc (Nat.le_refl _) _
          have HKa := hid (HKr.out.trans (KpB.of (g := g) hba HKr.out.size))
          have HYa := hid (HYr.out.keep (KpB.of hba (Nat.le_refl _)))
          have HHa := hid (HHr.out.kept (hba.block g hgl))
          have HEa := hid (HEr.out.keep (KpB.of (g := g) hba (Nat.le_refl _)) HEr.out.lt (by omega))
          clear hfl hH hkp hYr hdr hgd hop hop3 hba
          by_cases h00 : 0 ≤ h0
          · go_wp2_with fail
            have hcall := goOn_any _ y g cap k m op _ hs ia ib is it iw HYa.out HHa.out hl (by omega) hlt hop2 HEa.out
            go_fit hcall
            clear hcall
            rintro e w4 ⟨r, hs', rfl, ho, hn', hH', hk'⟩
            have HK4 := hid (HKa.out.trans (hk'.mono HKa.out.size))
            have HZ := hid (Nat.le_trans HKa.out.size hk'.size)
            cases r
            · have HR := hid (show flowI (startI k) 0 code = false from by rw [HFl.out, HDr.out]; exact flowI_none (by rw [HG.out]; exact h00) ho)
              have HBf := hid (HB2.out.trans (HK4.out.below (by have := HY.out.lt; omega) hBg))
              clear ho hn' hH' hk'
              go_wp2
              go_ret
              exact ⟨ret_bool HR.out.symm, HBf.out⟩
            · have HR := hid (show flowI (startI k) 0 code = flowI hs' (m + 1) (code.drop (m + 1)) from by rw [HFl.out, HDr.out]; exact flowI_some (by rw [HG.out]; exact h00) ho)
              have HH4 := hid hH'
              have HN4 := hid hn'
              clear ho hn' hH' hk'
              go_wp2
              go_roundw
              case rel => exact ⟨m + 1, hs', by omega, by go_num, HN4.out, HH4.out, HK4.out, HR.out⟩
              case measure => simp [intOf]; omega
          · have HR := hid (show flowI (startI k) 0 code = flowI hs (m + 1) (code.drop (m + 1)) from by rw [HFl.out, HDr.out]; exact flowI_skip (by rw [HG.out]; exact h00))
            go_wp2
            go_roundw
            case rel => exact ⟨m + 1, hs, by omega, by go_num, hl, HHa.out, HKa.out, HR.out⟩
            case measure => simp [intOf]; omega
        · have hlt2 : ¬ (m : Int) < k := by omega
          obtain rfl : m = k := by omega
          have HR := hid (show flowI (startI m) 0 code = true from by rw [HFl.out, ← HN.out, List.drop_length]; rfl)
          have HBf := hid (HB2.out.trans (HKr.out.below (by have := HY.out.lt; omega) hBg))
          clear hfl hH hkp hYr
          go_wp2
          go_ret
          exact ⟨ret_bool HR.out.symm, HBf.out⟩
end Go.Proofs.YtldmanfgmadbfaaGreatDoor
namespace Go.Proofs.YtldmanfgmadbfaaGreatDoor
set_option maxRecDepth 100000
open HH UU VV
open Go.RowKit Go.Maps Go.WideMaps
theorem head_split (p l k : Int) (code : List Ins) : headB p l k code = (belB p 7 && decide (p ≤ l) && decide (l ≤ 40) && belB k 41 && belB ((code.length : Int) - 1) 6000 && decide ((code.map Ins.op).getD 0 0 = 1)) := by
  unfold headB
  have : (decide (1 ≤ code.length) && decide (code.length ≤ 6000)) = belB ((code.length : Int) - 1) 6000 := by
    unfold belB
    rw [Bool.eq_iff_iff]
    simp only [Bool.and_eq_true, decide_eq_true_eq]
    omega
  rw [← this]
  simp only [Bool.and_assoc]
theorem func_head {c : Ctx} {x : VV.Fn} (h : headB x.p x.l x.c x.code = false) : funcB c x = false := by unfold funcB; rw [h]; simp
theorem take_all {α : Type} {f : α → Bool} {l : List α} {k : Nat} (h : (l.take k).all f = true) (hk : k < l.length) (hf : f l[k] = true) : (l.take (k + 1)).all f = true := by
  rw [List.take_succ_eq_append_getElem hk, List.all_append, h]; simp [hf]
theorem all_no {α : Type} {f : α → Bool} {l : List α} {k : Nat} (hk : k < l.length) (hf : f l[k] = false) : l.all f = false := by
  rw [List.all_eq_false]; exact ⟨l[k], List.getElem_mem hk, by rw [hf]; simp⟩
theorem two_boxes {w w2 : World} {a b : Array Value} {t t' : TypeId} (hw : w2 = (w.alloc (.cells a t)).alloc (.cells b t')) : Below w.heap.size w w2 ∧ w2.heap.size = w.heap.size + 2 := by
  subst hw
  exact ⟨below_2 _ _ _, by simp⟩
set_option maxHeartbeats 4000000 in
theorem mayBeFunc_any (v : Vw) (th : List Th) (x : VV.Fn) (w : World) (hV : ViewAt w v th) (hx : wfFn x) (hF : subF w (fun b => b < w.heap.size) x) (hbig : bigF x) :
    Calls Tryz.prog 51 #[viewV v, .agg #[.int .i64 x.p, .int .i64 x.l, .int .i64 x.c, .slice x.adr x.code.length x.cap]] w fun e w' => e = .returned (.bool (funcB (ctxOf v.x) x)) ∧ Below w.heap.size w w' := by
  obtain ⟨p, l, c, adr, cap, code⟩ := x
  dsimp only
  have hn : code.length ≤ 9223372036854775807 := by have : code.length * 88 ≤ 140737488355328 := hbig; omega
  have hcap : code.length ≤ cap := hx.cap
  have hb2 : Hid (Below w.heap.size w ((w.alloc (.cells #[.slice v.x.fa v.x.fs.length v.x.fcap, .slice v.x.ga v.x.gs.length v.x.gcap, .slice v.x.ra v.x.rs.length v.x.rcap, .slice v.x.ha v.x.hs.length v.x.hcap, .int .i64 v.lim, finG v.gq, finR v.rq, valF v.vq, .map (some v.pm)] 45)).alloc (.cells #[.int .i64 p, .int .i64 l, .int .i64 c, .slice adr code.length cap] 63))) := hid (below_2 _ _ _)
  have hsp := head_split p l c code
  have HF := hid hF
  have HV := hid hV
  have HX := hid hx
  clear hF hV hx hbig
  cases h1 : belB p 7 with
  | false =>
    have HR := hid (show funcB (ctxOf v.x) ⟨p, l, c, adr, cap, code⟩ = false from func_head (by dsimp only; rw [hsp, h1]; rfl))
    clear hsp
    go_enter Tryz.func51, Tryz.ntmps51
    go_wp2_with (go_at_call 48; refine (isBelow_is h1 _).mono ?_; rintro e w' ⟨rfl, rfl⟩)
    go_ret
    exact ⟨ret_bool HR.out.symm, hb2.out⟩
  | true =>
    by_cases h2 : p ≤ l
    case neg =>
      have HR := hid (show funcB (ctxOf v.x) ⟨p, l, c, adr, cap, code⟩ = false from func_head (by dsimp only; rw [hsp, h1]; simp [h2]))
      have h2b : l < p := by omega
      clear hsp
      go_enter Tryz.func51, Tryz.ntmps51
      go_wp2_with (go_at_call 48; refine (isBelow_is h1 _).mono ?_; rintro e w' ⟨rfl, rfl⟩)
      go_ret
      exact ⟨ret_bool HR.out.symm, hb2.out⟩
    by_cases h3 : l ≤ 40
    case neg =>
      have HR := hid (show funcB (ctxOf v.x) ⟨p, l, c, adr, cap, code⟩ = false from func_head (by dsimp only; rw [hsp, h1]; simp [h3]))
      have h2b : ¬ l < p := by omega
      have h3b : 40 < l := by omega
      clear hsp
      go_enter Tryz.func51, Tryz.ntmps51
      go_wp2_with (go_at_call 48; refine (isBelow_is h1 _).mono ?_; rintro e w' ⟨rfl, rfl⟩)
      go_ret
      exact ⟨ret_bool HR.out.symm, hb2.out⟩
    have h2b : ¬ l < p := by omega
    have h3b : ¬ 40 < l := by omega
    cases h4 : belB c 41 with
    | false =>
      have HR := hid (show funcB (ctxOf v.x) ⟨p, l, c, adr, cap, code⟩ = false from func_head (by dsimp only; rw [hsp, h1, h4]; simp))
      clear hsp
      go_enter Tryz.func51, Tryz.ntmps51
      go_wp2_with (go_at_call 48; refine (isBelow_any _ _ _).mono ?_; rintro e w' ⟨rfl, rfl⟩; first | rw [h1] | rw [h4])
      go_ret
      exact ⟨ret_bool HR.out.symm, hb2.out⟩
    | true =>
      cases h5 : belB ((code.length : Int) - 1) 6000 with
      | false =>
        have HR := hid (show funcB (ctxOf v.x) ⟨p, l, c, adr, cap, code⟩ = false from func_head (by dsimp only; rw [hsp, h1, h4, h5]; simp))
        clear hsp
        go_enter Tryz.func51, Tryz.ntmps51
        go_wp2_with (go_at_call 48; refine (isBelow_any _ _ _).mono ?_; rintro e w' ⟨rfl, rfl⟩; first | rw [h1] | rw [h4] | rw [h5])
        go_ret
        exact ⟨ret_bool HR.out.symm, hb2.out⟩
      | true =>
        have hlen : 1 ≤ code.length ∧ code.length ≤ 6000 := by unfold belB at h5; simp only [Bool.and_eq_true, decide_eq_true_eq] at h5; omega
        have hge : (code.map Ins.op).getD 0 0 = (code[0]'(by omega)).op := by rw [List.getD_eq_getElem?_getD, List.getElem?_map, List.getElem?_eq_getElem (by omega : 0 < code.length)]; rfl
        obtain ⟨b0, o0, ha, hb0, i0, _⟩ := ins_at (i := 0) HF.out (by omega : 0 < code.length)
        have ha : adr = some ⟨b0, o0, none⟩ := ha
        subst ha
        have hb0 : b0 < w.heap.size := hb0
        have hl0 : (0 : Int) < code.length := by omega
        rw [Nat.zero_mul, Nat.add_zero] at i0
        by_cases h6 : (code[0]'(by omega)).op = 1
        case neg =>
          have HR := hid (show funcB (ctxOf v.x) ⟨p, l, c, some ⟨b0, o0, none⟩, cap, code⟩ = false from func_head (by dsimp only; rw [hsp, h1, h4, h5, hge]; simp [h6]))
          generalize (code[0]'(by omega)).op = op0 at i0 h6
          have h6b : (op0 != 1) = true := by simp [h6]
          clear hsp hge
          go_enter Tryz.func51, Tryz.ntmps51
          go_wp2_with (go_at_call 48; refine (isBelow_any _ _ _).mono ?_; rintro e w' ⟨rfl, rfl⟩; first | rw [h1] | rw [h4] | rw [h5])
          go_ret
          exact ⟨ret_bool HR.out.symm, hb2.out⟩
        have HH := hid (show headB p l c code = true by rw [hsp, h1, h4, h5, hge]; simp [h2, h3, h6])
        rw [h6] at i0
        clear hsp hge h6
        go_enter Tryz.func51, Tryz.ntmps51
        go_wp2_with (go_at_call 48; refine (isBelow_any _ _ _).mono ?_; rintro e w' ⟨rfl, rfl⟩; first | rw [h1] | rw [h4] | rw [h5])
        obtain ⟨w2, hw2⟩ : ∃ w2, w2 = (w.alloc (.cells #[.slice v.x.fa v.x.fs.length v.x.fcap, .slice v.x.ga v.x.gs.length v.x.gcap, .slice v.x.ra v.x.rs.length v.x.rcap, .slice v.x.ha v.x.hs.length v.x.hcap, .int .i64 v.lim, finG v.gq, finR v.rq, valF v.vq, .map (some v.pm)] 45)).alloc (.cells #[.int .i64 p, .int .i64 l, .int .i64 c, .slice (some ⟨b0, o0, none⟩) code.length cap] 63) := ⟨_, rfl⟩
        rw [← hw2]
        have hz2 : w2.heap.size = w.heap.size + 2 := by rw [hw2]; simp
        have HB2 := hid (show Below w.heap.size w w2 from by rw [hw2]; exact hb2.out)
        have HVB := hid (show VBox w2 w.heap.size v from by
          rw [hw2]
          exact (vbox_new w v 45).below ((Below.refl _ _).alloc (Nat.le_refl _) _) (by simp))
        have f0 : w2.cell? ⟨w.heap.size + 1, 0, none⟩ = some (.int .i64 p) ∧ w2.cell? ⟨w.heap.size + 1, 1, none⟩ = some (.int .i64 l) ∧ w2.cell? ⟨w.heap.size + 1, 2, none⟩ = some (.int .i64 c) ∧ w2.cell? ⟨w.heap.size + 1, 3, none⟩ = some (.slice (some ⟨b0, o0, none⟩) code.length cap) := by
          rw [hw2]; refine ⟨?_, ?_, ?_, ?_⟩ <;> go_simp
        have HF0 := hid f0
        clear hw2 f0 hb2 i0
        go_loopw [47] (fun i wr => ∃ k : Nat, k ≤ code.length ∧ i = .int .i64 k ∧ (code.take k).all (instrB (ctxOf v.x) l c code.length) = true ∧ Below (w.heap.size + 2) w2 wr) (fun i _ => code.length - (intOf i).toNat)
        case atStart => exact ⟨0, Nat.zero_le _, rfl, rfl, Below.refl _ _⟩
        case round =>
          obtain ⟨k, hk, rfl, hall, hbr⟩ := hrel
          have HAl := hid hall
          have HBr := hid hbr
          have HWr := hid (HB2.out.trans (hbr.mono (by omega)))
          have hzr := hbr.size
          obtain ⟨vlt, c0, c1, c2, c3, c4, c5, c6, c7, c8⟩ := HVB.out.below hbr (by omega)
          obtain ⟨f0, f1, f2, f3⟩ := HF0.out
          have e0 := (hbr.cell (p := ⟨w.heap.size + 1, 0, none⟩) (by dsimp only; omega)).trans f0
          have e1 := (hbr.cell (p := ⟨w.heap.size + 1, 1, none⟩) (by dsimp only; omega)).trans f1
          have e2 := (hbr.cell (p := ⟨w.heap.size + 1, 2, none⟩) (by dsimp only; omega)).trans f2
          have e3 := (hbr.cell (p := ⟨w.heap.size + 1, 3, none⟩) (by dsimp only; omega)).trans f3
          clear hall hbr f0 f1 f2 f3
          have hz1 : w.heap.size + 1 < wr.heap.size := by omega
          by_cases hlt : k < code.length
          · have hlt2 : (k : Int) < code.length := by omega
            obtain ⟨b, o, hq, _, i0, i1, i2, i3, i4, i5, i6, i7⟩ := ins_at (Cs.below HF.out HWr.out (Nat.le_refl _)) (i := k) hlt
            injection hq with hq
            injection hq with hq1 hq2
            subst hq1 hq2
            have HI := hid (HX.out.code _ (List.getElem_mem hlt))
            have HYes := hid (fun h => take_all (f := instrB (ctxOf v.x) l c code.length) HAl.out hlt h)
            have HNo := hid (fun h => all_no (f := instrB (ctxOf v.x) l c code.length) hlt h)
            generalize code[k]'(hlt) = ii at i0 i1 i2 i3 i4 i5 i6 i7 HI HYes HNo
            obtain ⟨op, ia, ib, is, it, iw⟩ := ii
            dsimp only at i0 i1 i2 i3 i4 i5 i6 i7
            have hba : Below wr.heap.size wr (wr.alloc (.cells #[.int .i64 op, .int .i64 ia, .int .i64 ib, .string is, .string it, .int .i64 iw.k, .int .i64 iw.n, .string iw.s] 89)) := (Below.refl _ _).alloc (Nat.le_refl _) _
            have HBa := hid (HBr.out.trans (hba.mono (by omega)))
            have HVa := hid (HV.out.below (HWr.out.trans (hba.mono (by omega))))
            clear hba
            go_wp2_with fail
            have hcall := mayBeInstr_any v th op ia ib is it iw p l c (some ⟨b0, o0, none⟩) code.length cap _ HVa.out HI.out hn
            go_fit hcall
            clear hcall
            rintro e w4 ⟨rfl, hb4⟩
            have HB4 := hid (HBa.out.trans (hb4.mono (by simp; omega)))
            clear hb4
            cases hi : instrB (ctxOf v.x) l c code.length ⟨op, ia, ib, is, it, iw⟩ with
            | false =>
              have HR := hid (show funcB (ctxOf v.x) ⟨p, l, c, some ⟨b0, o0, none⟩, cap, code⟩ = false from by unfold funcB; dsimp only; rw [HNo.out hi]; simp)
              have HBf := hid (HB2.out.trans (HB4.out.mono (by omega)))
              go_wp2
              go_ret
              exact ⟨ret_bool HR.out.symm, HBf.out⟩
            | true =>
              have HY := hid (HYes.out hi)
              go_wp2
              go_roundw
              case rel => exact ⟨k + 1, by omega, by go_num, HY.out, HB4.out⟩
              case measure => simp [intOf]; omega
          · have hlt2 : ¬ (k : Int) < code.length := by omega
            obtain rfl : k = code.length := by omega
            have hal : code.all (instrB (ctxOf v.x) l c code.length) = true := by have := HAl.out; rwa [List.take_length] at this
            have HR := hid (show funcB (ctxOf v.x) ⟨p, l, c, some ⟨b0, o0, none⟩, cap, code⟩ = flowI (startI code.length) 0 code from by unfold funcB; dsimp only; rw [HH.out, hal]; simp)
            have hO : OpsIn code := fun i hi => by have := instrB_op (List.all_eq_true.1 hal i hi); omega
            have hba : Below wr.heap.size wr (wr.alloc (.cells #[.slice (some ⟨b0, o0, none⟩) code.length cap, .slice none 0 0] 121)) := (Below.refl _ _).alloc (Nat.le_refl _) _
            have hH := hid (hold_any (wr.alloc (.cells #[.slice (some ⟨b0, o0, none⟩) code.length cap, .slice none 0 0] 121)) w.heap.size wr.heap.size code.length cap (some ⟨b0, o0, none⟩) code (Cs.below HF.out (HWr.out.trans (hba.mono (by omega))) (Nat.le_refl _)) rfl hlen.1 hlen.2 hO
              (HV.out.eff.below (HWr.out.trans (hba.mono (by omega))) HV.out.eff.lt) (by omega) (by simp) HV.out.eff.lt (by go_simp) (by go_simp) (by go_simp))
            have HBa := hid (HWr.out.trans (hba.mono (by omega)))
            clear hba hal hO
            go_wp2_with fail
            have hcall := hH.out
            go_fit hcall
            clear hcall
            rintro e w4 ⟨rfl, hb4⟩
            have HB4 := hid (HBa.out.trans hb4)
            clear hb4
            go_wp2
            go_ret
            exact ⟨ret_bool HR.out.symm, HB4.out⟩
end Go.Proofs.YtldmanfgmadbfaaGreatDoor
namespace Go.Proofs.YtldmanfgmadbfaaGreatDoor
set_option maxRecDepth 100000
open HH UU VV
open Go.RowKit Go.Maps Go.WideMaps
/-- The place of a function that makes a field of so many old ones. -/
def moveB (fs : List VV.Fn) (n : Nat) (i : Int) : Bool := belB i fs.length && (match fs[i.toNat]? with
  | none => false
  | some f => decide (f.p = n) && (decide (f.c = 0) && !(f.code.any outM)))
theorem moveB_at {fs : List VV.Fn} {n j : Nat} (h : j < fs.length) : moveB fs n (j : Int) = (decide (fs[j].p = n) && (decide (fs[j].c = 0) && !(fs[j].code.any outM))) := by
  unfold moveB belB
  rw [Int.toNat_natCast, List.getElem?_eq_getElem h]
  simp [h]
theorem below_3' (w : World) (o o' o'' : Obj) : (((w.alloc o).alloc o').alloc o'').heap.size = w.heap.size + 3 := by simp
set_option maxHeartbeats 4000000 in
theorem mayBeMoves_any (v : Vw) (th : List Th) (ma : Option Addr) (mcap : Nat) (pl : List Int) (on nn : ByteArray) (oa na : Option Addr) (ofl ocap nfl ncap : Nat) (w : World) (hV : ViewAt w v th)
    (hFs : ∀ f, f ∈ v.x.fs → ∀ i, i ∈ f.code → 1 ≤ i.op ∧ i.op ≤ 22) (hM : Cs w (fun b => b < w.heap.size) ma (flatC intC pl)) (hpl : pl.length ≤ 9223372036854775807) :
    Calls Tryz.prog 72 #[viewV v, .slice ma pl.length mcap, .agg #[.string on, .slice oa ofl ocap], .agg #[.string nn, .slice na nfl ncap]] w fun e w' =>
      e = .returned (.bool (decide (pl.length = nfl) && pl.all (moveB v.x.fs ofl))) ∧ Below w.heap.size w w' := by
  obtain ⟨w3, hw3⟩ : ∃ w3, w3 = ((w.alloc (.cells #[.slice v.x.fa v.x.fs.length v.x.fcap, .slice v.x.ga v.x.gs.length v.x.gcap, .slice v.x.ra v.x.rs.length v.x.rcap, .slice v.x.ha v.x.hs.length v.x.hcap, .int .i64 v.lim, finG v.gq, finR v.rq, valF v.vq, .map (some v.pm)] 45)).alloc (.cells #[.string on, .slice oa ofl ocap] 65)).alloc (.cells #[.string nn, .slice na nfl ncap] 65) := ⟨_, rfl⟩
  have HB3 := hid (show Below w.heap.size w w3 by rw [hw3]; exact below_3 _ _ _ _)
  have hz3 : w3.heap.size = w.heap.size + 3 := by rw [hw3]; simp
  have HVB := hid (show VBox w3 w.heap.size v from by
    rw [hw3]
    exact (vbox_new w v 45).below (((Below.refl _ _).alloc (Nat.le_refl _) _).alloc (by simp) _) (by simp))
  have b1 : w3.cell? ⟨w.heap.size + 1, 1, none⟩ = some (.slice oa ofl ocap) ∧ w3.cell? ⟨w.heap.size + 2, 1, none⟩ = some (.slice na nfl ncap) := by
    rw [hw3]; refine ⟨?_, ?_⟩ <;> go_simp
  obtain ⟨b1, b2⟩ := b1
  have HV := hid hV
  have HM := hid hM
  have H3 := hid hw3
  have hfs : v.x.fs.length ≤ 9223372036854775807 := by have := hV.big.f; omega
  clear hV hM hw3
  by_cases hln : pl.length = nfl
  case neg =>
    have hln2 : ((pl.length : Int) != nfl) = true := by simp; omega
    have HR := hid (show (decide (pl.length = nfl) && pl.all (moveB v.x.fs ofl)) = false by simp [hln])
    clear b1 b2
    go_enter Tryz.func72, Tryz.ntmps72
    go_wp2_with fail
    rw [← H3.out]
    go_ret
    exact ⟨ret_bool HR.out.symm, HB3.out⟩
  have HR := hid (show (decide (pl.length = nfl) && pl.all (moveB v.x.fs ofl)) = pl.all (moveB v.x.fs ofl) by simp [hln])
  have HLn := hid hln
  have hln2 : ((pl.length : Int) != nfl) = false := by simp; omega
  clear hln
  go_enter Tryz.func72, Tryz.ntmps72
  go_wp2_with fail
  rw [← H3.out]
  go_loopw [20] (fun i wr => ∃ k : Nat, k ≤ pl.length ∧ i = .int .i64 k ∧ (pl.take k).all (moveB v.x.fs ofl) = true ∧ Below (w.heap.size + 3) w3 wr) (fun i _ => pl.length - (intOf i).toNat)
  case atStart => exact ⟨0, Nat.zero_le _, rfl, rfl, Below.refl _ _⟩
  case round =>
    obtain ⟨k, hk, rfl, hall, hbr⟩ := hrel
    have HAl := hid hall
    have HBr := hid hbr
    have HWr := hid (HB3.out.trans (hbr.mono (by omega)))
    have hzr := hbr.size
    obtain ⟨vlt, c0, c1, c2, c3, c4, c5, c6, c7, c8⟩ := HVB.out.below hbr (by omega)
    have d1 := (hbr.cell (p := ⟨w.heap.size + 1, 1, none⟩) (by dsimp only; omega)).trans b1
    have hz1 : w.heap.size + 1 < wr.heap.size := by omega
    clear hall hbr c1 c2 c3 c4 c5 c6 c7 c8
    by_cases hlt : k < pl.length
    · have hlt2 : (k : Int) < pl.length := by omega
      obtain ⟨b, o, rfl, hbb, i0⟩ := int_at (Cs.below HM.out HWr.out (Nat.le_refl _)) (i := k) hlt
      have HYes := hid (fun h => take_all (f := moveB v.x.fs ofl) HAl.out hlt h)
      have HNo := hid (fun h => all_no (f := moveB v.x.fs ofl) hlt h)
      generalize pl[k]'hlt = x at i0 HYes HNo
      by_cases hin : 0 ≤ x ∧ x < v.x.fs.length
      case neg =>
        have hbl : belB x v.x.fs.length = false := by rw [Bool.eq_false_iff]; intro e; unfold belB at e; simp only [Bool.and_eq_true, decide_eq_true_eq] at e; exact hin e
        have HR2 := hid (HR.out.trans (HNo.out (by unfold moveB; rw [hbl]; rfl)))
        clear hin
        go_wp2_with (go_at_call 48; refine (isBelow_is hbl _).mono ?_; rintro e w' ⟨rfl, rfl⟩)
        go_ret
        exact ⟨ret_bool HR2.out.symm, HWr.out⟩
      obtain ⟨j, rfl⟩ := Int.eq_ofNat_of_zero_le hin.1
      have hj : j < v.x.fs.length := by omega
      have hj2 : (j : Int) < v.x.fs.length := by omega
      have hbl : belB (j : Int) v.x.fs.length = true := by unfold belB; simp [hj]
      obtain ⟨q, qo, hq, hqB, j0, j1, j2, j3⟩ := fn_at (Cs.below HV.out.sub.f HWr.out (Nat.le_refl _)) hj
      have hmv := moveB_at (n := ofl) hj
      have HO := hid (hFs _ (List.getElem_mem hj))
      have HSf := hid (HV.out.sub.fs _ (List.getElem_mem hj))
      have hbig : (v.x.fs[j]'hj).code.length ≤ 9223372036854775807 := by have : (v.x.fs[j]'hj).code.length * 88 ≤ 140737488355328 := HV.out.big.fs _ (List.getElem_mem hj); omega
      have HMv := hid hmv
      rw [hq] at c0
      clear hmv hq hin
      generalize v.x.fs[j]'hj = f at j0 j1 j2 j3 HMv HO HSf hbig
      obtain ⟨p, l, c, fa, fcap, code⟩ := f
      dsimp only at j0 j1 j2 j3 hbig HMv
      have hba : Below wr.heap.size wr (wr.alloc (.cells #[.int .i64 p, .int .i64 l, .int .i64 c, .slice fa code.length fcap] 63)) := (Below.refl _ _).alloc (Nat.le_refl _) _
      have HBa := hid (HBr.out.trans (hba.mono (by omega)))
      have HWa := hid (HWr.out.trans (hba.mono (by omega)))
      clear hba
      by_cases hp : p = ofl
      case neg =>
        have hp2 : (p != ofl) = true := by simp [hp]
        have HR2 := hid (HR.out.trans (HNo.out (by rw [HMv.out]; simp [hp])))
        clear hp
        go_wp2_with (go_at_call 48; refine (isBelow_is hbl _).mono ?_; rintro e w' ⟨rfl, rfl⟩)
        go_ret
        exact ⟨ret_bool HR2.out.symm, HWa.out⟩
      subst hp
      by_cases hc0 : c = 0
      case neg =>
        have hc2 : (c != 0) = true := by simp [hc0]
        have HR2 := hid (HR.out.trans (HNo.out (by rw [HMv.out]; simp [hc0])))
        clear hc0
        go_wp2_with (go_at_call 48; refine (isBelow_is hbl _).mono ?_; rintro e w' ⟨rfl, rfl⟩)
        go_ret
        exact ⟨ret_bool HR2.out.symm, HWa.out⟩
      subst hc0
      have HCo := hid (containsIns_any _ fa code.length fcap code (Cs.below HSf.out HWa.out HWa.out.size) rfl hbig HO.out (HV.out.eff.below HWa.out HV.out.eff.lt))
      go_wp2_with (go_at_call 48; refine (isBelow_is hbl _).mono ?_; rintro e w' ⟨rfl, rfl⟩)
      have hcall := HCo.out
      go_fit hcall
      clear hcall
      rintro e w4 ⟨rfl, hb4⟩
      have HB4 := hid (HBa.out.trans (hb4.mono (by simp; omega)))
      have HW4 := hid (HB3.out.trans (HB4.out.mono (by omega)))
      clear hb4
      cases hm : code.any outM with
      | true =>
        have HR2 := hid (HR.out.trans (HNo.out (by rw [HMv.out, hm]; simp)))
        go_wp2
        go_ret
        exact ⟨ret_bool HR2.out.symm, HW4.out⟩
      | false =>
        have HY := hid (HYes.out (by rw [HMv.out, hm]; simp))
        go_wp2
        go_roundw
        case rel => exact ⟨k + 1, by omega, by go_num, HY.out, HB4.out⟩
        case measure => simp [intOf]; omega
    · have hlt2 : ¬ (k : Int) < pl.length := by omega
      obtain rfl : k = pl.length := by omega
      have hal : pl.all (moveB v.x.fs ofl) = true := by have := HAl.out; rwa [List.take_length] at this
      have HR2 := hid (HR.out.trans hal)
      clear hal
      go_wp2
      go_ret
      exact ⟨ret_bool HR2.out.symm, HWr.out⟩
end Go.Proofs.YtldmanfgmadbfaaGreatDoor
namespace Go.Proofs.YtldmanfgmadbfaaGreatDoor.UU
set_option maxRecDepth 100000
open Go.RowKit Go.WideMaps Go.Maps
def globI (gs : List ByteArray) (i : Nat) : Int := match gs[i]? with
  | some s => if freeB s.data.toList = false then 4 else if hasS (gs.take i) s = true then 7 else 0
  | none => 0
def recI (l : List Sh) (i : Nat) : Int := match l[i]? with
  | some s => if ¬ shapeI s.name s.fs = 0 then shapeI s.name s.fs else if 0 ≤ posI l i s.name then 7 else 0
  | none => 0
def envI (gs : List ByteArray) (l : List Sh) : Int :=
  if 40 < gs.length ∨ 8 < l.length then 1 else if ¬ firstI (globI gs) 0 gs.length = 0 then firstI (globI gs) 0 gs.length else firstI (recI l) 0 l.length
theorem globI_at (gs : List ByteArray) (i : Nat) (h : i < gs.length) : globI gs i = if freeB gs[i].data.toList = false then 4 else if hasS (gs.take i) gs[i] = true then 7 else 0 := by
  unfold globI; rw [List.getElem?_eq_getElem h]
theorem recI_at (l : List Sh) (i : Nat) (h : i < l.length) : recI l i = if ¬ shapeI l[i].name l[i].fs = 0 then shapeI l[i].name l[i].fs else if 0 ≤ posI l i l[i].name then 7 else 0 := by
  unfold recI; rw [List.getElem?_eq_getElem h]
theorem envI_many {gs : List ByteArray} {l : List Sh} (h : 40 < gs.length ∨ 8 < l.length) : envI gs l = 1 := by unfold envI; rw [if_pos h]
theorem envI_glob {gs : List ByteArray} {l : List Sh} (h : ¬ (40 < gs.length ∨ 8 < l.length)) (h2 : ¬ firstI (globI gs) 0 gs.length = 0) : envI gs l = firstI (globI gs) 0 gs.length := by unfold envI; rw [if_neg h, if_pos h2]
theorem envI_rec {gs : List ByteArray} {l : List Sh} (h : ¬ (40 < gs.length ∨ 8 < l.length)) (h2 : firstI (globI gs) 0 gs.length = 0) : envI gs l = firstI (recI l) 0 l.length := by unfold envI; rw [if_neg h, if_neg (by simpa using h2)]
theorem foundV_shape (l : List Sh) (p : Int) : ∃ n a len cap, foundV l p = .agg #[.string n, .slice a len cap] := by
  unfold foundV emptySh
  split
  · split
    · exact ⟨_, _, _, _, rfl⟩
    · exact ⟨_, _, _, _, rfl⟩
  · exact ⟨_, _, _, _, rfl⟩
set_option maxHeartbeats 2000000 in
theorem checkEnv_any (W : World) (B : Nat) (k p : Nat) (ga sa : Option Addr) (gs : List ByteArray) (l : List Sh) (gl gc sl sc : Nat) (w : World) (hgl : gl = gs.length) (hsl : sl = l.length) (hg : gl ≤ 9223372036854775807) (hs : sl ≤ 9223372036854775807) (hgc : gl ≤ gc) (hsc : sl ≤ sc)
    (hWo : Words w k p) (hB : Below B W w) (hBw : B ≤ w.heap.size) (hG : Strs W B ga gs) (hS : Shs W B sa l) :
    Calls Tryz.prog 88 #[.agg #[.map (some k), .map (some p)], .agg #[.slice ga gl gc, .slice sa sl sc]] w fun e w' => e = .returned (.int .i64 (envI gs l)) ∧ Below w.heap.size w w' := by
  have hb0 := hid (below2 w (.cells #[.map (some k), .map (some p)] 142) (.cells #[.slice ga gl gc, .slice sa sl sc] 36))
  have HG := hid hgl
  have HS := hid hsl
  clear hgl hsl
  by_cases hm1 : 40 < gl
  · have HE := hid (envI_many (gs := gs) (l := l) (Or.inl (by rw [← HG.out]; exact hm1)))
    have hm2 : (40 : Int) < gl := by omega
    go_enter Tryz.func88, Tryz.ntmps88
    go_wp2_with fail
    go_ret
    exact ⟨ret_int HE.out.symm, hb0.out⟩
  by_cases hm3 : 8 < sl
  · have HE := hid (envI_many (gs := gs) (l := l) (Or.inr (by rw [← HS.out]; exact hm3)))
    have hm2 : ¬ (40 : Int) < gl := by omega
    have hm4 : (8 : Int) < sl := by omega
    go_enter Tryz.func88, Tryz.ntmps88
    go_wp2_with fail
    go_ret
    exact ⟨ret_int HE.out.symm, hb0.out⟩
  have hno : Hid (¬ (40 < gs.length ∨ 8 < l.length)) := hid (by rw [← HG.out, ← HS.out]; omega)
  have hm2 : ¬ (40 : Int) < gl := by omega
  have hm4 : ¬ (8 : Int) < sl := by omega
  go_enter Tryz.func88, Tryz.ntmps88
  go_wp2_with fail
  go_loopw [25] (fun i wr => ∃ j : Nat, j ≤ gl ∧ i = .int .i64 j ∧ firstI (globI gs) 0 gs.length = firstI (globI gs) j (gs.length - j) ∧ Below (w.heap.size + 2) ((w.alloc (.cells #[.map (some k), .map (some p)] 142)).alloc (.cells #[.slice ga gl gc, .slice sa sl sc] 36)) wr) (fun i _ => gl - (intOf i).toNat)
  case atStart => exact ⟨0, Nat.zero_le _, rfl, rfl, Below.refl _ _⟩
  case round =>
    obtain ⟨j, hj, rfl, hfi, hbr⟩ := hrel
    have HF := hid hfi
    have hBr := hid ((hB.trans (hb0.out.mono hBw)).trans (hbr.mono (by omega)))
    have hsz := hbr.size
    simp at hsz
    clear hfi
    have hWr := hid (hWo.below (hb0.out.trans (hbr.mono (by omega))))
    obtain ⟨g0, g1, g2, g3⟩ := boxes22 hbr
    by_cases hlt : j < gl
    · have hj2 : j < gs.length := by rw [← HG.out]; exact hlt
      obtain ⟨hss, b, o, rfl, hbB, hc⟩ := (hG.below hBr.out) j hj2
      have HX := hid (globI_at gs j hj2)
      have HSt := hid (firstI_step (globI gs) gs.length j hj2)
      have HT := hid (firstI_stop (globI gs) gs.length j hj2)
      generalize hy : gs[j] = y at HX hc hss
      clear hy
      cases hnm : freeB y.data.toList
      · have e4 := HX.out
        rw [if_pos hnm] at e4
        have HTT := hid (HT.out (by rw [e4]; decide))
        have HE := hid (envI_glob (l := l) hno.out (by rw [HF.out, HTT.out, e4]; decide))
        go_wp2_with fail
        have hcall := isFree_any k p y wr hss hWr.out
        rw [hnm] at hcall
        go_fit hcall
        rintro e w2 ⟨rfl, hb2⟩
        go_wp2_with fail
        go_ret
        exact ⟨ret_int (by rw [HE.out, HF.out, HTT.out, e4]), hb0.out.trans ((hbr.mono (by omega)).trans (hb2.mono (by omega)))⟩
      · go_wp2_with fail
        have hcall := isFree_any k p y wr hss hWr.out
        rw [hnm] at hcall
        go_fit hcall
        rintro e w2 ⟨rfl, hb2⟩
        clear hcall g0 g1 g2 g3
        have hbr2 := hbr.trans (hb2.mono (by omega))
        obtain ⟨g0, g1, g2, g3⟩ := boxes22 hbr2
        have hS2 := hid ((hG.below hBr.out).below (hb2.mono (by omega)))
        clear hbr hb2 hBr
        cases hcn : hasS (gs.take j) y
        · have e0 := HX.out
          rw [if_neg (by simp [hnm]), if_neg (by simp [hcn])] at e0
          have HSS := hid (HSt.out e0)
          clear e0 HX HSt HT
          go_wp2_with fail
          have hcall := contains_any w2 B _ gs j gc y hS2.out (by omega) (by omega)
          rw [hcn] at hcall
          go_fit hcall
          rintro e w3 ⟨rfl, rfl⟩
          go_wp2_with fail
          go_roundw
          case rel => exact ⟨j + 1, by omega, by go_num, HF.out.trans HSS.out, hbr2⟩
          case measure => simp [intOf]; omega
        · have e7 := HX.out
          rw [if_neg (by simp [hnm]), if_pos hcn] at e7
          have HTT := hid (HT.out (by rw [e7]; decide))
          have HE := hid (envI_glob (l := l) hno.out (by rw [HF.out, HTT.out, e7]; decide))
          clear HX HSt HT
          go_wp2_with fail
          have hcall := contains_any w2 B _ gs j gc y hS2.out (by omega) (by omega)
          rw [hcn] at hcall
          go_fit hcall
          rintro e w3 ⟨rfl, rfl⟩
          go_wp2_with fail
          go_ret
          exact ⟨ret_int (by rw [HE.out, HF.out, HTT.out, e7]), hb0.out.trans (hbr2.mono (by omega))⟩
    · have HTT := hid (firstI_end (globI gs) gs.length j (by rw [← HG.out]; exact hlt))
      have HE := hid (envI_rec hno.out (HF.out.trans HTT.out))
      clear HF HTT hBr hWr
      go_wp2_with fail
      go_loopw [44] (fun i wr => ∃ j : Nat, j ≤ sl ∧ i = .int .i64 j ∧ firstI (recI l) 0 l.length = firstI (recI l) j (l.length - j) ∧ Below (w.heap.size + 2) ((w.alloc (.cells #[.map (some k), .map (some p)] 142)).alloc (.cells #[.slice ga gl gc, .slice sa sl sc] 36)) wr) (fun i _ => sl - (intOf i).toNat)
      case atStart => exact ⟨0, Nat.zero_le _, rfl, rfl, hbr⟩
      case round =>
        clear g0 g1 g2 g3 hbr hsz hlt hj
        obtain ⟨i, hi, rfl, hfi, hbr⟩ := hrel
        have HF := hid hfi
        have hBr := hid ((hB.trans (hb0.out.mono hBw)).trans (hbr.mono (by omega)))
        have hsz := hbr.size
        simp at hsz
        clear hfi
        obtain ⟨g0, g1, g2, g3⟩ := boxes22 hbr
        by_cases hlt : i < sl
        · have hj2 : i < l.length := by rw [← HS.out]; exact hlt
          obtain ⟨b, o, rfl, hbB, c0, c1, hn1, hn2, hn3, hn4⟩ := (hS.below hBr.out) i hj2
          have HX := hid (recI_at l i hj2)
          have HSt := hid (firstI_step (recI l) l.length i hj2)
          have HT := hid (firstI_stop (recI l) l.length i hj2)
          generalize (l[i]'hj2).name = y at HX c0 hn1
          generalize (l[i]'hj2).adr = ya at c1 hn4
          generalize (l[i]'hj2).fs = yf at HX c1 hn2 hn3 hn4
          generalize (l[i]'hj2).cap = yc at c1 hn2
          generalize hyl : yf.length = yl at c1
          have hyl2 : yl ≤ yc := by omega
          have hyl3 : yl ≤ 9223372036854775807 := by unfold maxLen at hn3; omega
          have HY := hid hyl
          clear hyl hn2 hn3
          have hWr := hid ((hWo.below (hb0.out.trans (hbr.mono (by omega)))).below ((Below.refl wr.heap.size wr).alloc (Nat.le_refl _) (.cells #[.string y, .slice ya yl yc] 65)))
          have hBa := hid ((Below.refl B wr).alloc (by omega) (.cells #[.string y, .slice ya yl yc] 65))
          have hl1 : w.heap.size < wr.heap.size := by omega
          have hl2 : w.heap.size + 1 < wr.heap.size := by omega
          by_cases hse : shapeI y yf = 0
          · have e1 := HX.out
            rw [if_neg (by simpa using hse)] at e1
            have HX1 := hid e1
            clear e1 HX
            go_wp2_with fail
            have hcall := checkShape_any wr B k p y ya yf yl yc _ hn1 HY.out.symm hyl3 hyl2 hWr.out hBa.out (by simp; omega) hn4
            rw [hse] at hcall
            go_fit hcall
            clear hcall
            rintro e w2 ⟨rfl, hb2⟩
            have hb3 := hid (hbr.trans ((((Below.refl wr.heap.size wr).alloc (Nat.le_refl _) (.cells #[.string y, .slice ya yl yc] 65)).trans (hb2.mono (by simp))).mono (by omega)))
            obtain ⟨x0, x1, x2, x3⟩ := boxes22 hb3.out
            have hsy : w2.cell? ⟨wr.heap.size, 0, none⟩ = some (.string y) := by
              rw [hb2.cell (p := ⟨wr.heap.size, 0, none⟩) (by simp)]; go_simp
            have hz2 : wr.heap.size + 1 ≤ w2.heap.size := by have h := hb2.size; simpa using h
            have hl3 : w.heap.size + 1 < w2.heap.size := by omega
            have hl4 : wr.heap.size < w2.heap.size := by omega
            have hS2 := hid (hS.below ((hB.trans (hb0.out.mono hBw)).trans (hb3.out.mono (by omega))))
            have hisc : i ≤ sc := by omega
            have HC := hid (fun (X : World) (q : Nat) (h : Below w2.heap.size w2 X) => find_any B _ l i sc q y X (hS2.out.below (h.mono (by omega))) (by have := h.size; omega) (by omega) (by omega))
            clear c0 c1 hb2 g0 g1 g2 g3 hbr
            go_upto_region 17 with fail
            go_cut [11] (fun ok wx => ok = .bool (decide (0 ≤ posI l i y)) ∧ Below w2.heap.size w2 wx)
            case first =>
              go_region_with (first
                | (go_at_call 99; refine (finder_any _ _ _ _).mono ?_; rintro e w' ⟨rfl, rfl⟩)
                | (go_at_call 102; refine (HC.out _ _ (by repeat (first | exact Below.refl _ _ | refine Below.drew ?_ | refine Below.alloc ?_ (by first | omega | (simp <;> omega)) _)) (by simp <;> omega) (by go_simp)).mono ?_; rintro e w3 ⟨rfl, hb4⟩; have hbw : Below w2.heap.size w2 w3 := Below.trans (by repeat (first | exact Below.refl _ _ | refine Below.drew ?_ | refine Below.alloc ?_ (by first | omega | (simp <;> omega)) _)) (hb4.mono (by simp <;> omega)); obtain ⟨hcc, hff⟩ := bcell hb4; obtain ⟨n9, a9, l9, c9, hfv⟩ := foundV_shape l (posI l i y); rw [hfv]))
              all_goals go_wp2_with fail
              all_goals go_meet
              all_goals (refine ⟨rfl, ?_⟩; have hz9 := hbw.size; clear hcc hff; repeat (first | exact hbw | refine Below.alloc ?_ (by first | omega | (simp <;> omega)) _ | refine Below.setCell ?_ (by first | omega | (simp <;> omega)) _ | refine Below.drew ?_))
            case rest =>
              obtain ⟨rfl, hbx⟩ := hcut
              by_cases hpos : 0 ≤ posI l i y
              · have e7 := HX1.out
                rw [if_pos hpos] at e7
                have HTT := hid (HT.out (by rw [e7]; decide))
                clear HX1 HSt HT
                go_wp2_with fail
                go_ret
                exact ⟨ret_int (by rw [HE.out, HF.out, HTT.out, e7]), hb0.out.trans ((hb3.out.trans (hbx.mono (by omega))).mono (by omega))⟩
              · have e0 := HX1.out
                rw [if_neg hpos] at e0
                have HSS := hid (HSt.out e0)
                clear e0 HX1 HSt HT
                go_wp2_with fail
                go_roundw
                case rel => exact ⟨i + 1, by omega, by go_num, HF.out.trans HSS.out, hb3.out.trans (hbx.mono (by omega))⟩
                case measure => simp [intOf]; omega
          · have e1 := HX.out
            rw [if_pos hse] at e1
            have HTT := hid (HT.out (by rw [e1]; exact hse))
            clear HX HT HSt
            generalize hr : shapeI y yf = r at hse e1
            have HR := hid hr
            have HE1 := hid e1
            clear hr e1
            go_wp2_with fail
            have hcall := checkShape_any wr B k p y ya yf yl yc _ hn1 HY.out.symm hyl3 hyl2 hWr.out hBa.out (by simp; omega) hn4
            rw [HR.out] at hcall
            go_fit hcall
            clear hcall
            rintro e w2 ⟨rfl, hb2⟩
            go_wp2_with fail
            go_ret
            exact ⟨ret_int (by rw [HE.out, HF.out, HTT.out, HE1.out]), hb0.out.trans ((hbr.mono (by omega)).trans (((Below.refl _ _).alloc (Nat.le_refl _) _ |>.trans (hb2.mono (by simp))).mono (by omega)))⟩
        · have HTT := hid (firstI_end (recI l) l.length i (by rw [← HS.out]; exact hlt))
          go_wp2_with fail
          go_ret
          exact ⟨ret_int (by rw [HE.out, HF.out, HTT.out]), hb0.out.trans (hbr.mono (by omega))⟩
end Go.Proofs.YtldmanfgmadbfaaGreatDoor.UU
namespace Go.Proofs.YtldmanfgmadbfaaGreatDoor.UU
set_option maxRecDepth 100000
open Go.RowKit Go.WideMaps Go.Maps
theorem Fill2.words {w0 w : World} {k p : Nat} (h : Fill2 w0 w k keyws p prims) : Words w k p := ⟨h.one.own, h.own⟩
set_option maxHeartbeats 400000 in
theorem Check_any (W : World) (B : Nat) (ga sa : Option Addr) (gs : List ByteArray) (l : List Sh) (gl gc sl sc : Nat) (w : World) (hgl : gl = gs.length) (hsl : sl = l.length) (hg : gl ≤ 9223372036854775807) (hs : sl ≤ 9223372036854775807) (hgc : gl ≤ gc) (hsc : sl ≤ sc)
    (hB : Below B W w) (hBw : B ≤ w.heap.size) (hG : Strs W B ga gs) (hS : Shs W B sa l) :
    Calls Tryz.prog 75 #[.agg #[.slice ga gl gc, .slice sa sl sc]] w fun e w' => e = .returned (.int .i64 (envI gs l)) ∧ Below w.heap.size w w' := by
  have hb0 := hid ((Below.refl w.heap.size w).alloc (Nat.le_refl _) (.cells #[.slice ga gl gc, .slice sa sl sc] 36))
  have hL := hid hgl
  have hM := hid hsl
  clear hgl hsl
  go_enter Tryz.func75, Tryz.ntmps75
  go_wp2_with fail
  go_region_with (first
    | (go_at_call 84; refine (newWords_any _).mono ?_; rintro e w1 ⟨k, p, rfl, hF⟩
       have hb1 : Below (w.heap.size + 1) (w.alloc (.cells #[.slice ga gl gc, .slice sa sl sc] 36)) w1 := by
         have h := hF.one.bel
         exact ⟨h.os, h.tape, h.output, h.size, fun k hk => h.block k (by simpa using hk)⟩
       have hz : w.heap.size + 1 ≤ w1.heap.size := by have h := hb1.size; simpa using h
       obtain ⟨g2, g3⟩ := box22 hb1
       have hW := hid (hF.words)
       have hB1 := hid (hB.trans ((hb0.out.trans (hb1.mono (by omega))).mono hBw))
       clear hF)
    | (go_at_call 88; refine (checkEnv_any W B k p ga sa gs l gl gc sl sc w1 hL.out hM.out hg hs hgc hsc hW.out hB1.out (by omega) hG hS).mono ?_; rintro e w2 ⟨rfl, hb2⟩))
  all_goals (go_wp2; go_ret; exact ⟨rfl, (hb0.out.trans (hb1.mono (by omega))).trans (hb2.mono (by omega))⟩)
end Go.Proofs.YtldmanfgmadbfaaGreatDoor.UU
namespace Go.Proofs.YtldmanfgmadbfaaGreatDoor.UU
set_option maxRecDepth 100000
open Go.RowKit Go.WideMaps Go.Maps
set_option maxHeartbeats 400000 in
theorem CheckShape_any (W : World) (B : Nat) (n : ByteArray) (a : Option Addr) (ss : List ByteArray) (len cap : Nat) (w : World) (hn : n.size ≤ maxLen) (hlen : len = ss.length) (hl : len ≤ 9223372036854775807) (hcap : len ≤ cap)
    (hB : Below B W w) (hBw : B ≤ w.heap.size) (hS : Strs W B a ss) :
    Calls Tryz.prog 71 #[.agg #[.string n, .slice a len cap]] w fun e w' => e = .returned (.int .i64 (shapeI n ss)) ∧ Below w.heap.size w w' := by
  have hb0 := hid ((Below.refl w.heap.size w).alloc (Nat.le_refl _) (.cells #[.string n, .slice a len cap] 65))
  have hL := hid hlen
  clear hlen
  go_enter Tryz.func71, Tryz.ntmps71
  go_wp2_with fail
  go_region_with (first
    | (go_at_call 84; refine (newWords_any _).mono ?_; rintro e w1 ⟨k, p, rfl, hF⟩
       have hb1 : Below (w.heap.size + 1) (w.alloc (.cells #[.string n, .slice a len cap] 65)) w1 := by
         have h := hF.one.bel
         exact ⟨h.os, h.tape, h.output, h.size, fun k hk => h.block k (by simpa using hk)⟩
       have hz : w.heap.size + 1 ≤ w1.heap.size := by have h := hb1.size; simpa using h
       obtain ⟨g2, g3⟩ := box22 hb1
       have hW := hid (hF.words)
       have hB1 := hid (hB.trans ((hb0.out.trans (hb1.mono (by omega))).mono hBw))
       clear hF)
    | (go_at_call 85; refine (checkShape_any W B k p n a ss len cap w1 hn hL.out hl hcap hW.out hB1.out (by omega) hS).mono ?_; rintro e w2 ⟨rfl, hb2⟩))
  all_goals (go_wp2; go_ret; exact ⟨rfl, (hb0.out.trans (hb1.mono (by omega))).trans (hb2.mono (by omega))⟩)
end Go.Proofs.YtldmanfgmadbfaaGreatDoor.UU
