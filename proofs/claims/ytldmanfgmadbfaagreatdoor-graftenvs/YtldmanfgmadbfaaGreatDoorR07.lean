/- May a world be: the document's WorldMay. (Written by wip/tools/mkdworld.py.) -/
import Derived.Test.YtldmanfgmadbfaaGreatDoorR01
import Derived.Test.YtldmanfgmadbfaaGreatDoorR03
import Derived.Test.YtldmanfgmadbfaaGreatDoorR05
import Derived.Test.YtldmanfgmadbfaaGreatDoorR06
import Derived.Test.YtldmanfgmadbfaaGreatDoorQ06
import Derived.Test.YtldmanfgmadbfaaGreatDoorQ07
import Derived.Test.YtldmanfgmadbfaaGreatDoorRShort
namespace Go.Proofs.YtldmanfgmadbfaaGreatDoor
set_option maxRecDepth 100000
open HH UU VV
open Go.RowKit Go.Maps Go.WideMaps
set_option maxRecDepth 1000000 in
set_option maxHeartbeats 8000000 in
theorem WorldMay_aux (fa ga ra ha : Option Addr) (fcap gcap rcap hcap : Nat) (fs : List VV.Fn) (gs : List Gl) (rs : List Rc) (hs : List Wd) (lim : Int) (w : World)
  (hS : subW w (fun b => b < w.heap.size) (⟨fa, fcap, fs, ga, gcap, gs, ra, rcap, rs, ha, hcap, hs⟩ : Wv)) (hb : bigW (⟨fa, fcap, fs, ga, gcap, gs, ra, rcap, rs, ha, hcap, hs⟩ : Wv)) (hw : wfW (⟨fa, fcap, fs, ga, gcap, gs, ra, rcap, rs, ha, hcap, hs⟩ : Wv)) :
  Calls Tryz.prog 6 #[.agg #[.slice fa fs.length fcap, .slice ga gs.length gcap, .slice ra rs.length rcap, .slice ha hs.length hcap, .int .i64 lim]] w fun e w' => DocR (⟨fa, fcap, fs, ga, gcap, gs, ra, rcap, rs, ha, hcap, hs⟩ : Wv) lim e ∧ Below w.heap.size w w' := by
 obtain ⟨w2, hw2⟩ : ∃ w2, w2 = w.alloc (.cells #[.slice fa fs.length fcap, .slice ga gs.length gcap, .slice ra rs.length rcap, .slice ha hs.length hcap, .int .i64 lim] 29) := ⟨_, rfl⟩
 have HB2 := hid (show Below w.heap.size w w2 by rw [hw2]; exact (Below.refl _ _).alloc (Nat.le_refl _) _)
 have hz2 : w2.heap.size = w.heap.size + 1 := by rw [hw2]; simp
 have c0 : w2.cell? ⟨w.heap.size, 0, none⟩ = some (.slice fa fs.length fcap) ∧ w2.cell? ⟨w.heap.size, 1, none⟩ = some (.slice ga gs.length gcap) ∧ w2.cell? ⟨w.heap.size, 2, none⟩ = some (.slice ra rs.length rcap) ∧ w2.cell? ⟨w.heap.size, 3, none⟩ = some (.slice ha hs.length hcap) ∧ w2.cell? ⟨w.heap.size, 4, none⟩ = some (.int .i64 lim) := by
  rw [hw2]; refine ⟨?_, ?_, ?_, ?_, ?_⟩ <;> go_simp
 have CC := hid c0
 have HS := hid hS
 have HBg := hid hb
 have HWf := hid hw
 have H2 := hid hw2
 have hfl : fs.length ≤ 9223372036854775807 := by have : fs.length * 48 ≤ 140737488355328 := hb.f; omega
 have hgl : gs.length ≤ 9223372036854775807 := by have : gs.length * 48 ≤ 140737488355328 := hb.g; omega
 have hrl : rs.length ≤ 9223372036854775807 := by have : rs.length * 64 ≤ 140737488355328 := hb.r; omega
 have hhl : hs.length ≤ 9223372036854775807 := by have : hs.length * _ ≤ 140737488355328 := hb.h; omega
 have HWd := hid (wds_row (Cs.below HS.out.h HB2.out HB2.out.size))
 have hcall := HeapMay_any w2 w2.heap.size ha hs.length hcap hs lim HWd.out (Nat.le_refl _) rfl hhl
 clear hw2 hS hb hw c0
 go_enter Tryz.func6, Tryz.ntmps6
 go_wp2_with fail
 rw [← H2.out]
 go_fit hcall
 clear hcall
 rintro e w3 ⟨hb3, ⟨rfl, hok⟩ | ⟨rfl, hbad⟩⟩
 case inr =>
  have HZ := hid (show DocR (⟨fa, fcap, fs, ga, gcap, gs, ra, rcap, rs, ha, hcap, hs⟩ : Wv) lim (.returned (.bool false)) from Or.inr ⟨rfl, Or.inl hbad⟩)
  have HB3 := hid (HB2.out.trans (hb3.mono HB2.out.size))
  clear hbad hb3
  go_wp2
  go_ret
  exact ⟨HZ.out, HB3.out⟩
 have HOk := hid hok
 have HB3 := hid (HB2.out.trans (hb3.mono HB2.out.size))
 obtain ⟨c0, c1, c2, c3, c4⟩ := CC.out
 have c0 := (hb3.cell (p := ⟨w.heap.size, 0, none⟩) (by dsimp only; omega)).trans c0
 have c1 := (hb3.cell (p := ⟨w.heap.size, 1, none⟩) (by dsimp only; omega)).trans c1
 have c2 := (hb3.cell (p := ⟨w.heap.size, 2, none⟩) (by dsimp only; omega)).trans c2
 have c3 := (hb3.cell (p := ⟨w.heap.size, 3, none⟩) (by dsimp only; omega)).trans c3
 have c4 := (hb3.cell (p := ⟨w.heap.size, 4, none⟩) (by dsimp only; omega)).trans c4
 have hz3 := hb3.size
 have CC3 := hid (And.intro c0 (And.intro c1 (And.intro c2 (And.intro c3 c4))))
 clear hok hb3
 by_cases hln : fs.length ≤ 2000 ∧ gs.length ≤ 40 ∧ rs.length ≤ 8
 case neg =>
  have HZ := hid (show DocR (⟨fa, fcap, fs, ga, gcap, gs, ra, rcap, rs, ha, hcap, hs⟩ : Wv) lim (.returned (.bool false)) from Or.inr ⟨rfl, Or.inr (Or.inl hln)⟩)
  by_cases l1 : fs.length ≤ 2000
  case neg =>
   have l1b : (2000 : Int) < fs.length := by omega
   clear l1 hln
   go_wp2
   go_ret
   exact ⟨HZ.out, HB3.out⟩
  have l1b : ¬ (2000 : Int) < fs.length := by omega
  by_cases l2 : gs.length ≤ 40
  case neg =>
   have l2b : (40 : Int) < gs.length := by omega
   clear l1 l2 hln
   go_wp2
   go_ret
   exact ⟨HZ.out, HB3.out⟩
  have l2b : ¬ (40 : Int) < gs.length := by omega
  have l3b : (8 : Int) < rs.length := by omega
  clear l1 l2 hln
  go_wp2
  go_ret
  exact ⟨HZ.out, HB3.out⟩
 obtain ⟨l1, l2, l3⟩ := hln
 have l1b : ¬ (2000 : Int) < fs.length := by omega
 have l2b : ¬ (40 : Int) < gs.length := by omega
 have l3b : ¬ (8 : Int) < rs.length := by omega
 obtain ⟨hh1, hh2, hh3, th, hch, hvals⟩ := HOk.out
 have hl6 : hs.length ≤ 60000 := by omega
 have HCh := hid hch
 have HTh := hid (show ∀ t, t ∈ th → ThingIs hs t.h t.f t.e from fun t ht => by
  refine thing_is (tAt_of (hch.mem t ht).2 fun hk => ?_)
  have := hvals t ht
  unfold okT at this
  rw [if_pos hk] at this
  unfold okM refB at this
  simp only [Bool.and_eq_true, decide_eq_true_eq] at this
  omega)
 have HDoc := hid (show ∀ b : Bool, docB (⟨fa, fcap, fs, ga, gcap, gs, ra, rcap, rs, ha, hcap, hs⟩ : Wv) th = b → DocR (⟨fa, fcap, fs, ga, gcap, gs, ra, rcap, rs, ha, hcap, hs⟩ : Wv) lim (.returned (.bool b)) from fun b hbb => by
  cases b with
  | true => exact Or.inl ⟨rfl, HOk.out, l1, l2, l3, th, hch, hbb⟩
  | false => exact Or.inr ⟨rfl, Or.inr (Or.inr ⟨⟨l2, l3⟩, th, hch, hbb⟩)⟩)
 clear hch hvals
 go_wp2_with fail
 go_loopw [3] (fun i wr => ∃ k : Nat, k ≤ gs.length ∧ i = .int .i64 k ∧ (List.range k).all (fun i => nameD (gs.map Gl.name) i && atD gs (fun y => okV hs.length th y.w) i) = true ∧ Below w3.heap.size w3 wr) (fun i _ => gs.length - (intOf i).toNat)
 case atStart => exact ⟨0, Nat.zero_le _, rfl, rfl, Below.refl _ _⟩
 case round =>
  obtain ⟨k, hk, rfl, hall, hbr⟩ := hrel
  have HAl := hid hall
  have HBr := hid hbr
  have hzr := hbr.size
  have HBW := hid (HB3.out.trans (hbr.mono HB3.out.size))
  have c0 := (hbr.cell (p := ⟨w.heap.size, 0, none⟩) (by dsimp only; omega)).trans c0
  have c1 := (hbr.cell (p := ⟨w.heap.size, 1, none⟩) (by dsimp only; omega)).trans c1
  have c2 := (hbr.cell (p := ⟨w.heap.size, 2, none⟩) (by dsimp only; omega)).trans c2
  have c3 := (hbr.cell (p := ⟨w.heap.size, 3, none⟩) (by dsimp only; omega)).trans c3
  have c4 := (hbr.cell (p := ⟨w.heap.size, 4, none⟩) (by dsimp only; omega)).trans c4
  clear hall hbr
  by_cases hlt : k < gs.length
  case neg =>
   have hlt2 : ¬ (k : Int) < gs.length := by omega
   have HGs := hid (show (List.range gs.length).all (fun i => nameD (gs.map Gl.name) i && atD gs (fun y => okV hs.length th y.w) i) = true from by have := HAl.out; rw [show k = gs.length by omega] at this; exact this)
   go_wp2_with fail
   have HBf := hid HBr.out
   clear c0 c1 c2 c3 c4 hlt hlt2 HAl
   go_loopw [4] (fun i wr => ∃ k : Nat, k ≤ rs.length ∧ i = .int .i64 k ∧ (List.range k).all (fun i => nameD (rs.map Rc.name) i && atD rs (recD fs) i) = true ∧ Below w3.heap.size w3 wr) (fun i _ => rs.length - (intOf i).toNat)
   case atStart => exact ⟨0, Nat.zero_le _, rfl, rfl, HBf.out⟩
   case round =>
    clear HBr HBW hzr HBf
    obtain ⟨m, hm, rfl, hall, hbr⟩ := hrel
    have HAl := hid hall
    have HBr := hid hbr
    have hzr := hbr.size
    have HBW := hid (HB3.out.trans (hbr.mono HB3.out.size))
    obtain ⟨c0, c1, c2, c3, c4⟩ := CC3.out
    have c0 := (hbr.cell (p := ⟨w.heap.size, 0, none⟩) (by dsimp only; omega)).trans c0
    have c1 := (hbr.cell (p := ⟨w.heap.size, 1, none⟩) (by dsimp only; omega)).trans c1
    have c2 := (hbr.cell (p := ⟨w.heap.size, 2, none⟩) (by dsimp only; omega)).trans c2
    have c3 := (hbr.cell (p := ⟨w.heap.size, 3, none⟩) (by dsimp only; omega)).trans c3
    have c4 := (hbr.cell (p := ⟨w.heap.size, 4, none⟩) (by dsimp only; omega)).trans c4
    clear hall hbr
    by_cases hlt : m < rs.length
    case neg =>
     have hlt2 : ¬ (m : Int) < rs.length := by omega
     have HRs := hid (show (List.range rs.length).all (fun i => nameD (rs.map Rc.name) i && atD rs (recD fs) i) = true from by have := HAl.out; rw [show m = rs.length by omega] at this; exact this)
     go_wp2_with fail
     have HBf := hid HBr.out
     clear c0 c1 c2 c3 c4 hlt hlt2 HAl
     go_loopw [5] (fun i wr => ∃ k : Nat, k ≤ fs.length ∧ i = .int .i64 k ∧ (fs.take k).all (funcD (ctxOf (⟨fa, fcap, fs, ga, gcap, gs, ra, rcap, rs, ha, hcap, hs⟩ : Wv))) = true ∧ Below w3.heap.size w3 wr) (fun i _ => fs.length - (intOf i).toNat)
     case atStart => exact ⟨0, Nat.zero_le _, rfl, rfl, HBf.out⟩
     case round =>
      clear HBr HBW hzr HBf
      obtain ⟨j, hj, rfl, hall, hbr⟩ := hrel
      have HAl := hid hall
      have HBr := hid hbr
      have hzr := hbr.size
      have HBW := hid (HB3.out.trans (hbr.mono HB3.out.size))
      obtain ⟨c0, c1, c2, c3, c4⟩ := CC3.out
      have c0 := (hbr.cell (p := ⟨w.heap.size, 0, none⟩) (by dsimp only; omega)).trans c0
      have c1 := (hbr.cell (p := ⟨w.heap.size, 1, none⟩) (by dsimp only; omega)).trans c1
      have c2 := (hbr.cell (p := ⟨w.heap.size, 2, none⟩) (by dsimp only; omega)).trans c2
      have c3 := (hbr.cell (p := ⟨w.heap.size, 3, none⟩) (by dsimp only; omega)).trans c3
      have c4 := (hbr.cell (p := ⟨w.heap.size, 4, none⟩) (by dsimp only; omega)).trans c4
      have HSr := hid (subW_keep HS.out (fun b hb' => HBW.out.block b hb') (fun _ hb' => Nat.lt_of_lt_of_le hb' HBW.out.size))
      clear hall hbr
      by_cases hlt : j < fs.length
      case neg =>
       have hlt2 : ¬ (j : Int) < fs.length := by omega
       have HFs := hid (show fs.all (funcD (ctxOf (⟨fa, fcap, fs, ga, gcap, gs, ra, rcap, rs, ha, hcap, hs⟩ : Wv))) = true from by have := HAl.out; rw [show j = fs.length by omega, List.take_length] at this; exact this)
       have HZ := hid (HDoc.out (th.all (standB (⟨fa, fcap, fs, ga, gcap, gs, ra, rcap, rs, ha, hcap, hs⟩ : Wv) hs)) (by unfold docB; rw [HGs.out, HRs.out, HFs.out]; rfl))
       have hcall := thingsMay_any (⟨fa, fcap, fs, ga, gcap, gs, ra, rcap, rs, ha, hcap, hs⟩ : Wv) lim th wr HSr.out HBg.out hl6 HCh.out HTh.out
       dsimp only at hcall
       clear hlt
       go_wp2_with fail
       go_fit hcall
       clear hcall
       rintro e w5 ⟨rfl, hb5⟩
       have HB5 := hid (HBW.out.trans (hb5.mono HBW.out.size))
       clear hb5
       go_wp2
       go_ret
       exact ⟨HZ.out, HB5.out⟩
      case pos =>
       have hlt2 : (j : Int) < fs.length := by omega
       obtain ⟨b, o, rfl, hbB, g0, g1, g2, g3⟩ := fn_at (Cs.below HS.out.f HBW.out HBW.out.size) hlt
       have HFr := hid (HSr.out.fs _ (List.getElem_mem hlt))
       have hfb := HBg.out.fs _ (List.getElem_mem hlt)
       have hfw := HWf.out.fs _ (List.getElem_mem hlt)
       have HNo := hid (fun h => HDoc.out false (by unfold docB; rw [HGs.out, HRs.out, all_no (f := funcD (ctxOf (⟨some ⟨b, o, none⟩, fcap, fs, ga, gcap, gs, ra, rcap, rs, ha, hcap, hs⟩ : Wv))) hlt h]; rfl))
       have HYes := hid (fun h => take_all (f := funcD (ctxOf (⟨some ⟨b, o, none⟩, fcap, fs, ga, gcap, gs, ra, rcap, rs, ha, hcap, hs⟩ : Wv))) HAl.out hlt h)
       generalize (fs[j]'hlt) = ff at g0 g1 g2 g3 HFr hfb hfw HNo HYes
       obtain ⟨fp, fl, fc, fad, fcp, code⟩ := ff
       dsimp only at g0 g1 g2 g3
       cases hfn : funcD (ctxOf (⟨some ⟨b, o, none⟩, fcap, fs, ga, gcap, gs, ra, rcap, rs, ha, hcap, hs⟩ : Wv)) ⟨fp, fl, fc, fad, fcp, code⟩ with
       | false =>
        have HZ := hid (HNo.out hfn)
        go_wp2_with fail
        refine wp_region_invA (fun _ w' => Below wr.heap.size wr w') (fun _ w' w'' => Below w'.heap.size w' w'') (fun i vv w' => match i with
         | 0 => vv = .agg #[.slice (some ⟨b, o, none⟩) fs.length fcap, .slice ga gs.length gcap, .slice ra rs.length rcap, .slice ha hs.length hcap, .int .i64 lim]
         | 1 => vv = .pointer (some ⟨w.heap.size, 0, none⟩)
         | 2 => vv = .slice (some ⟨b, o, none⟩) fs.length fcap
         | 3 => vv = .int .i64 (j : Int)
         | 4 => vv = .pointer (some ⟨b, o + j * 4, none⟩)
         | 5 => vv = .agg #[.int .i64 fp, .int .i64 fl, .int .i64 fc, .slice fad code.length fcp]
         | 6 => vv = .bool false
         | 7 => vv = .bool true
         | _ => True) (by kernel_rfl) (by kernel_rfl) (Below.refl _ _).drew ?hmono ⟨?o0, ?o1, ?o2, ?o3, ?o4, ?o5, ?o6, ?o7, trivial⟩ ?hend
        case o0 =>
         intro dn a w' _ hS hF K hK
         have h1 := hF.out 1 (by kernel_rfl) rfl
         have c0' := cx hS c0
         have c1' := cx hS c1
         have c2' := cx hS c2
         have c3' := cx hS c3
         have c4' := cx hS c4
         have g0' := cx hS g0
         have g1' := cx hS g1
         have g2' := cx hS g2
         have g3' := cx hS g3
         rw [if_pos (by kernel_rfl)]
         go_simp
         exact hK _ _ _ rfl hS (Below.refl _ _) rfl
        case o1 =>
         intro dn a w' _ hS hF K hK
         have h1 := hF.out 1 (by kernel_rfl) rfl
         rw [if_pos (by kernel_rfl)]
         go_simp
         exact hK _ _ _ rfl hS (Below.refl _ _) rfl
        case o2 =>
         intro dn a w' _ hS hF K hK
         obtain ⟨v112, h112, rfl⟩ := hF.va 1 112
         have c0' := cx hS c0
         have c1' := cx hS c1
         have c2' := cx hS c2
         have c3' := cx hS c3
         have c4' := cx hS c4
         have g0' := cx hS g0
         have g1' := cx hS g1
         have g2' := cx hS g2
         have g3' := cx hS g3
         rw [if_pos (by kernel_rfl)]
         go_simp
         exact hK _ _ _ rfl hS (Below.refl _ _) rfl
        case o3 =>
         intro dn a w' _ hS hF K hK
         have h5 := hF.out 5 (by kernel_rfl) rfl
         rw [if_pos (by kernel_rfl)]
         go_simp
         exact hK _ _ _ rfl hS (Below.refl _ _) rfl
        case o4 =>
         intro dn a w' _ hS hF K hK
         obtain ⟨v113, h113, rfl⟩ := hF.va 2 113
         obtain ⟨v114, h114, rfl⟩ := hF.va 3 114
         rw [if_pos (by kernel_rfl)]
         go_simp
         exact hK _ _ _ rfl hS (Below.refl _ _) rfl
        case o5 =>
         intro dn a w' _ hS hF K hK
         obtain ⟨v115, h115, rfl⟩ := hF.va 4 115
         have c0' := cx hS c0
         have c1' := cx hS c1
         have c2' := cx hS c2
         have c3' := cx hS c3
         have c4' := cx hS c4
         have g0' := cx hS g0
         have g1' := cx hS g1
         have g2' := cx hS g2
         have g3' := cx hS g3
         rw [if_pos (by kernel_rfl)]
         go_simp
         exact hK _ _ _ rfl hS (Below.refl _ _) rfl
        case o6 =>
         intro dn a w' _ hS hF K hK
         obtain ⟨v111, h111, rfl⟩ := hF.va 0 111
         obtain ⟨v116, h116, rfl⟩ := hF.va 5 116
         rw [if_pos (by kernel_rfl)]
         go_simp
         refine (funcMay_any (⟨some ⟨b, o, none⟩, fcap, fs, ga, gcap, gs, ra, rcap, rs, ha, hcap, hs⟩ : Wv) lim fp fl fc fad fcp code w' (subW_keep HSr.out (fun b hb' => hS.block b hb') (fun _ hb' => Nat.lt_of_lt_of_le hb' hS.size)) HBg.out (subF_keep HFr.out (fun b hb' => hS.block b hb') (fun _ hb' => Nat.lt_of_lt_of_le hb' hS.size)) hfb hfw).mono ?_
         rintro e w'' ⟨rfl, hb⟩
         rw [hfn]
         exact hK _ _ _ rfl (hS.trans (hb.mono hS.size)) hb rfl
        case o7 =>
         intro dn a w' _ hS hF K hK
         obtain ⟨v117, h117, rfl⟩ := hF.va 6 117
         rw [if_pos (by kernel_rfl)]
         go_simp
         exact hK _ _ _ rfl hS (Below.refl _ _) rfl
        case hmono =>
         intro i j v w1 w2 _ _ _ _ _ hv _
         exact hv
        case hend =>
         intro dn w5 vs_ hS hv
         have hvL : vs_ 7 = .bool true := hv 7 (by decide)
         clear hv
         have HS5 := hid hS
         simp only [putsL, Nat.reduceAdd, Act.put, List.setIfInBounds_toArray, List.set_cons_zero, List.set_cons_succ, hvL]
         go_wp2
         go_ret
         exact ⟨HZ.out, HBW.out.trans (HS5.out.mono HBW.out.size)⟩
       | true =>
        have HZ := hid (HYes.out hfn)
        go_wp2_with fail
        refine wp_region_invA (fun _ w' => Below wr.heap.size wr w') (fun _ w' w'' => Below w'.heap.size w' w'') (fun i vv w' => match i with
         | 0 => vv = .agg #[.slice (some ⟨b, o, none⟩) fs.length fcap, .slice ga gs.length gcap, .slice ra rs.length rcap, .slice ha hs.length hcap, .int .i64 lim]
         | 1 => vv = .pointer (some ⟨w.heap.size, 0, none⟩)
         | 2 => vv = .slice (some ⟨b, o, none⟩) fs.length fcap
         | 3 => vv = .int .i64 (j : Int)
         | 4 => vv = .pointer (some ⟨b, o + j * 4, none⟩)
         | 5 => vv = .agg #[.int .i64 fp, .int .i64 fl, .int .i64 fc, .slice fad code.length fcp]
         | 6 => vv = .bool true
         | 7 => vv = .bool false
         | _ => True) (by kernel_rfl) (by kernel_rfl) (Below.refl _ _).drew ?hmono ⟨?o0, ?o1, ?o2, ?o3, ?o4, ?o5, ?o6, ?o7, trivial⟩ ?hend
        case o0 =>
         intro dn a w' _ hS hF K hK
         have h1 := hF.out 1 (by kernel_rfl) rfl
         have c0' := cx hS c0
         have c1' := cx hS c1
         have c2' := cx hS c2
         have c3' := cx hS c3
         have c4' := cx hS c4
         have g0' := cx hS g0
         have g1' := cx hS g1
         have g2' := cx hS g2
         have g3' := cx hS g3
         rw [if_pos (by kernel_rfl)]
         go_simp
         exact hK _ _ _ rfl hS (Below.refl _ _) rfl
        case o1 =>
         intro dn a w' _ hS hF K hK
         have h1 := hF.out 1 (by kernel_rfl) rfl
         rw [if_pos (by kernel_rfl)]
         go_simp
         exact hK _ _ _ rfl hS (Below.refl _ _) rfl
        case o2 =>
         intro dn a w' _ hS hF K hK
         obtain ⟨v112, h112, rfl⟩ := hF.va 1 112
         have c0' := cx hS c0
         have c1' := cx hS c1
         have c2' := cx hS c2
         have c3' := cx hS c3
         have c4' := cx hS c4
         have g0' := cx hS g0
         have g1' := cx hS g1
         have g2' := cx hS g2
         have g3' := cx hS g3
         rw [if_pos (by kernel_rfl)]
         go_simp
         exact hK _ _ _ rfl hS (Below.refl _ _) rfl
        case o3 =>
         intro dn a w' _ hS hF K hK
         have h5 := hF.out 5 (by kernel_rfl) rfl
         rw [if_pos (by kernel_rfl)]
         go_simp
         exact hK _ _ _ rfl hS (Below.refl _ _) rfl
        case o4 =>
         intro dn a w' _ hS hF K hK
         obtain ⟨v113, h113, rfl⟩ := hF.va 2 113
         obtain ⟨v114, h114, rfl⟩ := hF.va 3 114
         rw [if_pos (by kernel_rfl)]
         go_simp
         exact hK _ _ _ rfl hS (Below.refl _ _) rfl
        case o5 =>
         intro dn a w' _ hS hF K hK
         obtain ⟨v115, h115, rfl⟩ := hF.va 4 115
         have c0' := cx hS c0
         have c1' := cx hS c1
         have c2' := cx hS c2
         have c3' := cx hS c3
         have c4' := cx hS c4
         have g0' := cx hS g0
         have g1' := cx hS g1
         have g2' := cx hS g2
         have g3' := cx hS g3
         rw [if_pos (by kernel_rfl)]
         go_simp
         exact hK _ _ _ rfl hS (Below.refl _ _) rfl
        case o6 =>
         intro dn a w' _ hS hF K hK
         obtain ⟨v111, h111, rfl⟩ := hF.va 0 111
         obtain ⟨v116, h116, rfl⟩ := hF.va 5 116
         rw [if_pos (by kernel_rfl)]
         go_simp
         refine (funcMay_any (⟨some ⟨b, o, none⟩, fcap, fs, ga, gcap, gs, ra, rcap, rs, ha, hcap, hs⟩ : Wv) lim fp fl fc fad fcp code w' (subW_keep HSr.out (fun b hb' => hS.block b hb') (fun _ hb' => Nat.lt_of_lt_of_le hb' hS.size)) HBg.out (subF_keep HFr.out (fun b hb' => hS.block b hb') (fun _ hb' => Nat.lt_of_lt_of_le hb' hS.size)) hfb hfw).mono ?_
         rintro e w'' ⟨rfl, hb⟩
         rw [hfn]
         exact hK _ _ _ rfl (hS.trans (hb.mono hS.size)) hb rfl
        case o7 =>
         intro dn a w' _ hS hF K hK
         obtain ⟨v117, h117, rfl⟩ := hF.va 6 117
         rw [if_pos (by kernel_rfl)]
         go_simp
         exact hK _ _ _ rfl hS (Below.refl _ _) rfl
        case hmono =>
         intro i j v w1 w2 _ _ _ _ _ hv _
         exact hv
        case hend =>
         intro dn w5 vs_ hS hv
         have hvL : vs_ 7 = .bool false := hv 7 (by decide)
         clear hv
         have HS5 := hid hS
         simp only [putsL, Nat.reduceAdd, Act.put, List.setIfInBounds_toArray, List.set_cons_zero, List.set_cons_succ, hvL]
         go_wp2_with fail
         go_roundw
         case rel => exact ⟨j + 1, by omega, by go_num, HZ.out, HBr.out.trans (HS5.out.mono hzr)⟩
         case measure => simp [intOf]; omega
    case pos =>
     have hlt2 : (m : Int) < rs.length := by omega
     have HSr := hid (subW_keep HS.out (fun b hb' => HBW.out.block b hb') (fun _ hb' => Nat.lt_of_lt_of_le hb' HBW.out.size))
     obtain ⟨b, o, rfl, hbB, g0, g1, g2⟩ := rc_at (Cs.below HS.out.r HBW.out HBW.out.size) hlt
     have HGr := hid (Cs.below HS.out.r HBW.out HBW.out.size)
     have hrw := HWf.out.rs _ (List.getElem_mem hlt)
     have hrb := HBg.out.rs _ (List.getElem_mem hlt)
     have HRr := hid (HSr.out.rs _ (List.getElem_mem hlt))
     have hgF : (nameD (rs.map Rc.name) m && atD rs (recD fs) m) = (freeB (rs[m]'hlt).name.data.toList && decide (idxF (rs[m]'hlt).name 0 (rs.map Rc.name) = m) && recD fs (rs[m]'hlt)) := by
      unfold nameD atD
      rw [List.getElem?_map, List.getElem?_eq_getElem hlt]
      rfl
     have HNo := hid (fun h => HDoc.out false (by unfold docB; rw [HGs.out, range_no (f := fun i => nameD (rs.map Rc.name) i && atD rs (recD fs) i) hlt h]; rfl))
     have HYes := hid (fun h => range_yes (f := fun i => nameD (rs.map Rc.name) i && atD rs (recD fs) i) HAl.out h)
     generalize (rs[m]'hlt) = rc at g0 g1 g2 hrw hrb HRr hgF
     obtain ⟨nm, va, vcap, vs, ma, mcap, ms⟩ := rc
     dsimp only at g0 g1 g2 hgF
     have hgsz : nm.size ≤ 9223372036854775807 := by have : nm.size ≤ maxLen := hrw.name; unfold maxLen at this; omega
     cases hfr : freeB nm.data.toList with
     | false =>
      have HZ := hid (HNo.out (by rw [hgF, hfr]; rfl))
      clear hgF
      go_wp2_with fail
      refine wp_region_invA (fun _ w' => Below wr.heap.size wr w') (fun _ w' w'' => Below w'.heap.size w' w'') (fun i vv w' => match i with
       | 0 => vv = .pointer (some ⟨w.heap.size, 2, none⟩)
       | 1 => vv = .slice (some ⟨b, o, none⟩) rs.length rcap
       | 2 => vv = .int .i64 (m : Int)
       | 3 => vv = .pointer (some ⟨b, o + m * 3, none⟩)
       | 4 => vv = .pointer (some ⟨b, o + m * 3, none⟩)
       | 5 => vv = .string nm
       | 6 => vv = .bool false
       | 7 => vv = .bool true
       | 8 => vv = .bool true
       | 9 => vv = undef
       | 10 => vv = undef
       | 11 => vv = undef
       | 12 => vv = undef
       | 13 => vv = undef
       | 14 => vv = undef
       | 15 => vv = undef
       | 16 => vv = undef
       | 17 => vv = undef
       | 18 => vv = undef
       | 19 => vv = .bool true
       | 20 => vv = .bool true
       | 21 => vv = undef
       | 22 => vv = undef
       | 23 => vv = undef
       | 24 => vv = undef
       | 25 => vv = undef
       | 26 => vv = undef
       | 27 => vv = undef
       | 28 => vv = undef
       | 29 => vv = .bool true
       | _ => True) (by kernel_rfl) (by kernel_rfl) (Below.refl _ _).drew ?hmono ⟨?o0, ?o1, ?o2, ?o3, ?o4, ?o5, ?o6, ?o7, ?o8, ?o9, ?o10, ?o11, ?o12, ?o13, ?o14, ?o15, ?o16, ?o17, ?o18, ?o19, ?o20, ?o21, ?o22, ?o23, ?o24, ?o25, ?o26, ?o27, ?o28, ?o29, trivial⟩ ?hend
      case o0 =>
       intro dn a w' _ hS hF K hK
       have h1 := hF.out 1 (by kernel_rfl) rfl
       rw [if_pos (by kernel_rfl)]
       go_simp
       exact hK _ _ _ rfl hS (Below.refl _ _) rfl
      case o1 =>
       intro dn a w' _ hS hF K hK
       obtain ⟨v74, h74, rfl⟩ := hF.va 0 74
       have c0' := cx hS c0
       have c1' := cx hS c1
       have c2' := cx hS c2
       have c3' := cx hS c3
       have c4' := cx hS c4
       have g0' := cx hS g0
       have g1' := cx hS g1
       have g2' := cx hS g2
       rw [if_pos (by kernel_rfl)]
       go_simp
       exact hK _ _ _ rfl hS (Below.refl _ _) rfl
      case o2 =>
       intro dn a w' _ hS hF K hK
       have h4 := hF.out 4 (by kernel_rfl) rfl
       rw [if_pos (by kernel_rfl)]
       go_simp
       exact hK _ _ _ rfl hS (Below.refl _ _) rfl
      case o3 =>
       intro dn a w' _ hS hF K hK
       obtain ⟨v75, h75, rfl⟩ := hF.va 1 75
       obtain ⟨v76, h76, rfl⟩ := hF.va 2 76
       rw [if_pos (by kernel_rfl)]
       go_simp
       exact hK _ _ _ rfl hS (Below.refl _ _) rfl
      case o4 =>
       intro dn a w' _ hS hF K hK
       obtain ⟨v77, h77, rfl⟩ := hF.va 3 77
       rw [if_pos (by kernel_rfl)]
       go_simp
       exact hK _ _ _ rfl hS (Below.refl _ _) rfl
      case o5 =>
       intro dn a w' _ hS hF K hK
       obtain ⟨v78, h78, rfl⟩ := hF.va 4 78
       have c0' := cx hS c0
       have c1' := cx hS c1
       have c2' := cx hS c2
       have c3' := cx hS c3
       have c4' := cx hS c4
       have g0' := cx hS g0
       have g1' := cx hS g1
       have g2' := cx hS g2
       rw [if_pos (by kernel_rfl)]
       go_simp
       exact hK _ _ _ rfl hS (Below.refl _ _) rfl
      case o6 =>
       intro dn a w' _ hS hF K hK
       obtain ⟨v79, h79, rfl⟩ := hF.va 5 79
       rw [if_pos (by kernel_rfl)]
       go_simp
       refine (freeName_any nm w' hgsz).mono ?_
       rintro e w'' ⟨rfl, hb⟩
       rw [hfr]
       exact hK _ _ _ rfl (hS.trans (hb.mono hS.size)) hb rfl
      case o7 =>
       intro dn a w' _ hS hF K hK
       obtain ⟨v80, h80, rfl⟩ := hF.va 6 80
       rw [if_pos (by kernel_rfl)]
       go_simp
       exact hK _ _ _ rfl hS (Below.refl _ _) rfl
      case o8 =>
       intro dn a w' _ hS hF K hK
       obtain ⟨v81, h81, rfl⟩ := hF.va 7 81
       rw [if_pos (by kernel_rfl)]
       go_simp
       exact hK _ _ _ rfl hS (Below.refl _ _) rfl
      case o9 =>
       intro dn a w' _ hS hF K hK
       obtain ⟨v82, h82, rfl⟩ := hF.va 8 82
       rw [if_neg (by rw [wanted_no 8 rfl (by kernel_rfl) h82]; decide)]
       exact hK _ _ _ rfl hS (Below.refl _ _) rfl
      case o10 =>
       intro dn a w' _ hS hF K hK
       obtain ⟨v82, h82, rfl⟩ := hF.va 8 82
       rw [if_neg (by rw [wanted_no 8 rfl (by kernel_rfl) h82]; decide)]
       exact hK _ _ _ rfl hS (Below.refl _ _) rfl
      case o11 =>
       intro dn a w' _ hS hF K hK
       obtain ⟨v82, h82, rfl⟩ := hF.va 8 82
       rw [if_neg (by rw [wanted_no 8 rfl (by kernel_rfl) h82]; decide)]
       exact hK _ _ _ rfl hS (Below.refl _ _) rfl
      case o12 =>
       intro dn a w' _ hS hF K hK
       obtain ⟨v82, h82, rfl⟩ := hF.va 8 82
       rw [if_neg (by rw [wanted_no 8 rfl (by kernel_rfl) h82]; decide)]
       exact hK _ _ _ rfl hS (Below.refl _ _) rfl
      case o13 =>
       intro dn a w' _ hS hF K hK
       obtain ⟨v82, h82, rfl⟩ := hF.va 8 82
       rw [if_neg (by rw [wanted_no 8 rfl (by kernel_rfl) h82]; decide)]
       exact hK _ _ _ rfl hS (Below.refl _ _) rfl
      case o14 =>
       intro dn a w' _ hS hF K hK
       obtain ⟨v82, h82, rfl⟩ := hF.va 8 82
       rw [if_neg (by rw [wanted_no 8 rfl (by kernel_rfl) h82]; decide)]
       exact hK _ _ _ rfl hS (Below.refl _ _) rfl
      case o15 =>
       intro dn a w' _ hS hF K hK
       obtain ⟨v82, h82, rfl⟩ := hF.va 8 82
       rw [if_neg (by rw [wanted_no 8 rfl (by kernel_rfl) h82]; decide)]
       exact hK _ _ _ rfl hS (Below.refl _ _) rfl
      case o16 =>
       intro dn a w' _ hS hF K hK
       obtain ⟨v82, h82, rfl⟩ := hF.va 8 82
       rw [if_neg (by rw [wanted_no 8 rfl (by kernel_rfl) h82]; decide)]
       exact hK _ _ _ rfl hS (Below.refl _ _) rfl
      case o17 =>
       intro dn a w' _ hS hF K hK
       obtain ⟨v82, h82, rfl⟩ := hF.va 8 82
       rw [if_neg (by rw [wanted_no 8 rfl (by kernel_rfl) h82]; decide)]
       exact hK _ _ _ rfl hS (Below.refl _ _) rfl
      case o18 =>
       intro dn a w' _ hS hF K hK
       obtain ⟨v82, h82, rfl⟩ := hF.va 8 82
       rw [if_neg (by rw [wanted_no 8 rfl (by kernel_rfl) h82]; decide)]
       exact hK _ _ _ rfl hS (Below.refl _ _) rfl
      case o19 =>
       intro dn a w' _ hS hF K hK
       obtain ⟨v82, h82, rfl⟩ := hF.va 8 82
       obtain ⟨v92, h92, rfl⟩ := hF.va 18 92
       rw [if_pos (by kernel_rfl)]
       go_simp
       exact hK _ _ _ rfl hS (Below.refl _ _) rfl
      case o20 =>
       intro dn a w' _ hS hF K hK
       obtain ⟨v93, h93, rfl⟩ := hF.va 19 93
       rw [if_pos (by kernel_rfl)]
       go_simp
       exact hK _ _ _ rfl hS (Below.refl _ _) rfl
      case o21 =>
       intro dn a w' _ hS hF K hK
       obtain ⟨v94, h94, rfl⟩ := hF.va 20 94
       rw [if_neg (by rw [wanted_no 20 rfl (by kernel_rfl) h94]; decide)]
       exact hK _ _ _ rfl hS (Below.refl _ _) rfl
      case o22 =>
       intro dn a w' _ hS hF K hK
       obtain ⟨v94, h94, rfl⟩ := hF.va 20 94
       rw [if_neg (by rw [wanted_no 20 rfl (by kernel_rfl) h94]; decide)]
       exact hK _ _ _ rfl hS (Below.refl _ _) rfl
      case o23 =>
       intro dn a w' _ hS hF K hK
       obtain ⟨v94, h94, rfl⟩ := hF.va 20 94
       rw [if_neg (by rw [wanted_no 20 rfl (by kernel_rfl) h94]; decide)]
       exact hK _ _ _ rfl hS (Below.refl _ _) rfl
      case o24 =>
       intro dn a w' _ hS hF K hK
       obtain ⟨v94, h94, rfl⟩ := hF.va 20 94
       rw [if_neg (by rw [wanted_no 20 rfl (by kernel_rfl) h94]; decide)]
       exact hK _ _ _ rfl hS (Below.refl _ _) rfl
      case o25 =>
       intro dn a w' _ hS hF K hK
       obtain ⟨v94, h94, rfl⟩ := hF.va 20 94
       rw [if_neg (by rw [wanted_no 20 rfl (by kernel_rfl) h94]; decide)]
       exact hK _ _ _ rfl hS (Below.refl _ _) rfl
      case o26 =>
       intro dn a w' _ hS hF K hK
       obtain ⟨v94, h94, rfl⟩ := hF.va 20 94
       rw [if_neg (by rw [wanted_no 20 rfl (by kernel_rfl) h94]; decide)]
       exact hK _ _ _ rfl hS (Below.refl _ _) rfl
      case o27 =>
       intro dn a w' _ hS hF K hK
       obtain ⟨v94, h94, rfl⟩ := hF.va 20 94
       rw [if_neg (by rw [wanted_no 20 rfl (by kernel_rfl) h94]; decide)]
       exact hK _ _ _ rfl hS (Below.refl _ _) rfl
      case o28 =>
       intro dn a w' _ hS hF K hK
       obtain ⟨v94, h94, rfl⟩ := hF.va 20 94
       rw [if_neg (by rw [wanted_no 20 rfl (by kernel_rfl) h94]; decide)]
       exact hK _ _ _ rfl hS (Below.refl _ _) rfl
      case o29 =>
       intro dn a w' _ hS hF K hK
       obtain ⟨v94, h94, rfl⟩ := hF.va 20 94
       obtain ⟨v102, h102, rfl⟩ := hF.va 28 102
       rw [if_pos (by kernel_rfl)]
       go_simp
       exact hK _ _ _ rfl hS (Below.refl _ _) rfl
      case hmono =>
       intro i j v w1 w2 _ _ _ _ _ hv _
       exact hv
      case hend =>
       intro dn w5 vs_ hS hv
       have hvL : vs_ 29 = .bool true := hv 29 (by decide)
       clear hv
       have HS5 := hid hS
       simp only [putsL, Nat.reduceAdd, Act.put, List.setIfInBounds_toArray, List.set_cons_zero, List.set_cons_succ, hvL]
       go_wp2
       go_ret
       exact ⟨HZ.out, HBW.out.trans (HS5.out.mono HBW.out.size)⟩
     | true =>
      by_cases hix : idxF nm 0 (rs.map Rc.name) = m
      case neg =>
       have HZ := hid (HNo.out (by rw [hgF, decide_eq_false hix]; simp))
       have hne : (idxF nm 0 (rs.map Rc.name) != (m : Int)) = true := by rw [bne_iff_ne]; exact hix
       clear hgF hix
       go_wp2_with fail
       refine wp_region_invA (fun _ w' => Below wr.heap.size wr w') (fun _ w' w'' => Below w'.heap.size w' w'') (fun i vv w' => match i with
        | 0 => vv = .pointer (some ⟨w.heap.size, 2, none⟩)
        | 1 => vv = .slice (some ⟨b, o, none⟩) rs.length rcap
        | 2 => vv = .int .i64 (m : Int)
        | 3 => vv = .pointer (some ⟨b, o + m * 3, none⟩)
        | 4 => vv = .pointer (some ⟨b, o + m * 3, none⟩)
        | 5 => vv = .string nm
        | 6 => vv = .bool true
        | 7 => vv = .bool false
        | 8 => vv = .bool false
        | 9 => vv = .agg #[.slice fa fs.length fcap, .slice ga gs.length gcap, .slice (some ⟨b, o, none⟩) rs.length rcap, .slice ha hs.length hcap, .int .i64 lim]
        | 10 => vv = .pointer (some ⟨w.heap.size, 2, none⟩)
        | 11 => vv = .slice (some ⟨b, o, none⟩) rs.length rcap
        | 12 => vv = .int .i64 (m : Int)
        | 13 => vv = .pointer (some ⟨b, o + m * 3, none⟩)
        | 14 => vv = .pointer (some ⟨b, o + m * 3, none⟩)
        | 15 => vv = .string nm
        | 16 => vv = .int .i64 (idxF nm 0 (rs.map Rc.name))
        | 17 => vv = .int .i64 (m : Int)
        | 18 => vv = .bool true
        | 19 => vv = .bool true
        | 20 => vv = .bool true
        | 21 => vv = undef
        | 22 => vv = undef
        | 23 => vv = undef
        | 24 => vv = undef
        | 25 => vv = undef
        | 26 => vv = undef
        | 27 => vv = undef
        | 28 => vv = undef
        | 29 => vv = .bool true
        | _ => True) (by kernel_rfl) (by kernel_rfl) (Below.refl _ _).drew ?hmono ⟨?o0, ?o1, ?o2, ?o3, ?o4, ?o5, ?o6, ?o7, ?o8, ?o9, ?o10, ?o11, ?o12, ?o13, ?o14, ?o15, ?o16, ?o17, ?o18, ?o19, ?o20, ?o21, ?o22, ?o23, ?o24, ?o25, ?o26, ?o27, ?o28, ?o29, trivial⟩ ?hend
       case o0 =>
        intro dn a w' _ hS hF K hK
        have h1 := hF.out 1 (by kernel_rfl) rfl
        rw [if_pos (by kernel_rfl)]
        go_simp
        exact hK _ _ _ rfl hS (Below.refl _ _) rfl
       case o1 =>
        intro dn a w' _ hS hF K hK
        obtain ⟨v74, h74, rfl⟩ := hF.va 0 74
        have c0' := cx hS c0
        have c1' := cx hS c1
        have c2' := cx hS c2
        have c3' := cx hS c3
        have c4' := cx hS c4
        have g0' := cx hS g0
        have g1' := cx hS g1
        have g2' := cx hS g2
        rw [if_pos (by kernel_rfl)]
        go_simp
        exact hK _ _ _ rfl hS (Below.refl _ _) rfl
       case o2 =>
        intro dn a w' _ hS hF K hK
        have h4 := hF.out 4 (by kernel_rfl) rfl
        rw [if_pos (by kernel_rfl)]
        go_simp
        exact hK _ _ _ rfl hS (Below.refl _ _) rfl
       case o3 =>
        intro dn a w' _ hS hF K hK
        obtain ⟨v75, h75, rfl⟩ := hF.va 1 75
        obtain ⟨v76, h76, rfl⟩ := hF.va 2 76
        rw [if_pos (by kernel_rfl)]
        go_simp
        exact hK _ _ _ rfl hS (Below.refl _ _) rfl
       case o4 =>
        intro dn a w' _ hS hF K hK
        obtain ⟨v77, h77, rfl⟩ := hF.va 3 77
        rw [if_pos (by kernel_rfl)]
        go_simp
        exact hK _ _ _ rfl hS (Below.refl _ _) rfl
       case o5 =>
        intro dn a w' _ hS hF K hK
        obtain ⟨v78, h78, rfl⟩ := hF.va 4 78
        have c0' := cx hS c0
        have c1' := cx hS c1
        have c2' := cx hS c2
        have c3' := cx hS c3
        have c4' := cx hS c4
        have g0' := cx hS g0
        have g1' := cx hS g1
        have g2' := cx hS g2
        rw [if_pos (by kernel_rfl)]
        go_simp
        exact hK _ _ _ rfl hS (Below.refl _ _) rfl
       case o6 =>
        intro dn a w' _ hS hF K hK
        obtain ⟨v79, h79, rfl⟩ := hF.va 5 79
        rw [if_pos (by kernel_rfl)]
        go_simp
        refine (freeName_any nm w' hgsz).mono ?_
        rintro e w'' ⟨rfl, hb⟩
        rw [hfr]
        exact hK _ _ _ rfl (hS.trans (hb.mono hS.size)) hb rfl
       case o7 =>
        intro dn a w' _ hS hF K hK
        obtain ⟨v80, h80, rfl⟩ := hF.va 6 80
        rw [if_pos (by kernel_rfl)]
        go_simp
        exact hK _ _ _ rfl hS (Below.refl _ _) rfl
       case o8 =>
        intro dn a w' _ hS hF K hK
        obtain ⟨v81, h81, rfl⟩ := hF.va 7 81
        rw [if_pos (by kernel_rfl)]
        go_simp
        exact hK _ _ _ rfl hS (Below.refl _ _) rfl
       case o9 =>
        intro dn a w' _ hS hF K hK
        have h1 := hF.out 1 (by kernel_rfl) rfl
        obtain ⟨v82, h82, rfl⟩ := hF.va 8 82
        have c0' := cx hS c0
        have c1' := cx hS c1
        have c2' := cx hS c2
        have c3' := cx hS c3
        have c4' := cx hS c4
        have g0' := cx hS g0
        have g1' := cx hS g1
        have g2' := cx hS g2
        rw [if_pos (wanted_yes 8 rfl (by kernel_rfl) h82)]
        go_simp
        exact hK _ _ _ rfl hS (Below.refl _ _) rfl
       case o10 =>
        intro dn a w' _ hS hF K hK
        have h1 := hF.out 1 (by kernel_rfl) rfl
        obtain ⟨v82, h82, rfl⟩ := hF.va 8 82
        rw [if_pos (wanted_yes 8 rfl (by kernel_rfl) h82)]
        go_simp
        exact hK _ _ _ rfl hS (Below.refl _ _) rfl
       case o11 =>
        intro dn a w' _ hS hF K hK
        obtain ⟨v84, h84, rfl⟩ := hF.va 10 84
        obtain ⟨v82, h82, rfl⟩ := hF.va 8 82
        have c0' := cx hS c0
        have c1' := cx hS c1
        have c2' := cx hS c2
        have c3' := cx hS c3
        have c4' := cx hS c4
        have g0' := cx hS g0
        have g1' := cx hS g1
        have g2' := cx hS g2
        rw [if_pos (wanted_yes 8 rfl (by kernel_rfl) h82)]
        go_simp
        exact hK _ _ _ rfl hS (Below.refl _ _) rfl
       case o12 =>
        intro dn a w' _ hS hF K hK
        have h4 := hF.out 4 (by kernel_rfl) rfl
        obtain ⟨v82, h82, rfl⟩ := hF.va 8 82
        rw [if_pos (wanted_yes 8 rfl (by kernel_rfl) h82)]
        go_simp
        exact hK _ _ _ rfl hS (Below.refl _ _) rfl
       case o13 =>
        intro dn a w' _ hS hF K hK
        obtain ⟨v85, h85, rfl⟩ := hF.va 11 85
        obtain ⟨v86, h86, rfl⟩ := hF.va 12 86
        obtain ⟨v82, h82, rfl⟩ := hF.va 8 82
        rw [if_pos (wanted_yes 8 rfl (by kernel_rfl) h82)]
        go_simp
        exact hK _ _ _ rfl hS (Below.refl _ _) rfl
       case o14 =>
        intro dn a w' _ hS hF K hK
        obtain ⟨v87, h87, rfl⟩ := hF.va 13 87
        obtain ⟨v82, h82, rfl⟩ := hF.va 8 82
        rw [if_pos (wanted_yes 8 rfl (by kernel_rfl) h82)]
        go_simp
        exact hK _ _ _ rfl hS (Below.refl _ _) rfl
       case o15 =>
        intro dn a w' _ hS hF K hK
        obtain ⟨v88, h88, rfl⟩ := hF.va 14 88
        obtain ⟨v82, h82, rfl⟩ := hF.va 8 82
        have c0' := cx hS c0
        have c1' := cx hS c1
        have c2' := cx hS c2
        have c3' := cx hS c3
        have c4' := cx hS c4
        have g0' := cx hS g0
        have g1' := cx hS g1
        have g2' := cx hS g2
        rw [if_pos (wanted_yes 8 rfl (by kernel_rfl) h82)]
        go_simp
        exact hK _ _ _ rfl hS (Below.refl _ _) rfl
       case o16 =>
        intro dn a w' _ hS hF K hK
        obtain ⟨v83, h83, rfl⟩ := hF.va 9 83
        obtain ⟨v89, h89, rfl⟩ := hF.va 15 89
        obtain ⟨v82, h82, rfl⟩ := hF.va 8 82
        rw [if_pos (wanted_yes 8 rfl (by kernel_rfl) h82)]
        go_simp
        refine (recAt_any (.slice fa fs.length fcap) (.slice ga gs.length gcap) (.slice ha hs.length hcap) (.int .i64 lim) (some ⟨b, o, none⟩) rs rcap nm w' (Cs.below HGr.out hS hS.size) hrl).mono ?_
        rintro e w'' ⟨rfl, hb⟩
        exact hK _ _ _ rfl (hS.trans (hb.mono hS.size)) hb rfl
       case o17 =>
        intro dn a w' _ hS hF K hK
        have h4 := hF.out 4 (by kernel_rfl) rfl
        obtain ⟨v82, h82, rfl⟩ := hF.va 8 82
        rw [if_pos (wanted_yes 8 rfl (by kernel_rfl) h82)]
        go_simp
        exact hK _ _ _ rfl hS (Below.refl _ _) rfl
       case o18 =>
        intro dn a w' _ hS hF K hK
        obtain ⟨v90, h90, rfl⟩ := hF.va 16 90
        obtain ⟨v91, h91, rfl⟩ := hF.va 17 91
        obtain ⟨v82, h82, rfl⟩ := hF.va 8 82
        rw [if_pos (wanted_yes 8 rfl (by kernel_rfl) h82)]
        go_simp
        exact hK _ _ _ rfl hS (Below.refl _ _) rfl
       case o19 =>
        intro dn a w' _ hS hF K hK
        obtain ⟨v82, h82, rfl⟩ := hF.va 8 82
        obtain ⟨v92, h92, rfl⟩ := hF.va 18 92
        rw [if_pos (by kernel_rfl)]
        go_simp
        exact hK _ _ _ rfl hS (Below.refl _ _) rfl
       case o20 =>
        intro dn a w' _ hS hF K hK
        obtain ⟨v93, h93, rfl⟩ := hF.va 19 93
        rw [if_pos (by kernel_rfl)]
        go_simp
        exact hK _ _ _ rfl hS (Below.refl _ _) rfl
       case o21 =>
        intro dn a w' _ hS hF K hK
        obtain ⟨v94, h94, rfl⟩ := hF.va 20 94
        rw [if_neg (by rw [wanted_no 20 rfl (by kernel_rfl) h94]; decide)]
        exact hK _ _ _ rfl hS (Below.refl _ _) rfl
       case o22 =>
        intro dn a w' _ hS hF K hK
        obtain ⟨v94, h94, rfl⟩ := hF.va 20 94
        rw [if_neg (by rw [wanted_no 20 rfl (by kernel_rfl) h94]; decide)]
        exact hK _ _ _ rfl hS (Below.refl _ _) rfl
       case o23 =>
        intro dn a w' _ hS hF K hK
        obtain ⟨v94, h94, rfl⟩ := hF.va 20 94
        rw [if_neg (by rw [wanted_no 20 rfl (by kernel_rfl) h94]; decide)]
        exact hK _ _ _ rfl hS (Below.refl _ _) rfl
       case o24 =>
        intro dn a w' _ hS hF K hK
        obtain ⟨v94, h94, rfl⟩ := hF.va 20 94
        rw [if_neg (by rw [wanted_no 20 rfl (by kernel_rfl) h94]; decide)]
        exact hK _ _ _ rfl hS (Below.refl _ _) rfl
       case o25 =>
        intro dn a w' _ hS hF K hK
        obtain ⟨v94, h94, rfl⟩ := hF.va 20 94
        rw [if_neg (by rw [wanted_no 20 rfl (by kernel_rfl) h94]; decide)]
        exact hK _ _ _ rfl hS (Below.refl _ _) rfl
       case o26 =>
        intro dn a w' _ hS hF K hK
        obtain ⟨v94, h94, rfl⟩ := hF.va 20 94
        rw [if_neg (by rw [wanted_no 20 rfl (by kernel_rfl) h94]; decide)]
        exact hK _ _ _ rfl hS (Below.refl _ _) rfl
       case o27 =>
        intro dn a w' _ hS hF K hK
        obtain ⟨v94, h94, rfl⟩ := hF.va 20 94
        rw [if_neg (by rw [wanted_no 20 rfl (by kernel_rfl) h94]; decide)]
        exact hK _ _ _ rfl hS (Below.refl _ _) rfl
       case o28 =>
        intro dn a w' _ hS hF K hK
        obtain ⟨v94, h94, rfl⟩ := hF.va 20 94
        rw [if_neg (by rw [wanted_no 20 rfl (by kernel_rfl) h94]; decide)]
        exact hK _ _ _ rfl hS (Below.refl _ _) rfl
       case o29 =>
        intro dn a w' _ hS hF K hK
        obtain ⟨v94, h94, rfl⟩ := hF.va 20 94
        obtain ⟨v102, h102, rfl⟩ := hF.va 28 102
        rw [if_pos (by kernel_rfl)]
        go_simp
        exact hK _ _ _ rfl hS (Below.refl _ _) rfl
       case hmono =>
        intro i j v w1 w2 _ _ _ _ _ hv _
        exact hv
       case hend =>
        intro dn w5 vs_ hS hv
        have hvL : vs_ 29 = .bool true := hv 29 (by decide)
        clear hv
        have HS5 := hid hS
        simp only [putsL, Nat.reduceAdd, Act.put, List.setIfInBounds_toArray, List.set_cons_zero, List.set_cons_succ, hvL]
        go_wp2
        go_ret
        exact ⟨HZ.out, HBW.out.trans (HS5.out.mono HBW.out.size)⟩
      have hne : (idxF nm 0 (rs.map Rc.name) != (m : Int)) = false := by rw [hix]; simp
      cases hval : recD fs ⟨nm, va, vcap, vs, ma, mcap, ms⟩ with
      | false =>
       have HZ := hid (HNo.out (by rw [hgF, hval]; simp))
       clear hgF hix
       go_wp2_with fail
       refine wp_region_invA (fun _ w' => Below wr.heap.size wr w') (fun _ w' w'' => Below w'.heap.size w' w'') (fun i vv w' => match i with
        | 0 => vv = .pointer (some ⟨w.heap.size, 2, none⟩)
        | 1 => vv = .slice (some ⟨b, o, none⟩) rs.length rcap
        | 2 => vv = .int .i64 (m : Int)
        | 3 => vv = .pointer (some ⟨b, o + m * 3, none⟩)
        | 4 => vv = .pointer (some ⟨b, o + m * 3, none⟩)
        | 5 => vv = .string nm
        | 6 => vv = .bool true
        | 7 => vv = .bool false
        | 8 => vv = .bool false
        | 9 => vv = .agg #[.slice fa fs.length fcap, .slice ga gs.length gcap, .slice (some ⟨b, o, none⟩) rs.length rcap, .slice ha hs.length hcap, .int .i64 lim]
        | 10 => vv = .pointer (some ⟨w.heap.size, 2, none⟩)
        | 11 => vv = .slice (some ⟨b, o, none⟩) rs.length rcap
        | 12 => vv = .int .i64 (m : Int)
        | 13 => vv = .pointer (some ⟨b, o + m * 3, none⟩)
        | 14 => vv = .pointer (some ⟨b, o + m * 3, none⟩)
        | 15 => vv = .string nm
        | 16 => vv = .int .i64 (idxF nm 0 (rs.map Rc.name))
        | 17 => vv = .int .i64 (m : Int)
        | 18 => vv = .bool false
        | 19 => vv = .bool false
        | 20 => vv = .bool false
        | 21 => vv = .agg #[.slice fa fs.length fcap, .slice ga gs.length gcap, .slice (some ⟨b, o, none⟩) rs.length rcap, .slice ha hs.length hcap, .int .i64 lim]
        | 22 => vv = .pointer (some ⟨w.heap.size, 2, none⟩)
        | 23 => vv = .slice (some ⟨b, o, none⟩) rs.length rcap
        | 24 => vv = .int .i64 (m : Int)
        | 25 => vv = .pointer (some ⟨b, o + m * 3, none⟩)
        | 26 => vv = .agg #[.string nm, .slice va vs.length vcap, .slice ma ms.length mcap]
        | 27 => vv = .bool false
        | 28 => vv = .bool true
        | 29 => vv = .bool true
        | _ => True) (by kernel_rfl) (by kernel_rfl) (Below.refl _ _).drew ?hmono ⟨?o0, ?o1, ?o2, ?o3, ?o4, ?o5, ?o6, ?o7, ?o8, ?o9, ?o10, ?o11, ?o12, ?o13, ?o14, ?o15, ?o16, ?o17, ?o18, ?o19, ?o20, ?o21, ?o22, ?o23, ?o24, ?o25, ?o26, ?o27, ?o28, ?o29, trivial⟩ ?hend
       case o0 =>
        intro dn a w' _ hS hF K hK
        have h1 := hF.out 1 (by kernel_rfl) rfl
        rw [if_pos (by kernel_rfl)]
        go_simp
        exact hK _ _ _ rfl hS (Below.refl _ _) rfl
       case o1 =>
        intro dn a w' _ hS hF K hK
        obtain ⟨v74, h74, rfl⟩ := hF.va 0 74
        have c0' := cx hS c0
        have c1' := cx hS c1
        have c2' := cx hS c2
        have c3' := cx hS c3
        have c4' := cx hS c4
        have g0' := cx hS g0
        have g1' := cx hS g1
        have g2' := cx hS g2
        rw [if_pos (by kernel_rfl)]
        go_simp
        exact hK _ _ _ rfl hS (Below.refl _ _) rfl
       case o2 =>
        intro dn a w' _ hS hF K hK
        have h4 := hF.out 4 (by kernel_rfl) rfl
        rw [if_pos (by kernel_rfl)]
        go_simp
        exact hK _ _ _ rfl hS (Below.refl _ _) rfl
       case o3 =>
        intro dn a w' _ hS hF K hK
        obtain ⟨v75, h75, rfl⟩ := hF.va 1 75
        obtain ⟨v76, h76, rfl⟩ := hF.va 2 76
        rw [if_pos (by kernel_rfl)]
        go_simp
        exact hK _ _ _ rfl hS (Below.refl _ _) rfl
       case o4 =>
        intro dn a w' _ hS hF K hK
        obtain ⟨v77, h77, rfl⟩ := hF.va 3 77
        rw [if_pos (by kernel_rfl)]
        go_simp
        exact hK _ _ _ rfl hS (Below.refl _ _) rfl
       case o5 =>
        intro dn a w' _ hS hF K hK
        obtain ⟨v78, h78, rfl⟩ := hF.va 4 78
        have c0' := cx hS c0
        have c1' := cx hS c1
        have c2' := cx hS c2
        have c3' := cx hS c3
        have c4' := cx hS c4
        have g0' := cx hS g0
        have g1' := cx hS g1
        have g2' := cx hS g2
        rw [if_pos (by kernel_rfl)]
        go_simp
        exact hK _ _ _ rfl hS (Below.refl _ _) rfl
       case o6 =>
        intro dn a w' _ hS hF K hK
        obtain ⟨v79, h79, rfl⟩ := hF.va 5 79
        rw [if_pos (by kernel_rfl)]
        go_simp
        refine (freeName_any nm w' hgsz).mono ?_
        rintro e w'' ⟨rfl, hb⟩
        rw [hfr]
        exact hK _ _ _ rfl (hS.trans (hb.mono hS.size)) hb rfl
       case o7 =>
        intro dn a w' _ hS hF K hK
        obtain ⟨v80, h80, rfl⟩ := hF.va 6 80
        rw [if_pos (by kernel_rfl)]
        go_simp
        exact hK _ _ _ rfl hS (Below.refl _ _) rfl
       case o8 =>
        intro dn a w' _ hS hF K hK
        obtain ⟨v81, h81, rfl⟩ := hF.va 7 81
        rw [if_pos (by kernel_rfl)]
        go_simp
        exact hK _ _ _ rfl hS (Below.refl _ _) rfl
       case o9 =>
        intro dn a w' _ hS hF K hK
        have h1 := hF.out 1 (by kernel_rfl) rfl
        obtain ⟨v82, h82, rfl⟩ := hF.va 8 82
        have c0' := cx hS c0
        have c1' := cx hS c1
        have c2' := cx hS c2
        have c3' := cx hS c3
        have c4' := cx hS c4
        have g0' := cx hS g0
        have g1' := cx hS g1
        have g2' := cx hS g2
        rw [if_pos (wanted_yes 8 rfl (by kernel_rfl) h82)]
        go_simp
        exact hK _ _ _ rfl hS (Below.refl _ _) rfl
       case o10 =>
        intro dn a w' _ hS hF K hK
        have h1 := hF.out 1 (by kernel_rfl) rfl
        obtain ⟨v82, h82, rfl⟩ := hF.va 8 82
        rw [if_pos (wanted_yes 8 rfl (by kernel_rfl) h82)]
        go_simp
        exact hK _ _ _ rfl hS (Below.refl _ _) rfl
       case o11 =>
        intro dn a w' _ hS hF K hK
        obtain ⟨v84, h84, rfl⟩ := hF.va 10 84
        obtain ⟨v82, h82, rfl⟩ := hF.va 8 82
        have c0' := cx hS c0
        have c1' := cx hS c1
        have c2' := cx hS c2
        have c3' := cx hS c3
        have c4' := cx hS c4
        have g0' := cx hS g0
        have g1' := cx hS g1
        have g2' := cx hS g2
        rw [if_pos (wanted_yes 8 rfl (by kernel_rfl) h82)]
        go_simp
        exact hK _ _ _ rfl hS (Below.refl _ _) rfl
       case o12 =>
        intro dn a w' _ hS hF K hK
        have h4 := hF.out 4 (by kernel_rfl) rfl
        obtain ⟨v82, h82, rfl⟩ := hF.va 8 82
        rw [if_pos (wanted_yes 8 rfl (by kernel_rfl) h82)]
        go_simp
        exact hK _ _ _ rfl hS (Below.refl _ _) rfl
       case o13 =>
        intro dn a w' _ hS hF K hK
        obtain ⟨v85, h85, rfl⟩ := hF.va 11 85
        obtain ⟨v86, h86, rfl⟩ := hF.va 12 86
        obtain ⟨v82, h82, rfl⟩ := hF.va 8 82
        rw [if_pos (wanted_yes 8 rfl (by kernel_rfl) h82)]
        go_simp
        exact hK _ _ _ rfl hS (Below.refl _ _) rfl
       case o14 =>
        intro dn a w' _ hS hF K hK
        obtain ⟨v87, h87, rfl⟩ := hF.va 13 87
        obtain ⟨v82, h82, rfl⟩ := hF.va 8 82
        rw [if_pos (wanted_yes 8 rfl (by kernel_rfl) h82)]
        go_simp
        exact hK _ _ _ rfl hS (Below.refl _ _) rfl
       case o15 =>
        intro dn a w' _ hS hF K hK
        obtain ⟨v88, h88, rfl⟩ := hF.va 14 88
        obtain ⟨v82, h82, rfl⟩ := hF.va 8 82
        have c0' := cx hS c0
        have c1' := cx hS c1
        have c2' := cx hS c2
        have c3' := cx hS c3
        have c4' := cx hS c4
        have g0' := cx hS g0
        have g1' := cx hS g1
        have g2' := cx hS g2
        rw [if_pos (wanted_yes 8 rfl (by kernel_rfl) h82)]
        go_simp
        exact hK _ _ _ rfl hS (Below.refl _ _) rfl
       case o16 =>
        intro dn a w' _ hS hF K hK
        obtain ⟨v83, h83, rfl⟩ := hF.va 9 83
        obtain ⟨v89, h89, rfl⟩ := hF.va 15 89
        obtain ⟨v82, h82, rfl⟩ := hF.va 8 82
        rw [if_pos (wanted_yes 8 rfl (by kernel_rfl) h82)]
        go_simp
        refine (recAt_any (.slice fa fs.length fcap) (.slice ga gs.length gcap) (.slice ha hs.length hcap) (.int .i64 lim) (some ⟨b, o, none⟩) rs rcap nm w' (Cs.below HGr.out hS hS.size) hrl).mono ?_
        rintro e w'' ⟨rfl, hb⟩
        exact hK _ _ _ rfl (hS.trans (hb.mono hS.size)) hb rfl
       case o17 =>
        intro dn a w' _ hS hF K hK
        have h4 := hF.out 4 (by kernel_rfl) rfl
        obtain ⟨v82, h82, rfl⟩ := hF.va 8 82
        rw [if_pos (wanted_yes 8 rfl (by kernel_rfl) h82)]
        go_simp
        exact hK _ _ _ rfl hS (Below.refl _ _) rfl
       case o18 =>
        intro dn a w' _ hS hF K hK
        obtain ⟨v90, h90, rfl⟩ := hF.va 16 90
        obtain ⟨v91, h91, rfl⟩ := hF.va 17 91
        obtain ⟨v82, h82, rfl⟩ := hF.va 8 82
        rw [if_pos (wanted_yes 8 rfl (by kernel_rfl) h82)]
        go_simp
        exact hK _ _ _ rfl hS (Below.refl _ _) rfl
       case o19 =>
        intro dn a w' _ hS hF K hK
        obtain ⟨v82, h82, rfl⟩ := hF.va 8 82
        obtain ⟨v92, h92, rfl⟩ := hF.va 18 92
        rw [if_pos (by kernel_rfl)]
        go_simp
        exact hK _ _ _ rfl hS (Below.refl _ _) rfl
       case o20 =>
        intro dn a w' _ hS hF K hK
        obtain ⟨v93, h93, rfl⟩ := hF.va 19 93
        rw [if_pos (by kernel_rfl)]
        go_simp
        exact hK _ _ _ rfl hS (Below.refl _ _) rfl
       case o21 =>
        intro dn a w' _ hS hF K hK
        have h1 := hF.out 1 (by kernel_rfl) rfl
        obtain ⟨v94, h94, rfl⟩ := hF.va 20 94
        have c0' := cx hS c0
        have c1' := cx hS c1
        have c2' := cx hS c2
        have c3' := cx hS c3
        have c4' := cx hS c4
        have g0' := cx hS g0
        have g1' := cx hS g1
        have g2' := cx hS g2
        rw [if_pos (wanted_yes 20 rfl (by kernel_rfl) h94)]
        go_simp
        exact hK _ _ _ rfl hS (Below.refl _ _) rfl
       case o22 =>
        intro dn a w' _ hS hF K hK
        have h1 := hF.out 1 (by kernel_rfl) rfl
        obtain ⟨v94, h94, rfl⟩ := hF.va 20 94
        rw [if_pos (wanted_yes 20 rfl (by kernel_rfl) h94)]
        go_simp
        exact hK _ _ _ rfl hS (Below.refl _ _) rfl
       case o23 =>
        intro dn a w' _ hS hF K hK
        obtain ⟨v96, h96, rfl⟩ := hF.va 22 96
        obtain ⟨v94, h94, rfl⟩ := hF.va 20 94
        have c0' := cx hS c0
        have c1' := cx hS c1
        have c2' := cx hS c2
        have c3' := cx hS c3
        have c4' := cx hS c4
        have g0' := cx hS g0
        have g1' := cx hS g1
        have g2' := cx hS g2
        rw [if_pos (wanted_yes 20 rfl (by kernel_rfl) h94)]
        go_simp
        exact hK _ _ _ rfl hS (Below.refl _ _) rfl
       case o24 =>
        intro dn a w' _ hS hF K hK
        have h4 := hF.out 4 (by kernel_rfl) rfl
        obtain ⟨v94, h94, rfl⟩ := hF.va 20 94
        rw [if_pos (wanted_yes 20 rfl (by kernel_rfl) h94)]
        go_simp
        exact hK _ _ _ rfl hS (Below.refl _ _) rfl
       case o25 =>
        intro dn a w' _ hS hF K hK
        obtain ⟨v97, h97, rfl⟩ := hF.va 23 97
        obtain ⟨v98, h98, rfl⟩ := hF.va 24 98
        obtain ⟨v94, h94, rfl⟩ := hF.va 20 94
        rw [if_pos (wanted_yes 20 rfl (by kernel_rfl) h94)]
        go_simp
        exact hK _ _ _ rfl hS (Below.refl _ _) rfl
       case o26 =>
        intro dn a w' _ hS hF K hK
        obtain ⟨v99, h99, rfl⟩ := hF.va 25 99
        obtain ⟨v94, h94, rfl⟩ := hF.va 20 94
        have c0' := cx hS c0
        have c1' := cx hS c1
        have c2' := cx hS c2
        have c3' := cx hS c3
        have c4' := cx hS c4
        have g0' := cx hS g0
        have g1' := cx hS g1
        have g2' := cx hS g2
        rw [if_pos (wanted_yes 20 rfl (by kernel_rfl) h94)]
        go_simp
        exact hK _ _ _ rfl hS (Below.refl _ _) rfl
       case o27 =>
        intro dn a w' _ hS hF K hK
        obtain ⟨v95, h95, rfl⟩ := hF.va 21 95
        obtain ⟨v100, h100, rfl⟩ := hF.va 26 100
        obtain ⟨v94, h94, rfl⟩ := hF.va 20 94
        rw [if_pos (wanted_yes 20 rfl (by kernel_rfl) h94)]
        go_simp
        have hSw := subW_keep HSr.out (fun b hb' => hS.block b hb') (fun _ hb' => Nat.lt_of_lt_of_le hb' hS.size)
        refine (recMay_aux fa va ma fcap vcap mcap fs nm vs ms _ _ _ _ w' hSw.f hSw.fs hfl HBg.out.fs (subR_keep HRr.out (fun b hb' => hS.block b hb') (fun _ hb' => Nat.lt_of_lt_of_le hb' hS.size)) hrb hrw).mono ?_
        rintro e w'' ⟨rfl, hb⟩
        rw [hval]
        exact hK _ _ _ rfl (hS.trans (hb.mono hS.size)) hb rfl
       case o28 =>
        intro dn a w' _ hS hF K hK
        obtain ⟨v101, h101, rfl⟩ := hF.va 27 101
        obtain ⟨v94, h94, rfl⟩ := hF.va 20 94
        rw [if_pos (wanted_yes 20 rfl (by kernel_rfl) h94)]
        go_simp
        exact hK _ _ _ rfl hS (Below.refl _ _) rfl
       case o29 =>
        intro dn a w' _ hS hF K hK
        obtain ⟨v94, h94, rfl⟩ := hF.va 20 94
        obtain ⟨v102, h102, rfl⟩ := hF.va 28 102
        rw [if_pos (by kernel_rfl)]
        go_simp
        exact hK _ _ _ rfl hS (Below.refl _ _) rfl
       case hmono =>
        intro i j v w1 w2 _ _ _ _ _ hv _
        exact hv
       case hend =>
        intro dn w5 vs_ hS hv
        have hvL : vs_ 29 = .bool true := hv 29 (by decide)
        clear hv
        have HS5 := hid hS
        simp only [putsL, Nat.reduceAdd, Act.put, List.setIfInBounds_toArray, List.set_cons_zero, List.set_cons_succ, hvL]
        go_wp2
        go_ret
        exact ⟨HZ.out, HBW.out.trans (HS5.out.mono HBW.out.size)⟩
      | true =>
       have HZ := hid (HYes.out (by rw [hgF, hfr, decide_eq_true hix, hval]; rfl))
       clear hgF hix
       go_wp2_with fail
       refine wp_region_invA (fun _ w' => Below wr.heap.size wr w') (fun _ w' w'' => Below w'.heap.size w' w'') (fun i vv w' => match i with
        | 0 => vv = .pointer (some ⟨w.heap.size, 2, none⟩)
        | 1 => vv = .slice (some ⟨b, o, none⟩) rs.length rcap
        | 2 => vv = .int .i64 (m : Int)
        | 3 => vv = .pointer (some ⟨b, o + m * 3, none⟩)
        | 4 => vv = .pointer (some ⟨b, o + m * 3, none⟩)
        | 5 => vv = .string nm
        | 6 => vv = .bool true
        | 7 => vv = .bool false
        | 8 => vv = .bool false
        | 9 => vv = .agg #[.slice fa fs.length fcap, .slice ga gs.length gcap, .slice (some ⟨b, o, none⟩) rs.length rcap, .slice ha hs.length hcap, .int .i64 lim]
        | 10 => vv = .pointer (some ⟨w.heap.size, 2, none⟩)
        | 11 => vv = .slice (some ⟨b, o, none⟩) rs.length rcap
        | 12 => vv = .int .i64 (m : Int)
        | 13 => vv = .pointer (some ⟨b, o + m * 3, none⟩)
        | 14 => vv = .pointer (some ⟨b, o + m * 3, none⟩)
        | 15 => vv = .string nm
        | 16 => vv = .int .i64 (idxF nm 0 (rs.map Rc.name))
        | 17 => vv = .int .i64 (m : Int)
        | 18 => vv = .bool false
        | 19 => vv = .bool false
        | 20 => vv = .bool false
        | 21 => vv = .agg #[.slice fa fs.length fcap, .slice ga gs.length gcap, .slice (some ⟨b, o, none⟩) rs.length rcap, .slice ha hs.length hcap, .int .i64 lim]
        | 22 => vv = .pointer (some ⟨w.heap.size, 2, none⟩)
        | 23 => vv = .slice (some ⟨b, o, none⟩) rs.length rcap
        | 24 => vv = .int .i64 (m : Int)
        | 25 => vv = .pointer (some ⟨b, o + m * 3, none⟩)
        | 26 => vv = .agg #[.string nm, .slice va vs.length vcap, .slice ma ms.length mcap]
        | 27 => vv = .bool true
        | 28 => vv = .bool false
        | 29 => vv = .bool false
        | _ => True) (by kernel_rfl) (by kernel_rfl) (Below.refl _ _).drew ?hmono ⟨?o0, ?o1, ?o2, ?o3, ?o4, ?o5, ?o6, ?o7, ?o8, ?o9, ?o10, ?o11, ?o12, ?o13, ?o14, ?o15, ?o16, ?o17, ?o18, ?o19, ?o20, ?o21, ?o22, ?o23, ?o24, ?o25, ?o26, ?o27, ?o28, ?o29, trivial⟩ ?hend
       case o0 =>
        intro dn a w' _ hS hF K hK
        have h1 := hF.out 1 (by kernel_rfl) rfl
        rw [if_pos (by kernel_rfl)]
        go_simp
        exact hK _ _ _ rfl hS (Below.refl _ _) rfl
       case o1 =>
        intro dn a w' _ hS hF K hK
        obtain ⟨v74, h74, rfl⟩ := hF.va 0 74
        have c0' := cx hS c0
        have c1' := cx hS c1
        have c2' := cx hS c2
        have c3' := cx hS c3
        have c4' := cx hS c4
        have g0' := cx hS g0
        have g1' := cx hS g1
        have g2' := cx hS g2
        rw [if_pos (by kernel_rfl)]
        go_simp
        exact hK _ _ _ rfl hS (Below.refl _ _) rfl
       case o2 =>
        intro dn a w' _ hS hF K hK
        have h4 := hF.out 4 (by kernel_rfl) rfl
        rw [if_pos (by kernel_rfl)]
        go_simp
        exact hK _ _ _ rfl hS (Below.refl _ _) rfl
       case o3 =>
        intro dn a w' _ hS hF K hK
        obtain ⟨v75, h75, rfl⟩ := hF.va 1 75
        obtain ⟨v76, h76, rfl⟩ := hF.va 2 76
        rw [if_pos (by kernel_rfl)]
        go_simp
        exact hK _ _ _ rfl hS (Below.refl _ _) rfl
       case o4 =>
        intro dn a w' _ hS hF K hK
        obtain ⟨v77, h77, rfl⟩ := hF.va 3 77
        rw [if_pos (by kernel_rfl)]
        go_simp
        exact hK _ _ _ rfl hS (Below.refl _ _) rfl
       case o5 =>
        intro dn a w' _ hS hF K hK
        obtain ⟨v78, h78, rfl⟩ := hF.va 4 78
        have c0' := cx hS c0
        have c1' := cx hS c1
        have c2' := cx hS c2
        have c3' := cx hS c3
        have c4' := cx hS c4
        have g0' := cx hS g0
        have g1' := cx hS g1
        have g2' := cx hS g2
        rw [if_pos (by kernel_rfl)]
        go_simp
        exact hK _ _ _ rfl hS (Below.refl _ _) rfl
       case o6 =>
        intro dn a w' _ hS hF K hK
        obtain ⟨v79, h79, rfl⟩ := hF.va 5 79
        rw [if_pos (by kernel_rfl)]
        go_simp
        refine (freeName_any nm w' hgsz).mono ?_
        rintro e w'' ⟨rfl, hb⟩
        rw [hfr]
        exact hK _ _ _ rfl (hS.trans (hb.mono hS.size)) hb rfl
       case o7 =>
        intro dn a w' _ hS hF K hK
        obtain ⟨v80, h80, rfl⟩ := hF.va 6 80
        rw [if_pos (by kernel_rfl)]
        go_simp
        exact hK _ _ _ rfl hS (Below.refl _ _) rfl
       case o8 =>
        intro dn a w' _ hS hF K hK
        obtain ⟨v81, h81, rfl⟩ := hF.va 7 81
        rw [if_pos (by kernel_rfl)]
        go_simp
        exact hK _ _ _ rfl hS (Below.refl _ _) rfl
       case o9 =>
        intro dn a w' _ hS hF K hK
        have h1 := hF.out 1 (by kernel_rfl) rfl
        obtain ⟨v82, h82, rfl⟩ := hF.va 8 82
        have c0' := cx hS c0
        have c1' := cx hS c1
        have c2' := cx hS c2
        have c3' := cx hS c3
        have c4' := cx hS c4
        have g0' := cx hS g0
        have g1' := cx hS g1
        have g2' := cx hS g2
        rw [if_pos (wanted_yes 8 rfl (by kernel_rfl) h82)]
        go_simp
        exact hK _ _ _ rfl hS (Below.refl _ _) rfl
       case o10 =>
        intro dn a w' _ hS hF K hK
        have h1 := hF.out 1 (by kernel_rfl) rfl
        obtain ⟨v82, h82, rfl⟩ := hF.va 8 82
        rw [if_pos (wanted_yes 8 rfl (by kernel_rfl) h82)]
        go_simp
        exact hK _ _ _ rfl hS (Below.refl _ _) rfl
       case o11 =>
        intro dn a w' _ hS hF K hK
        obtain ⟨v84, h84, rfl⟩ := hF.va 10 84
        obtain ⟨v82, h82, rfl⟩ := hF.va 8 82
        have c0' := cx hS c0
        have c1' := cx hS c1
        have c2' := cx hS c2
        have c3' := cx hS c3
        have c4' := cx hS c4
        have g0' := cx hS g0
        have g1' := cx hS g1
        have g2' := cx hS g2
        rw [if_pos (wanted_yes 8 rfl (by kernel_rfl) h82)]
        go_simp
        exact hK _ _ _ rfl hS (Below.refl _ _) rfl
       case o12 =>
        intro dn a w' _ hS hF K hK
        have h4 := hF.out 4 (by kernel_rfl) rfl
        obtain ⟨v82, h82, rfl⟩ := hF.va 8 82
        rw [if_pos (wanted_yes 8 rfl (by kernel_rfl) h82)]
        go_simp
        exact hK _ _ _ rfl hS (Below.refl _ _) rfl
       case o13 =>
        intro dn a w' _ hS hF K hK
        obtain ⟨v85, h85, rfl⟩ := hF.va 11 85
        obtain ⟨v86, h86, rfl⟩ := hF.va 12 86
        obtain ⟨v82, h82, rfl⟩ := hF.va 8 82
        rw [if_pos (wanted_yes 8 rfl (by kernel_rfl) h82)]
        go_simp
        exact hK _ _ _ rfl hS (Below.refl _ _) rfl
       case o14 =>
        intro dn a w' _ hS hF K hK
        obtain ⟨v87, h87, rfl⟩ := hF.va 13 87
        obtain ⟨v82, h82, rfl⟩ := hF.va 8 82
        rw [if_pos (wanted_yes 8 rfl (by kernel_rfl) h82)]
        go_simp
        exact hK _ _ _ rfl hS (Below.refl _ _) rfl
       case o15 =>
        intro dn a w' _ hS hF K hK
        obtain ⟨v88, h88, rfl⟩ := hF.va 14 88
        obtain ⟨v82, h82, rfl⟩ := hF.va 8 82
        have c0' := cx hS c0
        have c1' := cx hS c1
        have c2' := cx hS c2
        have c3' := cx hS c3
        have c4' := cx hS c4
        have g0' := cx hS g0
        have g1' := cx hS g1
        have g2' := cx hS g2
        rw [if_pos (wanted_yes 8 rfl (by kernel_rfl) h82)]
        go_simp
        exact hK _ _ _ rfl hS (Below.refl _ _) rfl
       case o16 =>
        intro dn a w' _ hS hF K hK
        obtain ⟨v83, h83, rfl⟩ := hF.va 9 83
        obtain ⟨v89, h89, rfl⟩ := hF.va 15 89
        obtain ⟨v82, h82, rfl⟩ := hF.va 8 82
        rw [if_pos (wanted_yes 8 rfl (by kernel_rfl) h82)]
        go_simp
        refine (recAt_any (.slice fa fs.length fcap) (.slice ga gs.length gcap) (.slice ha hs.length hcap) (.int .i64 lim) (some ⟨b, o, none⟩) rs rcap nm w' (Cs.below HGr.out hS hS.size) hrl).mono ?_
        rintro e w'' ⟨rfl, hb⟩
        exact hK _ _ _ rfl (hS.trans (hb.mono hS.size)) hb rfl
       case o17 =>
        intro dn a w' _ hS hF K hK
        have h4 := hF.out 4 (by kernel_rfl) rfl
        obtain ⟨v82, h82, rfl⟩ := hF.va 8 82
        rw [if_pos (wanted_yes 8 rfl (by kernel_rfl) h82)]
        go_simp
        exact hK _ _ _ rfl hS (Below.refl _ _) rfl
       case o18 =>
        intro dn a w' _ hS hF K hK
        obtain ⟨v90, h90, rfl⟩ := hF.va 16 90
        obtain ⟨v91, h91, rfl⟩ := hF.va 17 91
        obtain ⟨v82, h82, rfl⟩ := hF.va 8 82
        rw [if_pos (wanted_yes 8 rfl (by kernel_rfl) h82)]
        go_simp
        exact hK _ _ _ rfl hS (Below.refl _ _) rfl
       case o19 =>
        intro dn a w' _ hS hF K hK
        obtain ⟨v82, h82, rfl⟩ := hF.va 8 82
        obtain ⟨v92, h92, rfl⟩ := hF.va 18 92
        rw [if_pos (by kernel_rfl)]
        go_simp
        exact hK _ _ _ rfl hS (Below.refl _ _) rfl
       case o20 =>
        intro dn a w' _ hS hF K hK
        obtain ⟨v93, h93, rfl⟩ := hF.va 19 93
        rw [if_pos (by kernel_rfl)]
        go_simp
        exact hK _ _ _ rfl hS (Below.refl _ _) rfl
       case o21 =>
        intro dn a w' _ hS hF K hK
        have h1 := hF.out 1 (by kernel_rfl) rfl
        obtain ⟨v94, h94, rfl⟩ := hF.va 20 94
        have c0' := cx hS c0
        have c1' := cx hS c1
        have c2' := cx hS c2
        have c3' := cx hS c3
        have c4' := cx hS c4
        have g0' := cx hS g0
        have g1' := cx hS g1
        have g2' := cx hS g2
        rw [if_pos (wanted_yes 20 rfl (by kernel_rfl) h94)]
        go_simp
        exact hK _ _ _ rfl hS (Below.refl _ _) rfl
       case o22 =>
        intro dn a w' _ hS hF K hK
        have h1 := hF.out 1 (by kernel_rfl) rfl
        obtain ⟨v94, h94, rfl⟩ := hF.va 20 94
        rw [if_pos (wanted_yes 20 rfl (by kernel_rfl) h94)]
        go_simp
        exact hK _ _ _ rfl hS (Below.refl _ _) rfl
       case o23 =>
        intro dn a w' _ hS hF K hK
        obtain ⟨v96, h96, rfl⟩ := hF.va 22 96
        obtain ⟨v94, h94, rfl⟩ := hF.va 20 94
        have c0' := cx hS c0
        have c1' := cx hS c1
        have c2' := cx hS c2
        have c3' := cx hS c3
        have c4' := cx hS c4
        have g0' := cx hS g0
        have g1' := cx hS g1
        have g2' := cx hS g2
        rw [if_pos (wanted_yes 20 rfl (by kernel_rfl) h94)]
        go_simp
        exact hK _ _ _ rfl hS (Below.refl _ _) rfl
       case o24 =>
        intro dn a w' _ hS hF K hK
        have h4 := hF.out 4 (by kernel_rfl) rfl
        obtain ⟨v94, h94, rfl⟩ := hF.va 20 94
        rw [if_pos (wanted_yes 20 rfl (by kernel_rfl) h94)]
        go_simp
        exact hK _ _ _ rfl hS (Below.refl _ _) rfl
       case o25 =>
        intro dn a w' _ hS hF K hK
        obtain ⟨v97, h97, rfl⟩ := hF.va 23 97
        obtain ⟨v98, h98, rfl⟩ := hF.va 24 98
        obtain ⟨v94, h94, rfl⟩ := hF.va 20 94
        rw [if_pos (wanted_yes 20 rfl (by kernel_rfl) h94)]
        go_simp
        exact hK _ _ _ rfl hS (Below.refl _ _) rfl
       case o26 =>
        intro dn a w' _ hS hF K hK
        obtain ⟨v99, h99, rfl⟩ := hF.va 25 99
        obtain ⟨v94, h94, rfl⟩ := hF.va 20 94
        have c0' := cx hS c0
        have c1' := cx hS c1
        have c2' := cx hS c2
        have c3' := cx hS c3
        have c4' := cx hS c4
        have g0' := cx hS g0
        have g1' := cx hS g1
        have g2' := cx hS g2
        rw [if_pos (wanted_yes 20 rfl (by kernel_rfl) h94)]
        go_simp
        exact hK _ _ _ rfl hS (Below.refl _ _) rfl
       case o27 =>
        intro dn a w' _ hS hF K hK
        obtain ⟨v95, h95, rfl⟩ := hF.va 21 95
        obtain ⟨v100, h100, rfl⟩ := hF.va 26 100
        obtain ⟨v94, h94, rfl⟩ := hF.va 20 94
        rw [if_pos (wanted_yes 20 rfl (by kernel_rfl) h94)]
        go_simp
        have hSw := subW_keep HSr.out (fun b hb' => hS.block b hb') (fun _ hb' => Nat.lt_of_lt_of_le hb' hS.size)
        refine (recMay_aux fa va ma fcap vcap mcap fs nm vs ms _ _ _ _ w' hSw.f hSw.fs hfl HBg.out.fs (subR_keep HRr.out (fun b hb' => hS.block b hb') (fun _ hb' => Nat.lt_of_lt_of_le hb' hS.size)) hrb hrw).mono ?_
        rintro e w'' ⟨rfl, hb⟩
        rw [hval]
        exact hK _ _ _ rfl (hS.trans (hb.mono hS.size)) hb rfl
       case o28 =>
        intro dn a w' _ hS hF K hK
        obtain ⟨v101, h101, rfl⟩ := hF.va 27 101
        obtain ⟨v94, h94, rfl⟩ := hF.va 20 94
        rw [if_pos (wanted_yes 20 rfl (by kernel_rfl) h94)]
        go_simp
        exact hK _ _ _ rfl hS (Below.refl _ _) rfl
       case o29 =>
        intro dn a w' _ hS hF K hK
        obtain ⟨v94, h94, rfl⟩ := hF.va 20 94
        obtain ⟨v102, h102, rfl⟩ := hF.va 28 102
        rw [if_pos (by kernel_rfl)]
        go_simp
        exact hK _ _ _ rfl hS (Below.refl _ _) rfl
       case hmono =>
        intro i j v w1 w2 _ _ _ _ _ hv _
        exact hv
       case hend =>
        intro dn w5 vs_ hS hv
        have hvL : vs_ 29 = .bool false := hv 29 (by decide)
        clear hv
        have HS5 := hid hS
        simp only [putsL, Nat.reduceAdd, Act.put, List.setIfInBounds_toArray, List.set_cons_zero, List.set_cons_succ, hvL]
        go_wp2_with fail
        go_roundw
        case rel => exact ⟨m + 1, by omega, by go_num, HZ.out, HBr.out.trans (HS5.out.mono hzr)⟩
        case measure => simp [intOf]; omega
  case pos =>
   have hlt2 : (k : Int) < gs.length := by omega
   obtain ⟨b, o, rfl, hbB, g0, g1, g2, g3⟩ := gl_at (Cs.below HS.out.g HBW.out HBW.out.size) hlt
   have HGr := hid (Cs.below HS.out.g HBW.out HBW.out.size)
   have hwG := (HWf.out.gs _ (List.getElem_mem hlt)).name
   have hgF : (nameD (gs.map Gl.name) k && atD gs (fun y => okV hs.length th y.w) k) = (freeB (gs[k]'hlt).name.data.toList && decide (idxF (gs[k]'hlt).name 0 (gs.map Gl.name) = k) && okV hs.length th (gs[k]'hlt).w) := by
    unfold nameD atD
    rw [List.getElem?_map, List.getElem?_eq_getElem hlt]
    rfl
   have HNo := hid (fun h => HDoc.out false (by unfold docB; rw [range_no (f := fun i => nameD (gs.map Gl.name) i && atD gs (fun y => okV hs.length th y.w) i) hlt h]; rfl))
   have HYes := hid (fun h => range_yes (f := fun i => nameD (gs.map Gl.name) i && atD gs (fun y => okV hs.length th y.w) i) HAl.out h)
   generalize (gs[k]'hlt) = gl at g0 g1 g2 g3 hwG hgF
   obtain ⟨gn, gw⟩ := gl
   dsimp only at g0 g1 g2 g3 hwG hgF
   have hgsz : gn.size ≤ 9223372036854775807 := by unfold maxLen at hwG; omega
   have HWr := hid (wds_row (Cs.below HS.out.h HBW.out HBW.out.size))
   cases hfr : freeB gn.data.toList with
   | false =>
    have HZ := hid (HNo.out (by rw [hgF, hfr]; rfl))
    clear hgF
    go_wp2_with fail
    refine wp_region_invA (fun _ w' => Below wr.heap.size wr w') (fun _ w' w'' => Below w'.heap.size w' w'') (fun i vv w' => match i with
     | 0 => vv = .pointer (some ⟨w.heap.size, 1, none⟩)
     | 1 => vv = .slice (some ⟨b, o, none⟩) gs.length gcap
     | 2 => vv = .int .i64 (k : Int)
     | 3 => vv = .pointer (some ⟨b, o + k * 4, none⟩)
     | 4 => vv = .pointer (some ⟨b, o + k * 4, none⟩)
     | 5 => vv = .string gn
     | 6 => vv = .bool false
     | 7 => vv = .bool true
     | 8 => vv = .bool true
     | 9 => vv = undef
     | 10 => vv = undef
     | 11 => vv = undef
     | 12 => vv = undef
     | 13 => vv = undef
     | 14 => vv = undef
     | 15 => vv = undef
     | 16 => vv = undef
     | 17 => vv = undef
     | 18 => vv = undef
     | 19 => vv = .bool true
     | 20 => vv = .bool true
     | 21 => vv = undef
     | 22 => vv = undef
     | 23 => vv = undef
     | 24 => vv = undef
     | 25 => vv = undef
     | 26 => vv = undef
     | 27 => vv = undef
     | 28 => vv = undef
     | 29 => vv = undef
     | 30 => vv = undef
     | 31 => vv = .bool true
     | _ => True) (by kernel_rfl) (by kernel_rfl) (Below.refl _ _).drew ?hmono ⟨?o0, ?o1, ?o2, ?o3, ?o4, ?o5, ?o6, ?o7, ?o8, ?o9, ?o10, ?o11, ?o12, ?o13, ?o14, ?o15, ?o16, ?o17, ?o18, ?o19, ?o20, ?o21, ?o22, ?o23, ?o24, ?o25, ?o26, ?o27, ?o28, ?o29, ?o30, ?o31, trivial⟩ ?hend
    case o0 =>
     intro dn a w' _ hS hF K hK
     have h1 := hF.out 1 (by kernel_rfl) rfl
     rw [if_pos (by kernel_rfl)]
     go_simp
     exact hK _ _ _ rfl hS (Below.refl _ _) rfl
    case o1 =>
     intro dn a w' _ hS hF K hK
     obtain ⟨v35, h35, rfl⟩ := hF.va 0 35
     have c0' := cx hS c0
     have c1' := cx hS c1
     have c2' := cx hS c2
     have c3' := cx hS c3
     have c4' := cx hS c4
     have g0' := cx hS g0
     have g1' := cx hS g1
     have g2' := cx hS g2
     have g3' := cx hS g3
     rw [if_pos (by kernel_rfl)]
     go_simp
     exact hK _ _ _ rfl hS (Below.refl _ _) rfl
    case o2 =>
     intro dn a w' _ hS hF K hK
     have h3 := hF.out 3 (by kernel_rfl) rfl
     rw [if_pos (by kernel_rfl)]
     go_simp
     exact hK _ _ _ rfl hS (Below.refl _ _) rfl
    case o3 =>
     intro dn a w' _ hS hF K hK
     obtain ⟨v36, h36, rfl⟩ := hF.va 1 36
     obtain ⟨v37, h37, rfl⟩ := hF.va 2 37
     rw [if_pos (by kernel_rfl)]
     go_simp
     exact hK _ _ _ rfl hS (Below.refl _ _) rfl
    case o4 =>
     intro dn a w' _ hS hF K hK
     obtain ⟨v38, h38, rfl⟩ := hF.va 3 38
     rw [if_pos (by kernel_rfl)]
     go_simp
     exact hK _ _ _ rfl hS (Below.refl _ _) rfl
    case o5 =>
     intro dn a w' _ hS hF K hK
     obtain ⟨v39, h39, rfl⟩ := hF.va 4 39
     have c0' := cx hS c0
     have c1' := cx hS c1
     have c2' := cx hS c2
     have c3' := cx hS c3
     have c4' := cx hS c4
     have g0' := cx hS g0
     have g1' := cx hS g1
     have g2' := cx hS g2
     have g3' := cx hS g3
     rw [if_pos (by kernel_rfl)]
     go_simp
     exact hK _ _ _ rfl hS (Below.refl _ _) rfl
    case o6 =>
     intro dn a w' _ hS hF K hK
     obtain ⟨v40, h40, rfl⟩ := hF.va 5 40
     rw [if_pos (by kernel_rfl)]
     go_simp
     refine (freeName_any gn w' hgsz).mono ?_
     rintro e w'' ⟨rfl, hb⟩
     rw [hfr]
     exact hK _ _ _ rfl (hS.trans (hb.mono hS.size)) hb rfl
    case o7 =>
     intro dn a w' _ hS hF K hK
     obtain ⟨v41, h41, rfl⟩ := hF.va 6 41
     rw [if_pos (by kernel_rfl)]
     go_simp
     exact hK _ _ _ rfl hS (Below.refl _ _) rfl
    case o8 =>
     intro dn a w' _ hS hF K hK
     obtain ⟨v42, h42, rfl⟩ := hF.va 7 42
     rw [if_pos (by kernel_rfl)]
     go_simp
     exact hK _ _ _ rfl hS (Below.refl _ _) rfl
    case o9 =>
     intro dn a w' _ hS hF K hK
     obtain ⟨v43, h43, rfl⟩ := hF.va 8 43
     rw [if_neg (by rw [wanted_no 8 rfl (by kernel_rfl) h43]; decide)]
     exact hK _ _ _ rfl hS (Below.refl _ _) rfl
    case o10 =>
     intro dn a w' _ hS hF K hK
     obtain ⟨v43, h43, rfl⟩ := hF.va 8 43
     rw [if_neg (by rw [wanted_no 8 rfl (by kernel_rfl) h43]; decide)]
     exact hK _ _ _ rfl hS (Below.refl _ _) rfl
    case o11 =>
     intro dn a w' _ hS hF K hK
     obtain ⟨v43, h43, rfl⟩ := hF.va 8 43
     rw [if_neg (by rw [wanted_no 8 rfl (by kernel_rfl) h43]; decide)]
     exact hK _ _ _ rfl hS (Below.refl _ _) rfl
    case o12 =>
     intro dn a w' _ hS hF K hK
     obtain ⟨v43, h43, rfl⟩ := hF.va 8 43
     rw [if_neg (by rw [wanted_no 8 rfl (by kernel_rfl) h43]; decide)]
     exact hK _ _ _ rfl hS (Below.refl _ _) rfl
    case o13 =>
     intro dn a w' _ hS hF K hK
     obtain ⟨v43, h43, rfl⟩ := hF.va 8 43
     rw [if_neg (by rw [wanted_no 8 rfl (by kernel_rfl) h43]; decide)]
     exact hK _ _ _ rfl hS (Below.refl _ _) rfl
    case o14 =>
     intro dn a w' _ hS hF K hK
     obtain ⟨v43, h43, rfl⟩ := hF.va 8 43
     rw [if_neg (by rw [wanted_no 8 rfl (by kernel_rfl) h43]; decide)]
     exact hK _ _ _ rfl hS (Below.refl _ _) rfl
    case o15 =>
     intro dn a w' _ hS hF K hK
     obtain ⟨v43, h43, rfl⟩ := hF.va 8 43
     rw [if_neg (by rw [wanted_no 8 rfl (by kernel_rfl) h43]; decide)]
     exact hK _ _ _ rfl hS (Below.refl _ _) rfl
    case o16 =>
     intro dn a w' _ hS hF K hK
     obtain ⟨v43, h43, rfl⟩ := hF.va 8 43
     rw [if_neg (by rw [wanted_no 8 rfl (by kernel_rfl) h43]; decide)]
     exact hK _ _ _ rfl hS (Below.refl _ _) rfl
    case o17 =>
     intro dn a w' _ hS hF K hK
     obtain ⟨v43, h43, rfl⟩ := hF.va 8 43
     rw [if_neg (by rw [wanted_no 8 rfl (by kernel_rfl) h43]; decide)]
     exact hK _ _ _ rfl hS (Below.refl _ _) rfl
    case o18 =>
     intro dn a w' _ hS hF K hK
     obtain ⟨v43, h43, rfl⟩ := hF.va 8 43
     rw [if_neg (by rw [wanted_no 8 rfl (by kernel_rfl) h43]; decide)]
     exact hK _ _ _ rfl hS (Below.refl _ _) rfl
    case o19 =>
     intro dn a w' _ hS hF K hK
     obtain ⟨v43, h43, rfl⟩ := hF.va 8 43
     obtain ⟨v53, h53, rfl⟩ := hF.va 18 53
     rw [if_pos (by kernel_rfl)]
     go_simp
     exact hK _ _ _ rfl hS (Below.refl _ _) rfl
    case o20 =>
     intro dn a w' _ hS hF K hK
     obtain ⟨v54, h54, rfl⟩ := hF.va 19 54
     rw [if_pos (by kernel_rfl)]
     go_simp
     exact hK _ _ _ rfl hS (Below.refl _ _) rfl
    case o21 =>
     intro dn a w' _ hS hF K hK
     obtain ⟨v55, h55, rfl⟩ := hF.va 20 55
     rw [if_neg (by rw [wanted_no 20 rfl (by kernel_rfl) h55]; decide)]
     exact hK _ _ _ rfl hS (Below.refl _ _) rfl
    case o22 =>
     intro dn a w' _ hS hF K hK
     obtain ⟨v55, h55, rfl⟩ := hF.va 20 55
     rw [if_neg (by rw [wanted_no 20 rfl (by kernel_rfl) h55]; decide)]
     exact hK _ _ _ rfl hS (Below.refl _ _) rfl
    case o23 =>
     intro dn a w' _ hS hF K hK
     obtain ⟨v55, h55, rfl⟩ := hF.va 20 55
     rw [if_neg (by rw [wanted_no 20 rfl (by kernel_rfl) h55]; decide)]
     exact hK _ _ _ rfl hS (Below.refl _ _) rfl
    case o24 =>
     intro dn a w' _ hS hF K hK
     obtain ⟨v55, h55, rfl⟩ := hF.va 20 55
     rw [if_neg (by rw [wanted_no 20 rfl (by kernel_rfl) h55]; decide)]
     exact hK _ _ _ rfl hS (Below.refl _ _) rfl
    case o25 =>
     intro dn a w' _ hS hF K hK
     obtain ⟨v55, h55, rfl⟩ := hF.va 20 55
     rw [if_neg (by rw [wanted_no 20 rfl (by kernel_rfl) h55]; decide)]
     exact hK _ _ _ rfl hS (Below.refl _ _) rfl
    case o26 =>
     intro dn a w' _ hS hF K hK
     obtain ⟨v55, h55, rfl⟩ := hF.va 20 55
     rw [if_neg (by rw [wanted_no 20 rfl (by kernel_rfl) h55]; decide)]
     exact hK _ _ _ rfl hS (Below.refl _ _) rfl
    case o27 =>
     intro dn a w' _ hS hF K hK
     obtain ⟨v55, h55, rfl⟩ := hF.va 20 55
     rw [if_neg (by rw [wanted_no 20 rfl (by kernel_rfl) h55]; decide)]
     exact hK _ _ _ rfl hS (Below.refl _ _) rfl
    case o28 =>
     intro dn a w' _ hS hF K hK
     obtain ⟨v55, h55, rfl⟩ := hF.va 20 55
     rw [if_neg (by rw [wanted_no 20 rfl (by kernel_rfl) h55]; decide)]
     exact hK _ _ _ rfl hS (Below.refl _ _) rfl
    case o29 =>
     intro dn a w' _ hS hF K hK
     obtain ⟨v55, h55, rfl⟩ := hF.va 20 55
     rw [if_neg (by rw [wanted_no 20 rfl (by kernel_rfl) h55]; decide)]
     exact hK _ _ _ rfl hS (Below.refl _ _) rfl
    case o30 =>
     intro dn a w' _ hS hF K hK
     obtain ⟨v55, h55, rfl⟩ := hF.va 20 55
     rw [if_neg (by rw [wanted_no 20 rfl (by kernel_rfl) h55]; decide)]
     exact hK _ _ _ rfl hS (Below.refl _ _) rfl
    case o31 =>
     intro dn a w' _ hS hF K hK
     obtain ⟨v55, h55, rfl⟩ := hF.va 20 55
     obtain ⟨v65, h65, rfl⟩ := hF.va 30 65
     rw [if_pos (by kernel_rfl)]
     go_simp
     exact hK _ _ _ rfl hS (Below.refl _ _) rfl
    case hmono =>
     intro i j v w1 w2 _ _ _ _ _ hv _
     exact hv
    case hend =>
     intro dn w5 vs_ hS hv
     have hvL : vs_ 31 = .bool true := hv 31 (by decide)
     clear hv
     have HS5 := hid hS
     simp only [putsL, Nat.reduceAdd, Act.put, List.setIfInBounds_toArray, List.set_cons_zero, List.set_cons_succ, hvL]
     go_wp2
     go_ret
     exact ⟨HZ.out, HBW.out.trans (HS5.out.mono HBW.out.size)⟩
   | true =>
    by_cases hix : idxF gn 0 (gs.map Gl.name) = k
    case neg =>
     have HZ := hid (HNo.out (by rw [hgF, decide_eq_false hix]; simp))
     have hne : (idxF gn 0 (gs.map Gl.name) != (k : Int)) = true := by rw [bne_iff_ne]; exact hix
     clear hgF hix
     go_wp2_with fail
     refine wp_region_invA (fun _ w' => Below wr.heap.size wr w') (fun _ w' w'' => Below w'.heap.size w' w'') (fun i vv w' => match i with
      | 0 => vv = .pointer (some ⟨w.heap.size, 1, none⟩)
      | 1 => vv = .slice (some ⟨b, o, none⟩) gs.length gcap
      | 2 => vv = .int .i64 (k : Int)
      | 3 => vv = .pointer (some ⟨b, o + k * 4, none⟩)
      | 4 => vv = .pointer (some ⟨b, o + k * 4, none⟩)
      | 5 => vv = .string gn
      | 6 => vv = .bool true
      | 7 => vv = .bool false
      | 8 => vv = .bool false
      | 9 => vv = .agg #[.slice fa fs.length fcap, .slice (some ⟨b, o, none⟩) gs.length gcap, .slice ra rs.length rcap, .slice ha hs.length hcap, .int .i64 lim]
      | 10 => vv = .pointer (some ⟨w.heap.size, 1, none⟩)
      | 11 => vv = .slice (some ⟨b, o, none⟩) gs.length gcap
      | 12 => vv = .int .i64 (k : Int)
      | 13 => vv = .pointer (some ⟨b, o + k * 4, none⟩)
      | 14 => vv = .pointer (some ⟨b, o + k * 4, none⟩)
      | 15 => vv = .string gn
      | 16 => vv = .int .i64 (idxF gn 0 (gs.map Gl.name))
      | 17 => vv = .int .i64 (k : Int)
      | 18 => vv = .bool true
      | 19 => vv = .bool true
      | 20 => vv = .bool true
      | 21 => vv = undef
      | 22 => vv = undef
      | 23 => vv = undef
      | 24 => vv = undef
      | 25 => vv = undef
      | 26 => vv = undef
      | 27 => vv = undef
      | 28 => vv = undef
      | 29 => vv = undef
      | 30 => vv = undef
      | 31 => vv = .bool true
      | _ => True) (by kernel_rfl) (by kernel_rfl) (Below.refl _ _).drew ?hmono ⟨?o0, ?o1, ?o2, ?o3, ?o4, ?o5, ?o6, ?o7, ?o8, ?o9, ?o10, ?o11, ?o12, ?o13, ?o14, ?o15, ?o16, ?o17, ?o18, ?o19, ?o20, ?o21, ?o22, ?o23, ?o24, ?o25, ?o26, ?o27, ?o28, ?o29, ?o30, ?o31, trivial⟩ ?hend
     case o0 =>
      intro dn a w' _ hS hF K hK
      have h1 := hF.out 1 (by kernel_rfl) rfl
      rw [if_pos (by kernel_rfl)]
      go_simp
      exact hK _ _ _ rfl hS (Below.refl _ _) rfl
     case o1 =>
      intro dn a w' _ hS hF K hK
      obtain ⟨v35, h35, rfl⟩ := hF.va 0 35
      have c0' := cx hS c0
      have c1' := cx hS c1
      have c2' := cx hS c2
      have c3' := cx hS c3
      have c4' := cx hS c4
      have g0' := cx hS g0
      have g1' := cx hS g1
      have g2' := cx hS g2
      have g3' := cx hS g3
      rw [if_pos (by kernel_rfl)]
      go_simp
      exact hK _ _ _ rfl hS (Below.refl _ _) rfl
     case o2 =>
      intro dn a w' _ hS hF K hK
      have h3 := hF.out 3 (by kernel_rfl) rfl
      rw [if_pos (by kernel_rfl)]
      go_simp
      exact hK _ _ _ rfl hS (Below.refl _ _) rfl
     case o3 =>
      intro dn a w' _ hS hF K hK
      obtain ⟨v36, h36, rfl⟩ := hF.va 1 36
      obtain ⟨v37, h37, rfl⟩ := hF.va 2 37
      rw [if_pos (by kernel_rfl)]
      go_simp
      exact hK _ _ _ rfl hS (Below.refl _ _) rfl
     case o4 =>
      intro dn a w' _ hS hF K hK
      obtain ⟨v38, h38, rfl⟩ := hF.va 3 38
      rw [if_pos (by kernel_rfl)]
      go_simp
      exact hK _ _ _ rfl hS (Below.refl _ _) rfl
     case o5 =>
      intro dn a w' _ hS hF K hK
      obtain ⟨v39, h39, rfl⟩ := hF.va 4 39
      have c0' := cx hS c0
      have c1' := cx hS c1
      have c2' := cx hS c2
      have c3' := cx hS c3
      have c4' := cx hS c4
      have g0' := cx hS g0
      have g1' := cx hS g1
      have g2' := cx hS g2
      have g3' := cx hS g3
      rw [if_pos (by kernel_rfl)]
      go_simp
      exact hK _ _ _ rfl hS (Below.refl _ _) rfl
     case o6 =>
      intro dn a w' _ hS hF K hK
      obtain ⟨v40, h40, rfl⟩ := hF.va 5 40
      rw [if_pos (by kernel_rfl)]
      go_simp
      refine (freeName_any gn w' hgsz).mono ?_
      rintro e w'' ⟨rfl, hb⟩
      rw [hfr]
      exact hK _ _ _ rfl (hS.trans (hb.mono hS.size)) hb rfl
     case o7 =>
      intro dn a w' _ hS hF K hK
      obtain ⟨v41, h41, rfl⟩ := hF.va 6 41
      rw [if_pos (by kernel_rfl)]
      go_simp
      exact hK _ _ _ rfl hS (Below.refl _ _) rfl
     case o8 =>
      intro dn a w' _ hS hF K hK
      obtain ⟨v42, h42, rfl⟩ := hF.va 7 42
      rw [if_pos (by kernel_rfl)]
      go_simp
      exact hK _ _ _ rfl hS (Below.refl _ _) rfl
     case o9 =>
      intro dn a w' _ hS hF K hK
      have h1 := hF.out 1 (by kernel_rfl) rfl
      obtain ⟨v43, h43, rfl⟩ := hF.va 8 43
      have c0' := cx hS c0
      have c1' := cx hS c1
      have c2' := cx hS c2
      have c3' := cx hS c3
      have c4' := cx hS c4
      have g0' := cx hS g0
      have g1' := cx hS g1
      have g2' := cx hS g2
      have g3' := cx hS g3
      rw [if_pos (wanted_yes 8 rfl (by kernel_rfl) h43)]
      go_simp
      exact hK _ _ _ rfl hS (Below.refl _ _) rfl
     case o10 =>
      intro dn a w' _ hS hF K hK
      have h1 := hF.out 1 (by kernel_rfl) rfl
      obtain ⟨v43, h43, rfl⟩ := hF.va 8 43
      rw [if_pos (wanted_yes 8 rfl (by kernel_rfl) h43)]
      go_simp
      exact hK _ _ _ rfl hS (Below.refl _ _) rfl
     case o11 =>
      intro dn a w' _ hS hF K hK
      obtain ⟨v45, h45, rfl⟩ := hF.va 10 45
      obtain ⟨v43, h43, rfl⟩ := hF.va 8 43
      have c0' := cx hS c0
      have c1' := cx hS c1
      have c2' := cx hS c2
      have c3' := cx hS c3
      have c4' := cx hS c4
      have g0' := cx hS g0
      have g1' := cx hS g1
      have g2' := cx hS g2
      have g3' := cx hS g3
      rw [if_pos (wanted_yes 8 rfl (by kernel_rfl) h43)]
      go_simp
      exact hK _ _ _ rfl hS (Below.refl _ _) rfl
     case o12 =>
      intro dn a w' _ hS hF K hK
      have h3 := hF.out 3 (by kernel_rfl) rfl
      obtain ⟨v43, h43, rfl⟩ := hF.va 8 43
      rw [if_pos (wanted_yes 8 rfl (by kernel_rfl) h43)]
      go_simp
      exact hK _ _ _ rfl hS (Below.refl _ _) rfl
     case o13 =>
      intro dn a w' _ hS hF K hK
      obtain ⟨v46, h46, rfl⟩ := hF.va 11 46
      obtain ⟨v47, h47, rfl⟩ := hF.va 12 47
      obtain ⟨v43, h43, rfl⟩ := hF.va 8 43
      rw [if_pos (wanted_yes 8 rfl (by kernel_rfl) h43)]
      go_simp
      exact hK _ _ _ rfl hS (Below.refl _ _) rfl
     case o14 =>
      intro dn a w' _ hS hF K hK
      obtain ⟨v48, h48, rfl⟩ := hF.va 13 48
      obtain ⟨v43, h43, rfl⟩ := hF.va 8 43
      rw [if_pos (wanted_yes 8 rfl (by kernel_rfl) h43)]
      go_simp
      exact hK _ _ _ rfl hS (Below.refl _ _) rfl
     case o15 =>
      intro dn a w' _ hS hF K hK
      obtain ⟨v49, h49, rfl⟩ := hF.va 14 49
      obtain ⟨v43, h43, rfl⟩ := hF.va 8 43
      have c0' := cx hS c0
      have c1' := cx hS c1
      have c2' := cx hS c2
      have c3' := cx hS c3
      have c4' := cx hS c4
      have g0' := cx hS g0
      have g1' := cx hS g1
      have g2' := cx hS g2
      have g3' := cx hS g3
      rw [if_pos (wanted_yes 8 rfl (by kernel_rfl) h43)]
      go_simp
      exact hK _ _ _ rfl hS (Below.refl _ _) rfl
     case o16 =>
      intro dn a w' _ hS hF K hK
      obtain ⟨v44, h44, rfl⟩ := hF.va 9 44
      obtain ⟨v50, h50, rfl⟩ := hF.va 15 50
      obtain ⟨v43, h43, rfl⟩ := hF.va 8 43
      rw [if_pos (wanted_yes 8 rfl (by kernel_rfl) h43)]
      go_simp
      refine (globAt_any (.slice fa fs.length fcap) (.slice ra rs.length rcap) (.slice ha hs.length hcap) (.int .i64 lim) (some ⟨b, o, none⟩) gs gcap gn w' (Cs.below HGr.out hS hS.size) hgl).mono ?_
      rintro e w'' ⟨rfl, hb⟩
      exact hK _ _ _ rfl (hS.trans (hb.mono hS.size)) hb rfl
     case o17 =>
      intro dn a w' _ hS hF K hK
      have h3 := hF.out 3 (by kernel_rfl) rfl
      obtain ⟨v43, h43, rfl⟩ := hF.va 8 43
      rw [if_pos (wanted_yes 8 rfl (by kernel_rfl) h43)]
      go_simp
      exact hK _ _ _ rfl hS (Below.refl _ _) rfl
     case o18 =>
      intro dn a w' _ hS hF K hK
      obtain ⟨v51, h51, rfl⟩ := hF.va 16 51
      obtain ⟨v52, h52, rfl⟩ := hF.va 17 52
      obtain ⟨v43, h43, rfl⟩ := hF.va 8 43
      rw [if_pos (wanted_yes 8 rfl (by kernel_rfl) h43)]
      go_simp
      exact hK _ _ _ rfl hS (Below.refl _ _) rfl
     case o19 =>
      intro dn a w' _ hS hF K hK
      obtain ⟨v43, h43, rfl⟩ := hF.va 8 43
      obtain ⟨v53, h53, rfl⟩ := hF.va 18 53
      rw [if_pos (by kernel_rfl)]
      go_simp
      exact hK _ _ _ rfl hS (Below.refl _ _) rfl
     case o20 =>
      intro dn a w' _ hS hF K hK
      obtain ⟨v54, h54, rfl⟩ := hF.va 19 54
      rw [if_pos (by kernel_rfl)]
      go_simp
      exact hK _ _ _ rfl hS (Below.refl _ _) rfl
     case o21 =>
      intro dn a w' _ hS hF K hK
      obtain ⟨v55, h55, rfl⟩ := hF.va 20 55
      rw [if_neg (by rw [wanted_no 20 rfl (by kernel_rfl) h55]; decide)]
      exact hK _ _ _ rfl hS (Below.refl _ _) rfl
     case o22 =>
      intro dn a w' _ hS hF K hK
      obtain ⟨v55, h55, rfl⟩ := hF.va 20 55
      rw [if_neg (by rw [wanted_no 20 rfl (by kernel_rfl) h55]; decide)]
      exact hK _ _ _ rfl hS (Below.refl _ _) rfl
     case o23 =>
      intro dn a w' _ hS hF K hK
      obtain ⟨v55, h55, rfl⟩ := hF.va 20 55
      rw [if_neg (by rw [wanted_no 20 rfl (by kernel_rfl) h55]; decide)]
      exact hK _ _ _ rfl hS (Below.refl _ _) rfl
     case o24 =>
      intro dn a w' _ hS hF K hK
      obtain ⟨v55, h55, rfl⟩ := hF.va 20 55
      rw [if_neg (by rw [wanted_no 20 rfl (by kernel_rfl) h55]; decide)]
      exact hK _ _ _ rfl hS (Below.refl _ _) rfl
     case o25 =>
      intro dn a w' _ hS hF K hK
      obtain ⟨v55, h55, rfl⟩ := hF.va 20 55
      rw [if_neg (by rw [wanted_no 20 rfl (by kernel_rfl) h55]; decide)]
      exact hK _ _ _ rfl hS (Below.refl _ _) rfl
     case o26 =>
      intro dn a w' _ hS hF K hK
      obtain ⟨v55, h55, rfl⟩ := hF.va 20 55
      rw [if_neg (by rw [wanted_no 20 rfl (by kernel_rfl) h55]; decide)]
      exact hK _ _ _ rfl hS (Below.refl _ _) rfl
     case o27 =>
      intro dn a w' _ hS hF K hK
      obtain ⟨v55, h55, rfl⟩ := hF.va 20 55
      rw [if_neg (by rw [wanted_no 20 rfl (by kernel_rfl) h55]; decide)]
      exact hK _ _ _ rfl hS (Below.refl _ _) rfl
     case o28 =>
      intro dn a w' _ hS hF K hK
      obtain ⟨v55, h55, rfl⟩ := hF.va 20 55
      rw [if_neg (by rw [wanted_no 20 rfl (by kernel_rfl) h55]; decide)]
      exact hK _ _ _ rfl hS (Below.refl _ _) rfl
     case o29 =>
      intro dn a w' _ hS hF K hK
      obtain ⟨v55, h55, rfl⟩ := hF.va 20 55
      rw [if_neg (by rw [wanted_no 20 rfl (by kernel_rfl) h55]; decide)]
      exact hK _ _ _ rfl hS (Below.refl _ _) rfl
     case o30 =>
      intro dn a w' _ hS hF K hK
      obtain ⟨v55, h55, rfl⟩ := hF.va 20 55
      rw [if_neg (by rw [wanted_no 20 rfl (by kernel_rfl) h55]; decide)]
      exact hK _ _ _ rfl hS (Below.refl _ _) rfl
     case o31 =>
      intro dn a w' _ hS hF K hK
      obtain ⟨v55, h55, rfl⟩ := hF.va 20 55
      obtain ⟨v65, h65, rfl⟩ := hF.va 30 65
      rw [if_pos (by kernel_rfl)]
      go_simp
      exact hK _ _ _ rfl hS (Below.refl _ _) rfl
     case hmono =>
      intro i j v w1 w2 _ _ _ _ _ hv _
      exact hv
     case hend =>
      intro dn w5 vs_ hS hv
      have hvL : vs_ 31 = .bool true := hv 31 (by decide)
      clear hv
      have HS5 := hid hS
      simp only [putsL, Nat.reduceAdd, Act.put, List.setIfInBounds_toArray, List.set_cons_zero, List.set_cons_succ, hvL]
      go_wp2
      go_ret
      exact ⟨HZ.out, HBW.out.trans (HS5.out.mono HBW.out.size)⟩
    have hne : (idxF gn 0 (gs.map Gl.name) != (k : Int)) = false := by rw [hix]; simp
    cases hval : okV hs.length th gw with
    | false =>
     have hv2 : (wmB gw.k gw.n gw.s && (decide (¬ gw.k = 5) || refB hs.length th gw.n)) = false := hval
     have HZ := hid (HNo.out (by rw [hgF, hval]; simp))
     clear hgF hix hval
     go_wp2_with fail
     refine wp_region_invA (fun _ w' => Below wr.heap.size wr w') (fun _ w' w'' => Below w'.heap.size w' w'') (fun i vv w' => match i with
      | 0 => vv = .pointer (some ⟨w.heap.size, 1, none⟩)
      | 1 => vv = .slice (some ⟨b, o, none⟩) gs.length gcap
      | 2 => vv = .int .i64 (k : Int)
      | 3 => vv = .pointer (some ⟨b, o + k * 4, none⟩)
      | 4 => vv = .pointer (some ⟨b, o + k * 4, none⟩)
      | 5 => vv = .string gn
      | 6 => vv = .bool true
      | 7 => vv = .bool false
      | 8 => vv = .bool false
      | 9 => vv = .agg #[.slice fa fs.length fcap, .slice (some ⟨b, o, none⟩) gs.length gcap, .slice ra rs.length rcap, .slice ha hs.length hcap, .int .i64 lim]
      | 10 => vv = .pointer (some ⟨w.heap.size, 1, none⟩)
      | 11 => vv = .slice (some ⟨b, o, none⟩) gs.length gcap
      | 12 => vv = .int .i64 (k : Int)
      | 13 => vv = .pointer (some ⟨b, o + k * 4, none⟩)
      | 14 => vv = .pointer (some ⟨b, o + k * 4, none⟩)
      | 15 => vv = .string gn
      | 16 => vv = .int .i64 (idxF gn 0 (gs.map Gl.name))
      | 17 => vv = .int .i64 (k : Int)
      | 18 => vv = .bool false
      | 19 => vv = .bool false
      | 20 => vv = .bool false
      | 21 => vv = .pointer (some ⟨w.heap.size, 3, none⟩)
      | 22 => vv = .agg #[.slice ha hs.length hcap, .int .i64 lim]
      | 23 => vv = .pointer (some ⟨w.heap.size, 1, none⟩)
      | 24 => vv = .slice (some ⟨b, o, none⟩) gs.length gcap
      | 25 => vv = .int .i64 (k : Int)
      | 26 => vv = .pointer (some ⟨b, o + k * 4, none⟩)
      | 27 => vv = .pointer (some ⟨b, o + k * 4 + 1, none⟩)
      | 28 => vv = .agg #[.int .i64 gw.k, .int .i64 gw.n, .string gw.s]
      | 29 => vv = .bool false
      | 30 => vv = .bool true
      | 31 => vv = .bool true
      | _ => True) (by kernel_rfl) (by kernel_rfl) (Below.refl _ _).drew ?hmono ⟨?o0, ?o1, ?o2, ?o3, ?o4, ?o5, ?o6, ?o7, ?o8, ?o9, ?o10, ?o11, ?o12, ?o13, ?o14, ?o15, ?o16, ?o17, ?o18, ?o19, ?o20, ?o21, ?o22, ?o23, ?o24, ?o25, ?o26, ?o27, ?o28, ?o29, ?o30, ?o31, trivial⟩ ?hend
     case o0 =>
      intro dn a w' _ hS hF K hK
      have h1 := hF.out 1 (by kernel_rfl) rfl
      rw [if_pos (by kernel_rfl)]
      go_simp
      exact hK _ _ _ rfl hS (Below.refl _ _) rfl
     case o1 =>
      intro dn a w' _ hS hF K hK
      obtain ⟨v35, h35, rfl⟩ := hF.va 0 35
      have c0' := cx hS c0
      have c1' := cx hS c1
      have c2' := cx hS c2
      have c3' := cx hS c3
      have c4' := cx hS c4
      have g0' := cx hS g0
      have g1' := cx hS g1
      have g2' := cx hS g2
      have g3' := cx hS g3
      rw [if_pos (by kernel_rfl)]
      go_simp
      exact hK _ _ _ rfl hS (Below.refl _ _) rfl
     case o2 =>
      intro dn a w' _ hS hF K hK
      have h3 := hF.out 3 (by kernel_rfl) rfl
      rw [if_pos (by kernel_rfl)]
      go_simp
      exact hK _ _ _ rfl hS (Below.refl _ _) rfl
     case o3 =>
      intro dn a w' _ hS hF K hK
      obtain ⟨v36, h36, rfl⟩ := hF.va 1 36
      obtain ⟨v37, h37, rfl⟩ := hF.va 2 37
      rw [if_pos (by kernel_rfl)]
      go_simp
      exact hK _ _ _ rfl hS (Below.refl _ _) rfl
     case o4 =>
      intro dn a w' _ hS hF K hK
      obtain ⟨v38, h38, rfl⟩ := hF.va 3 38
      rw [if_pos (by kernel_rfl)]
      go_simp
      exact hK _ _ _ rfl hS (Below.refl _ _) rfl
     case o5 =>
      intro dn a w' _ hS hF K hK
      obtain ⟨v39, h39, rfl⟩ := hF.va 4 39
      have c0' := cx hS c0
      have c1' := cx hS c1
      have c2' := cx hS c2
      have c3' := cx hS c3
      have c4' := cx hS c4
      have g0' := cx hS g0
      have g1' := cx hS g1
      have g2' := cx hS g2
      have g3' := cx hS g3
      rw [if_pos (by kernel_rfl)]
      go_simp
      exact hK _ _ _ rfl hS (Below.refl _ _) rfl
     case o6 =>
      intro dn a w' _ hS hF K hK
      obtain ⟨v40, h40, rfl⟩ := hF.va 5 40
      rw [if_pos (by kernel_rfl)]
      go_simp
      refine (freeName_any gn w' hgsz).mono ?_
      rintro e w'' ⟨rfl, hb⟩
      rw [hfr]
      exact hK _ _ _ rfl (hS.trans (hb.mono hS.size)) hb rfl
     case o7 =>
      intro dn a w' _ hS hF K hK
      obtain ⟨v41, h41, rfl⟩ := hF.va 6 41
      rw [if_pos (by kernel_rfl)]
      go_simp
      exact hK _ _ _ rfl hS (Below.refl _ _) rfl
     case o8 =>
      intro dn a w' _ hS hF K hK
      obtain ⟨v42, h42, rfl⟩ := hF.va 7 42
      rw [if_pos (by kernel_rfl)]
      go_simp
      exact hK _ _ _ rfl hS (Below.refl _ _) rfl
     case o9 =>
      intro dn a w' _ hS hF K hK
      have h1 := hF.out 1 (by kernel_rfl) rfl
      obtain ⟨v43, h43, rfl⟩ := hF.va 8 43
      have c0' := cx hS c0
      have c1' := cx hS c1
      have c2' := cx hS c2
      have c3' := cx hS c3
      have c4' := cx hS c4
      have g0' := cx hS g0
      have g1' := cx hS g1
      have g2' := cx hS g2
      have g3' := cx hS g3
      rw [if_pos (wanted_yes 8 rfl (by kernel_rfl) h43)]
      go_simp
      exact hK _ _ _ rfl hS (Below.refl _ _) rfl
     case o10 =>
      intro dn a w' _ hS hF K hK
      have h1 := hF.out 1 (by kernel_rfl) rfl
      obtain ⟨v43, h43, rfl⟩ := hF.va 8 43
      rw [if_pos (wanted_yes 8 rfl (by kernel_rfl) h43)]
      go_simp
      exact hK _ _ _ rfl hS (Below.refl _ _) rfl
     case o11 =>
      intro dn a w' _ hS hF K hK
      obtain ⟨v45, h45, rfl⟩ := hF.va 10 45
      obtain ⟨v43, h43, rfl⟩ := hF.va 8 43
      have c0' := cx hS c0
      have c1' := cx hS c1
      have c2' := cx hS c2
      have c3' := cx hS c3
      have c4' := cx hS c4
      have g0' := cx hS g0
      have g1' := cx hS g1
      have g2' := cx hS g2
      have g3' := cx hS g3
      rw [if_pos (wanted_yes 8 rfl (by kernel_rfl) h43)]
      go_simp
      exact hK _ _ _ rfl hS (Below.refl _ _) rfl
     case o12 =>
      intro dn a w' _ hS hF K hK
      have h3 := hF.out 3 (by kernel_rfl) rfl
      obtain ⟨v43, h43, rfl⟩ := hF.va 8 43
      rw [if_pos (wanted_yes 8 rfl (by kernel_rfl) h43)]
      go_simp
      exact hK _ _ _ rfl hS (Below.refl _ _) rfl
     case o13 =>
      intro dn a w' _ hS hF K hK
      obtain ⟨v46, h46, rfl⟩ := hF.va 11 46
      obtain ⟨v47, h47, rfl⟩ := hF.va 12 47
      obtain ⟨v43, h43, rfl⟩ := hF.va 8 43
      rw [if_pos (wanted_yes 8 rfl (by kernel_rfl) h43)]
      go_simp
      exact hK _ _ _ rfl hS (Below.refl _ _) rfl
     case o14 =>
      intro dn a w' _ hS hF K hK
      obtain ⟨v48, h48, rfl⟩ := hF.va 13 48
      obtain ⟨v43, h43, rfl⟩ := hF.va 8 43
      rw [if_pos (wanted_yes 8 rfl (by kernel_rfl) h43)]
      go_simp
      exact hK _ _ _ rfl hS (Below.refl _ _) rfl
     case o15 =>
      intro dn a w' _ hS hF K hK
      obtain ⟨v49, h49, rfl⟩ := hF.va 14 49
      obtain ⟨v43, h43, rfl⟩ := hF.va 8 43
      have c0' := cx hS c0
      have c1' := cx hS c1
      have c2' := cx hS c2
      have c3' := cx hS c3
      have c4' := cx hS c4
      have g0' := cx hS g0
      have g1' := cx hS g1
      have g2' := cx hS g2
      have g3' := cx hS g3
      rw [if_pos (wanted_yes 8 rfl (by kernel_rfl) h43)]
      go_simp
      exact hK _ _ _ rfl hS (Below.refl _ _) rfl
     case o16 =>
      intro dn a w' _ hS hF K hK
      obtain ⟨v44, h44, rfl⟩ := hF.va 9 44
      obtain ⟨v50, h50, rfl⟩ := hF.va 15 50
      obtain ⟨v43, h43, rfl⟩ := hF.va 8 43
      rw [if_pos (wanted_yes 8 rfl (by kernel_rfl) h43)]
      go_simp
      refine (globAt_any (.slice fa fs.length fcap) (.slice ra rs.length rcap) (.slice ha hs.length hcap) (.int .i64 lim) (some ⟨b, o, none⟩) gs gcap gn w' (Cs.below HGr.out hS hS.size) hgl).mono ?_
      rintro e w'' ⟨rfl, hb⟩
      exact hK _ _ _ rfl (hS.trans (hb.mono hS.size)) hb rfl
     case o17 =>
      intro dn a w' _ hS hF K hK
      have h3 := hF.out 3 (by kernel_rfl) rfl
      obtain ⟨v43, h43, rfl⟩ := hF.va 8 43
      rw [if_pos (wanted_yes 8 rfl (by kernel_rfl) h43)]
      go_simp
      exact hK _ _ _ rfl hS (Below.refl _ _) rfl
     case o18 =>
      intro dn a w' _ hS hF K hK
      obtain ⟨v51, h51, rfl⟩ := hF.va 16 51
      obtain ⟨v52, h52, rfl⟩ := hF.va 17 52
      obtain ⟨v43, h43, rfl⟩ := hF.va 8 43
      rw [if_pos (wanted_yes 8 rfl (by kernel_rfl) h43)]
      go_simp
      exact hK _ _ _ rfl hS (Below.refl _ _) rfl
     case o19 =>
      intro dn a w' _ hS hF K hK
      obtain ⟨v43, h43, rfl⟩ := hF.va 8 43
      obtain ⟨v53, h53, rfl⟩ := hF.va 18 53
      rw [if_pos (by kernel_rfl)]
      go_simp
      exact hK _ _ _ rfl hS (Below.refl _ _) rfl
     case o20 =>
      intro dn a w' _ hS hF K hK
      obtain ⟨v54, h54, rfl⟩ := hF.va 19 54
      rw [if_pos (by kernel_rfl)]
      go_simp
      exact hK _ _ _ rfl hS (Below.refl _ _) rfl
     case o21 =>
      intro dn a w' _ hS hF K hK
      have h1 := hF.out 1 (by kernel_rfl) rfl
      obtain ⟨v55, h55, rfl⟩ := hF.va 20 55
      rw [if_pos (wanted_yes 20 rfl (by kernel_rfl) h55)]
      go_simp
      exact hK _ _ _ rfl hS (Below.refl _ _) rfl
     case o22 =>
      intro dn a w' _ hS hF K hK
      obtain ⟨v56, h56, rfl⟩ := hF.va 21 56
      obtain ⟨v55, h55, rfl⟩ := hF.va 20 55
      have c0' := cx hS c0
      have c1' := cx hS c1
      have c2' := cx hS c2
      have c3' := cx hS c3
      have c4' := cx hS c4
      have g0' := cx hS g0
      have g1' := cx hS g1
      have g2' := cx hS g2
      have g3' := cx hS g3
      rw [if_pos (wanted_yes 20 rfl (by kernel_rfl) h55)]
      go_simp
      exact hK _ _ _ rfl hS (Below.refl _ _) rfl
     case o23 =>
      intro dn a w' _ hS hF K hK
      have h1 := hF.out 1 (by kernel_rfl) rfl
      obtain ⟨v55, h55, rfl⟩ := hF.va 20 55
      rw [if_pos (wanted_yes 20 rfl (by kernel_rfl) h55)]
      go_simp
      exact hK _ _ _ rfl hS (Below.refl _ _) rfl
     case o24 =>
      intro dn a w' _ hS hF K hK
      obtain ⟨v58, h58, rfl⟩ := hF.va 23 58
      obtain ⟨v55, h55, rfl⟩ := hF.va 20 55
      have c0' := cx hS c0
      have c1' := cx hS c1
      have c2' := cx hS c2
      have c3' := cx hS c3
      have c4' := cx hS c4
      have g0' := cx hS g0
      have g1' := cx hS g1
      have g2' := cx hS g2
      have g3' := cx hS g3
      rw [if_pos (wanted_yes 20 rfl (by kernel_rfl) h55)]
      go_simp
      exact hK _ _ _ rfl hS (Below.refl _ _) rfl
     case o25 =>
      intro dn a w' _ hS hF K hK
      have h3 := hF.out 3 (by kernel_rfl) rfl
      obtain ⟨v55, h55, rfl⟩ := hF.va 20 55
      rw [if_pos (wanted_yes 20 rfl (by kernel_rfl) h55)]
      go_simp
      exact hK _ _ _ rfl hS (Below.refl _ _) rfl
     case o26 =>
      intro dn a w' _ hS hF K hK
      obtain ⟨v59, h59, rfl⟩ := hF.va 24 59
      obtain ⟨v60, h60, rfl⟩ := hF.va 25 60
      obtain ⟨v55, h55, rfl⟩ := hF.va 20 55
      rw [if_pos (wanted_yes 20 rfl (by kernel_rfl) h55)]
      go_simp
      exact hK _ _ _ rfl hS (Below.refl _ _) rfl
     case o27 =>
      intro dn a w' _ hS hF K hK
      obtain ⟨v61, h61, rfl⟩ := hF.va 26 61
      obtain ⟨v55, h55, rfl⟩ := hF.va 20 55
      rw [if_pos (wanted_yes 20 rfl (by kernel_rfl) h55)]
      go_simp
      exact hK _ _ _ rfl hS (Below.refl _ _) rfl
     case o28 =>
      intro dn a w' _ hS hF K hK
      obtain ⟨v62, h62, rfl⟩ := hF.va 27 62
      obtain ⟨v55, h55, rfl⟩ := hF.va 20 55
      have c0' := cx hS c0
      have c1' := cx hS c1
      have c2' := cx hS c2
      have c3' := cx hS c3
      have c4' := cx hS c4
      have g0' := cx hS g0
      have g1' := cx hS g1
      have g2' := cx hS g2
      have g3' := cx hS g3
      rw [if_pos (wanted_yes 20 rfl (by kernel_rfl) h55)]
      go_simp
      exact hK _ _ _ rfl hS (Below.refl _ _) rfl
     case o29 =>
      intro dn a w' _ hS hF K hK
      obtain ⟨v57, h57, rfl⟩ := hF.va 22 57
      obtain ⟨v63, h63, rfl⟩ := hF.va 28 63
      obtain ⟨v55, h55, rfl⟩ := hF.va 20 55
      rw [if_pos (wanted_yes 20 rfl (by kernel_rfl) h55)]
      go_simp
      refine (ValueMay_any w' wr.heap.size ha hs.length hcap hs lim gw.k gw.n gw.s (HWr.out.below hS) hS.size rfl hl6 th HCh.out).mono ?_
      rintro e w'' ⟨rfl, hb⟩
      rw [hv2]
      exact hK _ _ _ rfl (hS.trans (hb.mono hS.size)) hb rfl
     case o30 =>
      intro dn a w' _ hS hF K hK
      obtain ⟨v64, h64, rfl⟩ := hF.va 29 64
      obtain ⟨v55, h55, rfl⟩ := hF.va 20 55
      rw [if_pos (wanted_yes 20 rfl (by kernel_rfl) h55)]
      go_simp
      exact hK _ _ _ rfl hS (Below.refl _ _) rfl
     case o31 =>
      intro dn a w' _ hS hF K hK
      obtain ⟨v55, h55, rfl⟩ := hF.va 20 55
      obtain ⟨v65, h65, rfl⟩ := hF.va 30 65
      rw [if_pos (by kernel_rfl)]
      go_simp
      exact hK _ _ _ rfl hS (Below.refl _ _) rfl
     case hmono =>
      intro i j v w1 w2 _ _ _ _ _ hv _
      exact hv
     case hend =>
      intro dn w5 vs_ hS hv
      have hvL : vs_ 31 = .bool true := hv 31 (by decide)
      clear hv
      have HS5 := hid hS
      simp only [putsL, Nat.reduceAdd, Act.put, List.setIfInBounds_toArray, List.set_cons_zero, List.set_cons_succ, hvL]
      go_wp2
      go_ret
      exact ⟨HZ.out, HBW.out.trans (HS5.out.mono HBW.out.size)⟩
    | true =>
     have hv2 : (wmB gw.k gw.n gw.s && (decide (¬ gw.k = 5) || refB hs.length th gw.n)) = true := hval
     have HZ := hid (HYes.out (by rw [hgF, hfr, decide_eq_true hix, hval]; rfl))
     clear hgF hix hval
     go_wp2_with fail
     refine wp_region_invA (fun _ w' => Below wr.heap.size wr w') (fun _ w' w'' => Below w'.heap.size w' w'') (fun i vv w' => match i with
      | 0 => vv = .pointer (some ⟨w.heap.size, 1, none⟩)
      | 1 => vv = .slice (some ⟨b, o, none⟩) gs.length gcap
      | 2 => vv = .int .i64 (k : Int)
      | 3 => vv = .pointer (some ⟨b, o + k * 4, none⟩)
      | 4 => vv = .pointer (some ⟨b, o + k * 4, none⟩)
      | 5 => vv = .string gn
      | 6 => vv = .bool true
      | 7 => vv = .bool false
      | 8 => vv = .bool false
      | 9 => vv = .agg #[.slice fa fs.length fcap, .slice (some ⟨b, o, none⟩) gs.length gcap, .slice ra rs.length rcap, .slice ha hs.length hcap, .int .i64 lim]
      | 10 => vv = .pointer (some ⟨w.heap.size, 1, none⟩)
      | 11 => vv = .slice (some ⟨b, o, none⟩) gs.length gcap
      | 12 => vv = .int .i64 (k : Int)
      | 13 => vv = .pointer (some ⟨b, o + k * 4, none⟩)
      | 14 => vv = .pointer (some ⟨b, o + k * 4, none⟩)
      | 15 => vv = .string gn
      | 16 => vv = .int .i64 (idxF gn 0 (gs.map Gl.name))
      | 17 => vv = .int .i64 (k : Int)
      | 18 => vv = .bool false
      | 19 => vv = .bool false
      | 20 => vv = .bool false
      | 21 => vv = .pointer (some ⟨w.heap.size, 3, none⟩)
      | 22 => vv = .agg #[.slice ha hs.length hcap, .int .i64 lim]
      | 23 => vv = .pointer (some ⟨w.heap.size, 1, none⟩)
      | 24 => vv = .slice (some ⟨b, o, none⟩) gs.length gcap
      | 25 => vv = .int .i64 (k : Int)
      | 26 => vv = .pointer (some ⟨b, o + k * 4, none⟩)
      | 27 => vv = .pointer (some ⟨b, o + k * 4 + 1, none⟩)
      | 28 => vv = .agg #[.int .i64 gw.k, .int .i64 gw.n, .string gw.s]
      | 29 => vv = .bool true
      | 30 => vv = .bool false
      | 31 => vv = .bool false
      | _ => True) (by kernel_rfl) (by kernel_rfl) (Below.refl _ _).drew ?hmono ⟨?o0, ?o1, ?o2, ?o3, ?o4, ?o5, ?o6, ?o7, ?o8, ?o9, ?o10, ?o11, ?o12, ?o13, ?o14, ?o15, ?o16, ?o17, ?o18, ?o19, ?o20, ?o21, ?o22, ?o23, ?o24, ?o25, ?o26, ?o27, ?o28, ?o29, ?o30, ?o31, trivial⟩ ?hend
     case o0 =>
      intro dn a w' _ hS hF K hK
      have h1 := hF.out 1 (by kernel_rfl) rfl
      rw [if_pos (by kernel_rfl)]
      go_simp
      exact hK _ _ _ rfl hS (Below.refl _ _) rfl
     case o1 =>
      intro dn a w' _ hS hF K hK
      obtain ⟨v35, h35, rfl⟩ := hF.va 0 35
      have c0' := cx hS c0
      have c1' := cx hS c1
      have c2' := cx hS c2
      have c3' := cx hS c3
      have c4' := cx hS c4
      have g0' := cx hS g0
      have g1' := cx hS g1
      have g2' := cx hS g2
      have g3' := cx hS g3
      rw [if_pos (by kernel_rfl)]
      go_simp
      exact hK _ _ _ rfl hS (Below.refl _ _) rfl
     case o2 =>
      intro dn a w' _ hS hF K hK
      have h3 := hF.out 3 (by kernel_rfl) rfl
      rw [if_pos (by kernel_rfl)]
      go_simp
      exact hK _ _ _ rfl hS (Below.refl _ _) rfl
     case o3 =>
      intro dn a w' _ hS hF K hK
      obtain ⟨v36, h36, rfl⟩ := hF.va 1 36
      obtain ⟨v37, h37, rfl⟩ := hF.va 2 37
      rw [if_pos (by kernel_rfl)]
      go_simp
      exact hK _ _ _ rfl hS (Below.refl _ _) rfl
     case o4 =>
      intro dn a w' _ hS hF K hK
      obtain ⟨v38, h38, rfl⟩ := hF.va 3 38
      rw [if_pos (by kernel_rfl)]
      go_simp
      exact hK _ _ _ rfl hS (Below.refl _ _) rfl
     case o5 =>
      intro dn a w' _ hS hF K hK
      obtain ⟨v39, h39, rfl⟩ := hF.va 4 39
      have c0' := cx hS c0
      have c1' := cx hS c1
      have c2' := cx hS c2
      have c3' := cx hS c3
      have c4' := cx hS c4
      have g0' := cx hS g0
      have g1' := cx hS g1
      have g2' := cx hS g2
      have g3' := cx hS g3
      rw [if_pos (by kernel_rfl)]
      go_simp
      exact hK _ _ _ rfl hS (Below.refl _ _) rfl
     case o6 =>
      intro dn a w' _ hS hF K hK
      obtain ⟨v40, h40, rfl⟩ := hF.va 5 40
      rw [if_pos (by kernel_rfl)]
      go_simp
      refine (freeName_any gn w' hgsz).mono ?_
      rintro e w'' ⟨rfl, hb⟩
      rw [hfr]
      exact hK _ _ _ rfl (hS.trans (hb.mono hS.size)) hb rfl
     case o7 =>
      intro dn a w' _ hS hF K hK
      obtain ⟨v41, h41, rfl⟩ := hF.va 6 41
      rw [if_pos (by kernel_rfl)]
      go_simp
      exact hK _ _ _ rfl hS (Below.refl _ _) rfl
     case o8 =>
      intro dn a w' _ hS hF K hK
      obtain ⟨v42, h42, rfl⟩ := hF.va 7 42
      rw [if_pos (by kernel_rfl)]
      go_simp
      exact hK _ _ _ rfl hS (Below.refl _ _) rfl
     case o9 =>
      intro dn a w' _ hS hF K hK
      have h1 := hF.out 1 (by kernel_rfl) rfl
      obtain ⟨v43, h43, rfl⟩ := hF.va 8 43
      have c0' := cx hS c0
      have c1' := cx hS c1
      have c2' := cx hS c2
      have c3' := cx hS c3
      have c4' := cx hS c4
      have g0' := cx hS g0
      have g1' := cx hS g1
      have g2' := cx hS g2
      have g3' := cx hS g3
      rw [if_pos (wanted_yes 8 rfl (by kernel_rfl) h43)]
      go_simp
      exact hK _ _ _ rfl hS (Below.refl _ _) rfl
     case o10 =>
      intro dn a w' _ hS hF K hK
      have h1 := hF.out 1 (by kernel_rfl) rfl
      obtain ⟨v43, h43, rfl⟩ := hF.va 8 43
      rw [if_pos (wanted_yes 8 rfl (by kernel_rfl) h43)]
      go_simp
      exact hK _ _ _ rfl hS (Below.refl _ _) rfl
     case o11 =>
      intro dn a w' _ hS hF K hK
      obtain ⟨v45, h45, rfl⟩ := hF.va 10 45
      obtain ⟨v43, h43, rfl⟩ := hF.va 8 43
      have c0' := cx hS c0
      have c1' := cx hS c1
      have c2' := cx hS c2
      have c3' := cx hS c3
      have c4' := cx hS c4
      have g0' := cx hS g0
      have g1' := cx hS g1
      have g2' := cx hS g2
      have g3' := cx hS g3
      rw [if_pos (wanted_yes 8 rfl (by kernel_rfl) h43)]
      go_simp
      exact hK _ _ _ rfl hS (Below.refl _ _) rfl
     case o12 =>
      intro dn a w' _ hS hF K hK
      have h3 := hF.out 3 (by kernel_rfl) rfl
      obtain ⟨v43, h43, rfl⟩ := hF.va 8 43
      rw [if_pos (wanted_yes 8 rfl (by kernel_rfl) h43)]
      go_simp
      exact hK _ _ _ rfl hS (Below.refl _ _) rfl
     case o13 =>
      intro dn a w' _ hS hF K hK
      obtain ⟨v46, h46, rfl⟩ := hF.va 11 46
      obtain ⟨v47, h47, rfl⟩ := hF.va 12 47
      obtain ⟨v43, h43, rfl⟩ := hF.va 8 43
      rw [if_pos (wanted_yes 8 rfl (by kernel_rfl) h43)]
      go_simp
      exact hK _ _ _ rfl hS (Below.refl _ _) rfl
     case o14 =>
      intro dn a w' _ hS hF K hK
      obtain ⟨v48, h48, rfl⟩ := hF.va 13 48
      obtain ⟨v43, h43, rfl⟩ := hF.va 8 43
      rw [if_pos (wanted_yes 8 rfl (by kernel_rfl) h43)]
      go_simp
      exact hK _ _ _ rfl hS (Below.refl _ _) rfl
     case o15 =>
      intro dn a w' _ hS hF K hK
      obtain ⟨v49, h49, rfl⟩ := hF.va 14 49
      obtain ⟨v43, h43, rfl⟩ := hF.va 8 43
      have c0' := cx hS c0
      have c1' := cx hS c1
      have c2' := cx hS c2
      have c3' := cx hS c3
      have c4' := cx hS c4
      have g0' := cx hS g0
      have g1' := cx hS g1
      have g2' := cx hS g2
      have g3' := cx hS g3
      rw [if_pos (wanted_yes 8 rfl (by kernel_rfl) h43)]
      go_simp
      exact hK _ _ _ rfl hS (Below.refl _ _) rfl
     case o16 =>
      intro dn a w' _ hS hF K hK
      obtain ⟨v44, h44, rfl⟩ := hF.va 9 44
      obtain ⟨v50, h50, rfl⟩ := hF.va 15 50
      obtain ⟨v43, h43, rfl⟩ := hF.va 8 43
      rw [if_pos (wanted_yes 8 rfl (by kernel_rfl) h43)]
      go_simp
      refine (globAt_any (.slice fa fs.length fcap) (.slice ra rs.length rcap) (.slice ha hs.length hcap) (.int .i64 lim) (some ⟨b, o, none⟩) gs gcap gn w' (Cs.below HGr.out hS hS.size) hgl).mono ?_
      rintro e w'' ⟨rfl, hb⟩
      exact hK _ _ _ rfl (hS.trans (hb.mono hS.size)) hb rfl
     case o17 =>
      intro dn a w' _ hS hF K hK
      have h3 := hF.out 3 (by kernel_rfl) rfl
      obtain ⟨v43, h43, rfl⟩ := hF.va 8 43
      rw [if_pos (wanted_yes 8 rfl (by kernel_rfl) h43)]
      go_simp
      exact hK _ _ _ rfl hS (Below.refl _ _) rfl
     case o18 =>
      intro dn a w' _ hS hF K hK
      obtain ⟨v51, h51, rfl⟩ := hF.va 16 51
      obtain ⟨v52, h52, rfl⟩ := hF.va 17 52
      obtain ⟨v43, h43, rfl⟩ := hF.va 8 43
      rw [if_pos (wanted_yes 8 rfl (by kernel_rfl) h43)]
      go_simp
      exact hK _ _ _ rfl hS (Below.refl _ _) rfl
     case o19 =>
      intro dn a w' _ hS hF K hK
      obtain ⟨v43, h43, rfl⟩ := hF.va 8 43
      obtain ⟨v53, h53, rfl⟩ := hF.va 18 53
      rw [if_pos (by kernel_rfl)]
      go_simp
      exact hK _ _ _ rfl hS (Below.refl _ _) rfl
     case o20 =>
      intro dn a w' _ hS hF K hK
      obtain ⟨v54, h54, rfl⟩ := hF.va 19 54
      rw [if_pos (by kernel_rfl)]
      go_simp
      exact hK _ _ _ rfl hS (Below.refl _ _) rfl
     case o21 =>
      intro dn a w' _ hS hF K hK
      have h1 := hF.out 1 (by kernel_rfl) rfl
      obtain ⟨v55, h55, rfl⟩ := hF.va 20 55
      rw [if_pos (wanted_yes 20 rfl (by kernel_rfl) h55)]
      go_simp
      exact hK _ _ _ rfl hS (Below.refl _ _) rfl
     case o22 =>
      intro dn a w' _ hS hF K hK
      obtain ⟨v56, h56, rfl⟩ := hF.va 21 56
      obtain ⟨v55, h55, rfl⟩ := hF.va 20 55
      have c0' := cx hS c0
      have c1' := cx hS c1
      have c2' := cx hS c2
      have c3' := cx hS c3
      have c4' := cx hS c4
      have g0' := cx hS g0
      have g1' := cx hS g1
      have g2' := cx hS g2
      have g3' := cx hS g3
      rw [if_pos (wanted_yes 20 rfl (by kernel_rfl) h55)]
      go_simp
      exact hK _ _ _ rfl hS (Below.refl _ _) rfl
     case o23 =>
      intro dn a w' _ hS hF K hK
      have h1 := hF.out 1 (by kernel_rfl) rfl
      obtain ⟨v55, h55, rfl⟩ := hF.va 20 55
      rw [if_pos (wanted_yes 20 rfl (by kernel_rfl) h55)]
      go_simp
      exact hK _ _ _ rfl hS (Below.refl _ _) rfl
     case o24 =>
      intro dn a w' _ hS hF K hK
      obtain ⟨v58, h58, rfl⟩ := hF.va 23 58
      obtain ⟨v55, h55, rfl⟩ := hF.va 20 55
      have c0' := cx hS c0
      have c1' := cx hS c1
      have c2' := cx hS c2
      have c3' := cx hS c3
      have c4' := cx hS c4
      have g0' := cx hS g0
      have g1' := cx hS g1
      have g2' := cx hS g2
      have g3' := cx hS g3
      rw [if_pos (wanted_yes 20 rfl (by kernel_rfl) h55)]
      go_simp
      exact hK _ _ _ rfl hS (Below.refl _ _) rfl
     case o25 =>
      intro dn a w' _ hS hF K hK
      have h3 := hF.out 3 (by kernel_rfl) rfl
      obtain ⟨v55, h55, rfl⟩ := hF.va 20 55
      rw [if_pos (wanted_yes 20 rfl (by kernel_rfl) h55)]
      go_simp
      exact hK _ _ _ rfl hS (Below.refl _ _) rfl
     case o26 =>
      intro dn a w' _ hS hF K hK
      obtain ⟨v59, h59, rfl⟩ := hF.va 24 59
      obtain ⟨v60, h60, rfl⟩ := hF.va 25 60
      obtain ⟨v55, h55, rfl⟩ := hF.va 20 55
      rw [if_pos (wanted_yes 20 rfl (by kernel_rfl) h55)]
      go_simp
      exact hK _ _ _ rfl hS (Below.refl _ _) rfl
     case o27 =>
      intro dn a w' _ hS hF K hK
      obtain ⟨v61, h61, rfl⟩ := hF.va 26 61
      obtain ⟨v55, h55, rfl⟩ := hF.va 20 55
      rw [if_pos (wanted_yes 20 rfl (by kernel_rfl) h55)]
      go_simp
      exact hK _ _ _ rfl hS (Below.refl _ _) rfl
     case o28 =>
      intro dn a w' _ hS hF K hK
      obtain ⟨v62, h62, rfl⟩ := hF.va 27 62
      obtain ⟨v55, h55, rfl⟩ := hF.va 20 55
      have c0' := cx hS c0
      have c1' := cx hS c1
      have c2' := cx hS c2
      have c3' := cx hS c3
      have c4' := cx hS c4
      have g0' := cx hS g0
      have g1' := cx hS g1
      have g2' := cx hS g2
      have g3' := cx hS g3
      rw [if_pos (wanted_yes 20 rfl (by kernel_rfl) h55)]
      go_simp
      exact hK _ _ _ rfl hS (Below.refl _ _) rfl
     case o29 =>
      intro dn a w' _ hS hF K hK
      obtain ⟨v57, h57, rfl⟩ := hF.va 22 57
      obtain ⟨v63, h63, rfl⟩ := hF.va 28 63
      obtain ⟨v55, h55, rfl⟩ := hF.va 20 55
      rw [if_pos (wanted_yes 20 rfl (by kernel_rfl) h55)]
      go_simp
      refine (ValueMay_any w' wr.heap.size ha hs.length hcap hs lim gw.k gw.n gw.s (HWr.out.below hS) hS.size rfl hl6 th HCh.out).mono ?_
      rintro e w'' ⟨rfl, hb⟩
      rw [hv2]
      exact hK _ _ _ rfl (hS.trans (hb.mono hS.size)) hb rfl
     case o30 =>
      intro dn a w' _ hS hF K hK
      obtain ⟨v64, h64, rfl⟩ := hF.va 29 64
      obtain ⟨v55, h55, rfl⟩ := hF.va 20 55
      rw [if_pos (wanted_yes 20 rfl (by kernel_rfl) h55)]
      go_simp
      exact hK _ _ _ rfl hS (Below.refl _ _) rfl
     case o31 =>
      intro dn a w' _ hS hF K hK
      obtain ⟨v55, h55, rfl⟩ := hF.va 20 55
      obtain ⟨v65, h65, rfl⟩ := hF.va 30 65
      rw [if_pos (by kernel_rfl)]
      go_simp
      exact hK _ _ _ rfl hS (Below.refl _ _) rfl
     case hmono =>
      intro i j v w1 w2 _ _ _ _ _ hv _
      exact hv
     case hend =>
      intro dn w5 vs_ hS hv
      have hvL : vs_ 31 = .bool false := hv 31 (by decide)
      clear hv
      have HS5 := hid hS
      simp only [putsL, Nat.reduceAdd, Act.put, List.setIfInBounds_toArray, List.set_cons_zero, List.set_cons_succ, hvL]
      go_wp2_with fail
      go_roundw
      case rel => exact ⟨k + 1, by omega, by go_num, HZ.out, HBr.out.trans (HS5.out.mono hzr)⟩
      case measure => simp [intOf]; omega
/-- The document's WorldMay keeps its contract. -/
theorem worldMay_any (x : Wv) (lim : Int) (w : World) (hS : subW w (fun b => b < w.heap.size) x) (hb : bigW x) (hw : wfW x) :
  Calls Tryz.prog 6 #[.agg #[.slice x.fa x.fs.length x.fcap, .slice x.ga x.gs.length x.gcap, .slice x.ra x.rs.length x.rcap, .slice x.ha x.hs.length x.hcap, .int .i64 lim]] w fun e w' => DocR x lim e ∧ Below w.heap.size w w' := by
 obtain ⟨fa, fcap, fs, ga, gcap, gs, ra, rcap, rs, ha, hcap, hs⟩ := x
 exact WorldMay_aux fa ga ra ha fcap gcap rcap hcap fs gs rs hs lim w hS hb hw
end Go.Proofs.YtldmanfgmadbfaaGreatDoor
