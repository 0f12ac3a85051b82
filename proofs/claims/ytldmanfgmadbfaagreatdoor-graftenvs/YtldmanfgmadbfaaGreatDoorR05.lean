/- May a record be: the document's recMay. (Written by wip/tools/mkdrec.py.) -/
import Derived.Test.YtldmanfgmadbfaaGreatDoorQ18
import Derived.Test.YtldmanfgmadbfaaGreatDoorQ09
import Derived.Test.YtldmanfgmadbfaaGreatDoorQ21
import Derived.Test.YtldmanfgmadbfaaGreatDoorR04
import Derived.RegionTactic
import Derived.Deep.RegionWith
import Derived.Test.YtldmanfgmadbfaaGreatDoorRShort
namespace Go.Proofs.YtldmanfgmadbfaaGreatDoor
set_option maxRecDepth 100000
open HH UU VV
open Go.RowKit Go.Maps Go.WideMaps
set_option maxRecDepth 1000000 in
set_option maxHeartbeats 8000000 in
theorem recMay_aux (fa va ma : Option Addr) (fcap vcap mcap : Nat) (fs : List VV.Fn) (nm : ByteArray) (vs : List VV.Sh) (ms : List Mv) (v1 v2 v3 v4 : Value) (w : World)
  (hF : Cs w (fun b => b < w.heap.size) fa (flatC fnC fs)) (hFs : ∀ f, f ∈ fs → subF w (fun b => b < w.heap.size) f) (hfb : fs.length ≤ 9223372036854775807) (hfbs : ∀ f, f ∈ fs → bigF f)
  (hR : subR w (fun b => b < w.heap.size) ⟨nm, va, vcap, vs, ma, mcap, ms⟩) (hb : bigR ⟨nm, va, vcap, vs, ma, mcap, ms⟩) (hw : wfRc ⟨nm, va, vcap, vs, ma, mcap, ms⟩) :
  Calls Tryz.prog 17 #[.agg #[.slice fa fs.length fcap, v1, v2, v3, v4], .agg #[.string nm, .slice va vs.length vcap, .slice ma ms.length mcap]] w fun e w' => e = .returned (.bool (recD fs ⟨nm, va, vcap, vs, ma, mcap, ms⟩)) ∧ Below w.heap.size w w' := by
 obtain ⟨w2, hw2⟩ : ∃ w2, w2 = (w.alloc (.cells #[.slice fa fs.length fcap, v1, v2, v3, v4] 29)).alloc (.cells #[.string nm, .slice va vs.length vcap, .slice ma ms.length mcap] 58) := ⟨_, rfl⟩
 have HB2 := hid (show Below w.heap.size w w2 by rw [hw2]; exact below_2 _ _ _)
 have hz2 : w2.heap.size = w.heap.size + 2 := by rw [hw2]; simp
 have c0 : w2.cell? ⟨w.heap.size, 0, none⟩ = some (.slice fa fs.length fcap) ∧ w2.cell? ⟨w.heap.size + 1, 0, none⟩ = some (.string nm) ∧ w2.cell? ⟨w.heap.size + 1, 1, none⟩ = some (.slice va vs.length vcap) ∧ w2.cell? ⟨w.heap.size + 1, 2, none⟩ = some (.slice ma ms.length mcap) := by
  rw [hw2]; refine ⟨?_, ?_, ?_, ?_⟩ <;> go_simp
 have CC := hid c0
 have HF := hid hF
 have HFs := hid hFs
 have HR := hid hR
 have HBg := hid hb
 have HWf := hid hw
 have H2 := hid hw2
 have hvl : vs.length ≤ 9223372036854775807 := by have : vs.length * _ ≤ 140737488355328 := hb.v; omega
 have hml : ms.length ≤ 9223372036854775807 := by have : ms.length * _ ≤ 140737488355328 := hb.m; omega
 obtain ⟨R, hRR⟩ : ∃ R, R = recD fs ⟨nm, va, vcap, vs, ma, mcap, ms⟩ := ⟨_, rfl⟩
 rw [← hRR]
 have HRD := hid (hRR.trans (show recD fs ⟨nm, va, vcap, vs, ma, mcap, ms⟩ = (inB vs.length 1 20 && (decide ((ms.length : Int) = (vs.length : Int) - 1) && (vs.all (fun s => decide (s.name = nm) && decide (shapeI s.name s.fs = 0)) && (List.range ms.length).all (mvD fs ⟨nm, va, vcap, vs, ma, mcap, ms⟩)))) from rfl))
 clear hw2 hF hFs hR hb hw hRR c0
 cases hin : inB (vs.length : Int) 1 20 with
 | false =>
  have HX := hid (HRD.out.trans (by rw [hin]; rfl) : R = false)
  go_enter Tryz.func17, Tryz.ntmps17
  go_wp2_with fail
  go_fit (HH.In_any _ 1 20 _)
  rintro e w3 ⟨rfl, rfl⟩
  rw [hin]
  go_wp2
  go_ret
  exact ⟨ret_bool HX.out.symm, by rw [← H2.out]; exact HB2.out⟩
 | true =>
  by_cases hlm : (ms.length : Int) = (vs.length : Int) - 1
  case neg =>
   have HX := hid (HRD.out.trans (by rw [hin, decide_eq_false hlm]; rfl) : R = false)
   have hne : ((ms.length : Int) != (vs.length : Int) - 1) = true := by simp only [bne_iff_ne, ne_eq]; exact hlm
   clear hlm
   go_enter Tryz.func17, Tryz.ntmps17
   go_wp2_with fail
   go_fit (HH.In_any _ 1 20 _)
   rintro e w3 ⟨rfl, rfl⟩
   rw [hin]
   go_wp2
   go_ret
   exact ⟨ret_bool HX.out.symm, by rw [← H2.out]; exact HB2.out⟩
  have HX := hid (HRD.out.trans (by rw [hin, decide_eq_true hlm]; rfl) : R = (vs.all (fun s => decide (s.name = nm) && decide (shapeI s.name s.fs = 0)) && (List.range ms.length).all (mvD fs ⟨nm, va, vcap, vs, ma, mcap, ms⟩)))
  have hne : ((ms.length : Int) != (vs.length : Int) - 1) = false := by rw [hlm]; simp
  have HLM := hid (show vs.length = ms.length + 1 by omega)
  clear hlm
  go_enter Tryz.func17, Tryz.ntmps17
  go_wp2_with fail
  go_fit (HH.In_any _ 1 20 _)
  rintro e w3 ⟨rfl, rfl⟩
  rw [hin, ← H2.out]
  obtain ⟨c0, r0, r1, r2⟩ := CC.out
  go_wp2_with fail
  go_loopw [5] (fun i wr => ∃ k : Nat, k ≤ vs.length ∧ i = .int .i64 k ∧ (vs.take k).all (fun s => decide (s.name = nm) && decide (shapeI s.name s.fs = 0)) = true ∧ Below w2.heap.size w2 wr) (fun i _ => vs.length - (intOf i).toNat)
  case atStart => exact ⟨0, Nat.zero_le _, rfl, rfl, Below.refl _ _⟩
  case round =>
   obtain ⟨k, hk, rfl, hall, hbr⟩ := hrel
   have HAl := hid hall
   have HBr := hid hbr
   have hzr := hbr.size
   have HBW := hid (HB2.out.trans (hbr.mono HB2.out.size))
   have r0 := (hbr.cell (p := ⟨w.heap.size + 1, 0, none⟩) (by dsimp only; omega)).trans r0
   have r1 := (hbr.cell (p := ⟨w.heap.size + 1, 1, none⟩) (by dsimp only; omega)).trans r1
   have r2 := (hbr.cell (p := ⟨w.heap.size + 1, 2, none⟩) (by dsimp only; omega)).trans r2
   have c0 := (hbr.cell (p := ⟨w.heap.size, 0, none⟩) (by dsimp only; omega)).trans c0
   clear hall hbr
   by_cases hlt : k < vs.length
   case pos =>
    have hlt2 : (k : Int) < vs.length := by omega
    obtain ⟨b, o, rfl, hbB, x0, x1⟩ := sh_at (Cs.below HR.out.v HBW.out HBW.out.size) hlt
    have hwS := HWf.out.vs _ (List.getElem_mem hlt)
    have hsl : (vs[k]'hlt).fs.length * 16 ≤ 140737488355328 := HBg.out.vs _ (List.getElem_mem hlt)
    have HStr := hid (strs_row (Cs.below (HR.out.vs _ (List.getElem_mem hlt)) HBW.out HBW.out.size) hwS.fs)
    have HYes := hid (fun h => take_all (f := fun s : VV.Sh => decide (s.name = nm) && decide (shapeI s.name s.fs = 0)) HAl.out hlt h)
    have HNo := hid (fun h => all_no (f := fun s : VV.Sh => decide (s.name = nm) && decide (shapeI s.name s.fs = 0)) hlt h)
    generalize (vs[k]'hlt) = sh at x0 x1 hwS hsl HStr HYes HNo
    obtain ⟨sn, sa, scap, sf⟩ := sh
    obtain ⟨hsn, hscap, _⟩ := hwS
    dsimp only at x0 x1 hsl hsn hscap
    have hsl : sf.length ≤ 9223372036854775807 := by omega
    by_cases hnm : sn = nm
    case neg =>
     have HZ := hid (show R = false from by rw [HX.out, HNo.out (by simp [hnm])]; rfl)
     have hne2 : (sn.toList == nm.toList) = false := by
      rw [beq_eq_false_iff_ne]
      intro q
      exact hnm (by rw [ByteArray.toList_eq, ByteArray.toList_eq] at q; cases sn; cases nm; simp only [ByteArray.mk.injEq]; exact Array.toList_inj.1 q)
     clear hnm
     go_wp2_with fail
     refine wp_region_invA (fun _ w' => Below wr.heap.size wr w') (fun _ w' w'' => Below w'.heap.size w' w'') (fun i vv w' => match i with
      | 0 => vv = .pointer (some ⟨w.heap.size + 1, 1, none⟩)
      | 1 => vv = .slice (some ⟨b, o, none⟩) vs.length vcap
      | 2 => vv = .int .i64 (k : Int)
      | 3 => vv = .pointer (some ⟨b, o + k * 2, none⟩)
      | 4 => vv = .pointer (some ⟨b, o + k * 2, none⟩)
      | 5 => vv = .string sn
      | 6 => vv = .pointer (some ⟨w.heap.size + 1, 0, none⟩)
      | 7 => vv = .string nm
      | 8 => vv = .bool true
      | 9 => vv = .bool true
      | 10 => vv = undef
      | 11 => vv = undef
      | 12 => vv = undef
      | 13 => vv = undef
      | 14 => vv = undef
      | 15 => vv = undef
      | 16 => vv = undef
      | 17 => vv = .bool true
      | _ => True) (by kernel_rfl) (by kernel_rfl) (Below.refl _ _).drew ?hmono ⟨?o0, ?o1, ?o2, ?o3, ?o4, ?o5, ?o6, ?o7, ?o8, ?o9, ?o10, ?o11, ?o12, ?o13, ?o14, ?o15, ?o16, ?o17, trivial⟩ ?hend
     case o0 =>
      intro dn a w' _ hS hF K hK
      have h3 := hF.out 3 (by kernel_rfl) rfl
      rw [if_pos (by kernel_rfl)]
      go_simp
      exact hK _ _ _ rfl hS (Below.refl _ _) rfl
     case o1 =>
      intro dn a w' _ hS hF K hK
      obtain ⟨v31, h31, rfl⟩ := hF.va 0 31
      have r0' := cx hS r0
      have r1' := cx hS r1
      have x0' := cx hS x0
      have x1' := cx hS x1
      rw [if_pos (by kernel_rfl)]
      go_simp
      exact hK _ _ _ rfl hS (Below.refl _ _) rfl
     case o2 =>
      intro dn a w' _ hS hF K hK
      have h5 := hF.out 5 (by kernel_rfl) rfl
      rw [if_pos (by kernel_rfl)]
      go_simp
      exact hK _ _ _ rfl hS (Below.refl _ _) rfl
     case o3 =>
      intro dn a w' _ hS hF K hK
      obtain ⟨v32, h32, rfl⟩ := hF.va 1 32
      obtain ⟨v33, h33, rfl⟩ := hF.va 2 33
      rw [if_pos (by kernel_rfl)]
      go_simp
      exact hK _ _ _ rfl hS (Below.refl _ _) rfl
     case o4 =>
      intro dn a w' _ hS hF K hK
      obtain ⟨v34, h34, rfl⟩ := hF.va 3 34
      rw [if_pos (by kernel_rfl)]
      go_simp
      exact hK _ _ _ rfl hS (Below.refl _ _) rfl
     case o5 =>
      intro dn a w' _ hS hF K hK
      obtain ⟨v35, h35, rfl⟩ := hF.va 4 35
      have r0' := cx hS r0
      have r1' := cx hS r1
      have x0' := cx hS x0
      have x1' := cx hS x1
      rw [if_pos (by kernel_rfl)]
      go_simp
      exact hK _ _ _ rfl hS (Below.refl _ _) rfl
     case o6 =>
      intro dn a w' _ hS hF K hK
      have h3 := hF.out 3 (by kernel_rfl) rfl
      rw [if_pos (by kernel_rfl)]
      go_simp
      exact hK _ _ _ rfl hS (Below.refl _ _) rfl
     case o7 =>
      intro dn a w' _ hS hF K hK
      obtain ⟨v37, h37, rfl⟩ := hF.va 6 37
      have r0' := cx hS r0
      have r1' := cx hS r1
      have x0' := cx hS x0
      have x1' := cx hS x1
      rw [if_pos (by kernel_rfl)]
      go_simp
      exact hK _ _ _ rfl hS (Below.refl _ _) rfl
     case o8 =>
      intro dn a w' _ hS hF K hK
      obtain ⟨v36, h36, rfl⟩ := hF.va 5 36
      obtain ⟨v38, h38, rfl⟩ := hF.va 7 38
      rw [if_pos (by kernel_rfl)]
      go_simp
      exact hK _ _ _ rfl hS (Below.refl _ _) rfl
     case o9 =>
      intro dn a w' _ hS hF K hK
      obtain ⟨v39, h39, rfl⟩ := hF.va 8 39
      rw [if_pos (by kernel_rfl)]
      go_simp
      exact hK _ _ _ rfl hS (Below.refl _ _) rfl
     case o10 =>
      intro dn a w' _ hS hF K hK
      obtain ⟨v40, h40, rfl⟩ := hF.va 9 40
      rw [if_neg (by rw [wanted_no 9 rfl (by kernel_rfl) h40]; decide)]
      exact hK _ _ _ rfl hS (Below.refl _ _) rfl
     case o11 =>
      intro dn a w' _ hS hF K hK
      obtain ⟨v40, h40, rfl⟩ := hF.va 9 40
      rw [if_neg (by rw [wanted_no 9 rfl (by kernel_rfl) h40]; decide)]
      exact hK _ _ _ rfl hS (Below.refl _ _) rfl
     case o12 =>
      intro dn a w' _ hS hF K hK
      obtain ⟨v40, h40, rfl⟩ := hF.va 9 40
      rw [if_neg (by rw [wanted_no 9 rfl (by kernel_rfl) h40]; decide)]
      exact hK _ _ _ rfl hS (Below.refl _ _) rfl
     case o13 =>
      intro dn a w' _ hS hF K hK
      obtain ⟨v40, h40, rfl⟩ := hF.va 9 40
      rw [if_neg (by rw [wanted_no 9 rfl (by kernel_rfl) h40]; decide)]
      exact hK _ _ _ rfl hS (Below.refl _ _) rfl
     case o14 =>
      intro dn a w' _ hS hF K hK
      obtain ⟨v40, h40, rfl⟩ := hF.va 9 40
      rw [if_neg (by rw [wanted_no 9 rfl (by kernel_rfl) h40]; decide)]
      exact hK _ _ _ rfl hS (Below.refl _ _) rfl
     case o15 =>
      intro dn a w' _ hS hF K hK
      obtain ⟨v40, h40, rfl⟩ := hF.va 9 40
      rw [if_neg (by rw [wanted_no 9 rfl (by kernel_rfl) h40]; decide)]
      exact hK _ _ _ rfl hS (Below.refl _ _) rfl
     case o16 =>
      intro dn a w' _ hS hF K hK
      obtain ⟨v40, h40, rfl⟩ := hF.va 9 40
      rw [if_neg (by rw [wanted_no 9 rfl (by kernel_rfl) h40]; decide)]
      exact hK _ _ _ rfl hS (Below.refl _ _) rfl
     case o17 =>
      intro dn a w' _ hS hF K hK
      obtain ⟨v40, h40, rfl⟩ := hF.va 9 40
      obtain ⟨v47, h47, rfl⟩ := hF.va 16 47
      rw [if_pos (by kernel_rfl)]
      go_simp
      exact hK _ _ _ rfl hS (Below.refl _ _) rfl
     case hmono =>
      intro i j v w1 w2 _ _ _ _ _ hv _
      exact hv
     case hend =>
      intro dn w5 vs_ hS hv
      have hvL : vs_ 17 = .bool true := hv 17 (by decide)
      clear hv
      have HS5 := hid hS
      simp only [putsL, Nat.reduceAdd, Act.put, List.setIfInBounds_toArray, List.set_cons_zero, List.set_cons_succ, hvL]
      go_wp2
      go_ret
      exact ⟨ret_bool HZ.out.symm, HBW.out.trans (HS5.out.mono HBW.out.size)⟩
    subst hnm
    have hne2 : (sn.toList != sn.toList) = false := by simp
    by_cases hsh : shapeI sn sf = 0
    ·
     have HZ := hid (HYes.out (by simp [hsh]))
     have hs0 : (shapeI sn sf != 0) = false := by simp [hsh]
     clear hsh
     go_wp2_with fail
     refine wp_region_invA (fun _ w' => Below wr.heap.size wr w') (fun _ w' w'' => Below w'.heap.size w' w'') (fun i vv w' => match i with
      | 0 => vv = .pointer (some ⟨w.heap.size + 1, 1, none⟩)
      | 1 => vv = .slice (some ⟨b, o, none⟩) vs.length vcap
      | 2 => vv = .int .i64 (k : Int)
      | 3 => vv = .pointer (some ⟨b, o + k * 2, none⟩)
      | 4 => vv = .pointer (some ⟨b, o + k * 2, none⟩)
      | 5 => vv = .string sn
      | 6 => vv = .pointer (some ⟨w.heap.size + 1, 0, none⟩)
      | 7 => vv = .string sn
      | 8 => vv = .bool false
      | 9 => vv = .bool false
      | 10 => vv = .pointer (some ⟨w.heap.size + 1, 1, none⟩)
      | 11 => vv = .slice (some ⟨b, o, none⟩) vs.length vcap
      | 12 => vv = .int .i64 (k : Int)
      | 13 => vv = .pointer (some ⟨b, o + k * 2, none⟩)
      | 14 => vv = .agg #[.string sn, .slice sa sf.length scap]
      | 15 => vv = .int .i64 (shapeI sn sf)
      | 16 => vv = .bool false
      | 17 => vv = .bool false
      | _ => True) (by kernel_rfl) (by kernel_rfl) (Below.refl _ _).drew ?hmono ⟨?o0, ?o1, ?o2, ?o3, ?o4, ?o5, ?o6, ?o7, ?o8, ?o9, ?o10, ?o11, ?o12, ?o13, ?o14, ?o15, ?o16, ?o17, trivial⟩ ?hend
     case o0 =>
      intro dn a w' _ hS hF K hK
      have h3 := hF.out 3 (by kernel_rfl) rfl
      rw [if_pos (by kernel_rfl)]
      go_simp
      exact hK _ _ _ rfl hS (Below.refl _ _) rfl
     case o1 =>
      intro dn a w' _ hS hF K hK
      obtain ⟨v31, h31, rfl⟩ := hF.va 0 31
      have r0' := cx hS r0
      have r1' := cx hS r1
      have x0' := cx hS x0
      have x1' := cx hS x1
      rw [if_pos (by kernel_rfl)]
      go_simp
      exact hK _ _ _ rfl hS (Below.refl _ _) rfl
     case o2 =>
      intro dn a w' _ hS hF K hK
      have h5 := hF.out 5 (by kernel_rfl) rfl
      rw [if_pos (by kernel_rfl)]
      go_simp
      exact hK _ _ _ rfl hS (Below.refl _ _) rfl
     case o3 =>
      intro dn a w' _ hS hF K hK
      obtain ⟨v32, h32, rfl⟩ := hF.va 1 32
      obtain ⟨v33, h33, rfl⟩ := hF.va 2 33
      rw [if_pos (by kernel_rfl)]
      go_simp
      exact hK _ _ _ rfl hS (Below.refl _ _) rfl
     case o4 =>
      intro dn a w' _ hS hF K hK
      obtain ⟨v34, h34, rfl⟩ := hF.va 3 34
      rw [if_pos (by kernel_rfl)]
      go_simp
      exact hK _ _ _ rfl hS (Below.refl _ _) rfl
     case o5 =>
      intro dn a w' _ hS hF K hK
      obtain ⟨v35, h35, rfl⟩ := hF.va 4 35
      have r0' := cx hS r0
      have r1' := cx hS r1
      have x0' := cx hS x0
      have x1' := cx hS x1
      rw [if_pos (by kernel_rfl)]
      go_simp
      exact hK _ _ _ rfl hS (Below.refl _ _) rfl
     case o6 =>
      intro dn a w' _ hS hF K hK
      have h3 := hF.out 3 (by kernel_rfl) rfl
      rw [if_pos (by kernel_rfl)]
      go_simp
      exact hK _ _ _ rfl hS (Below.refl _ _) rfl
     case o7 =>
      intro dn a w' _ hS hF K hK
      obtain ⟨v37, h37, rfl⟩ := hF.va 6 37
      have r0' := cx hS r0
      have r1' := cx hS r1
      have x0' := cx hS x0
      have x1' := cx hS x1
      rw [if_pos (by kernel_rfl)]
      go_simp
      exact hK _ _ _ rfl hS (Below.refl _ _) rfl
     case o8 =>
      intro dn a w' _ hS hF K hK
      obtain ⟨v36, h36, rfl⟩ := hF.va 5 36
      obtain ⟨v38, h38, rfl⟩ := hF.va 7 38
      rw [if_pos (by kernel_rfl)]
      go_simp
      exact hK _ _ _ rfl hS (Below.refl _ _) rfl
     case o9 =>
      intro dn a w' _ hS hF K hK
      obtain ⟨v39, h39, rfl⟩ := hF.va 8 39
      rw [if_pos (by kernel_rfl)]
      go_simp
      exact hK _ _ _ rfl hS (Below.refl _ _) rfl
     case o10 =>
      intro dn a w' _ hS hF K hK
      have h3 := hF.out 3 (by kernel_rfl) rfl
      obtain ⟨v40, h40, rfl⟩ := hF.va 9 40
      rw [if_pos (wanted_yes 9 rfl (by kernel_rfl) h40)]
      go_simp
      exact hK _ _ _ rfl hS (Below.refl _ _) rfl
     case o11 =>
      intro dn a w' _ hS hF K hK
      obtain ⟨v41, h41, rfl⟩ := hF.va 10 41
      obtain ⟨v40, h40, rfl⟩ := hF.va 9 40
      have r0' := cx hS r0
      have r1' := cx hS r1
      have x0' := cx hS x0
      have x1' := cx hS x1
      rw [if_pos (wanted_yes 9 rfl (by kernel_rfl) h40)]
      go_simp
      exact hK _ _ _ rfl hS (Below.refl _ _) rfl
     case o12 =>
      intro dn a w' _ hS hF K hK
      have h5 := hF.out 5 (by kernel_rfl) rfl
      obtain ⟨v40, h40, rfl⟩ := hF.va 9 40
      rw [if_pos (wanted_yes 9 rfl (by kernel_rfl) h40)]
      go_simp
      exact hK _ _ _ rfl hS (Below.refl _ _) rfl
     case o13 =>
      intro dn a w' _ hS hF K hK
      obtain ⟨v42, h42, rfl⟩ := hF.va 11 42
      obtain ⟨v43, h43, rfl⟩ := hF.va 12 43
      obtain ⟨v40, h40, rfl⟩ := hF.va 9 40
      rw [if_pos (wanted_yes 9 rfl (by kernel_rfl) h40)]
      go_simp
      exact hK _ _ _ rfl hS (Below.refl _ _) rfl
     case o14 =>
      intro dn a w' _ hS hF K hK
      obtain ⟨v44, h44, rfl⟩ := hF.va 13 44
      obtain ⟨v40, h40, rfl⟩ := hF.va 9 40
      have r0' := cx hS r0
      have r1' := cx hS r1
      have x0' := cx hS x0
      have x1' := cx hS x1
      rw [if_pos (wanted_yes 9 rfl (by kernel_rfl) h40)]
      go_simp
      exact hK _ _ _ rfl hS (Below.refl _ _) rfl
     case o15 =>
      intro dn a w' _ hS hF K hK
      obtain ⟨v45, h45, rfl⟩ := hF.va 14 45
      obtain ⟨v40, h40, rfl⟩ := hF.va 9 40
      rw [if_pos (wanted_yes 9 rfl (by kernel_rfl) h40)]
      go_simp
      refine (ShapeFault_any wr wr.heap.size sn sa sf sf.length scap w' hsn rfl hsl hscap hS hS.size HStr.out).mono ?_
      rintro e w'' ⟨rfl, hb⟩
      exact hK _ _ _ rfl (hS.trans (hb.mono hS.size)) hb rfl
     case o16 =>
      intro dn a w' _ hS hF K hK
      obtain ⟨v46, h46, rfl⟩ := hF.va 15 46
      obtain ⟨v40, h40, rfl⟩ := hF.va 9 40
      rw [if_pos (wanted_yes 9 rfl (by kernel_rfl) h40)]
      go_simp
      exact hK _ _ _ rfl hS (Below.refl _ _) rfl
     case o17 =>
      intro dn a w' _ hS hF K hK
      obtain ⟨v40, h40, rfl⟩ := hF.va 9 40
      obtain ⟨v47, h47, rfl⟩ := hF.va 16 47
      rw [if_pos (by kernel_rfl)]
      go_simp
      exact hK _ _ _ rfl hS (Below.refl _ _) rfl
     case hmono =>
      intro i j v w1 w2 _ _ _ _ _ hv _
      exact hv
     case hend =>
      intro dn w5 vs_ hS hv
      have hvL : vs_ 17 = .bool false := hv 17 (by decide)
      clear hv
      have HS5 := hid hS
      simp only [putsL, Nat.reduceAdd, Act.put, List.setIfInBounds_toArray, List.set_cons_zero, List.set_cons_succ, hvL]
      go_wp2_with fail
      go_roundw
      case rel => exact ⟨k + 1, by omega, by go_num, HZ.out, HBr.out.trans (HS5.out.mono hzr)⟩
      case measure => simp [intOf]; omega
    ·
     have HZ := hid (show R = false from by rw [HX.out, HNo.out (by simp [hsh])]; rfl)
     have hs0 : (shapeI sn sf != 0) = true := by simp [hsh]
     clear hsh
     go_wp2_with fail
     refine wp_region_invA (fun _ w' => Below wr.heap.size wr w') (fun _ w' w'' => Below w'.heap.size w' w'') (fun i vv w' => match i with
      | 0 => vv = .pointer (some ⟨w.heap.size + 1, 1, none⟩)
      | 1 => vv = .slice (some ⟨b, o, none⟩) vs.length vcap
      | 2 => vv = .int .i64 (k : Int)
      | 3 => vv = .pointer (some ⟨b, o + k * 2, none⟩)
      | 4 => vv = .pointer (some ⟨b, o + k * 2, none⟩)
      | 5 => vv = .string sn
      | 6 => vv = .pointer (some ⟨w.heap.size + 1, 0, none⟩)
      | 7 => vv = .string sn
      | 8 => vv = .bool false
      | 9 => vv = .bool false
      | 10 => vv = .pointer (some ⟨w.heap.size + 1, 1, none⟩)
      | 11 => vv = .slice (some ⟨b, o, none⟩) vs.length vcap
      | 12 => vv = .int .i64 (k : Int)
      | 13 => vv = .pointer (some ⟨b, o + k * 2, none⟩)
      | 14 => vv = .agg #[.string sn, .slice sa sf.length scap]
      | 15 => vv = .int .i64 (shapeI sn sf)
      | 16 => vv = .bool true
      | 17 => vv = .bool true
      | _ => True) (by kernel_rfl) (by kernel_rfl) (Below.refl _ _).drew ?hmono ⟨?o0, ?o1, ?o2, ?o3, ?o4, ?o5, ?o6, ?o7, ?o8, ?o9, ?o10, ?o11, ?o12, ?o13, ?o14, ?o15, ?o16, ?o17, trivial⟩ ?hend
     case o0 =>
      intro dn a w' _ hS hF K hK
      have h3 := hF.out 3 (by kernel_rfl) rfl
      rw [if_pos (by kernel_rfl)]
      go_simp
      exact hK _ _ _ rfl hS (Below.refl _ _) rfl
     case o1 =>
      intro dn a w' _ hS hF K hK
      obtain ⟨v31, h31, rfl⟩ := hF.va 0 31
      have r0' := cx hS r0
      have r1' := cx hS r1
      have x0' := cx hS x0
      have x1' := cx hS x1
      rw [if_pos (by kernel_rfl)]
      go_simp
      exact hK _ _ _ rfl hS (Below.refl _ _) rfl
     case o2 =>
      intro dn a w' _ hS hF K hK
      have h5 := hF.out 5 (by kernel_rfl) rfl
      rw [if_pos (by kernel_rfl)]
      go_simp
      exact hK _ _ _ rfl hS (Below.refl _ _) rfl
     case o3 =>
      intro dn a w' _ hS hF K hK
      obtain ⟨v32, h32, rfl⟩ := hF.va 1 32
      obtain ⟨v33, h33, rfl⟩ := hF.va 2 33
      rw [if_pos (by kernel_rfl)]
      go_simp
      exact hK _ _ _ rfl hS (Below.refl _ _) rfl
     case o4 =>
      intro dn a w' _ hS hF K hK
      obtain ⟨v34, h34, rfl⟩ := hF.va 3 34
      rw [if_pos (by kernel_rfl)]
      go_simp
      exact hK _ _ _ rfl hS (Below.refl _ _) rfl
     case o5 =>
      intro dn a w' _ hS hF K hK
      obtain ⟨v35, h35, rfl⟩ := hF.va 4 35
      have r0' := cx hS r0
      have r1' := cx hS r1
      have x0' := cx hS x0
      have x1' := cx hS x1
      rw [if_pos (by kernel_rfl)]
      go_simp
      exact hK _ _ _ rfl hS (Below.refl _ _) rfl
     case o6 =>
      intro dn a w' _ hS hF K hK
      have h3 := hF.out 3 (by kernel_rfl) rfl
      rw [if_pos (by kernel_rfl)]
      go_simp
      exact hK _ _ _ rfl hS (Below.refl _ _) rfl
     case o7 =>
      intro dn a w' _ hS hF K hK
      obtain ⟨v37, h37, rfl⟩ := hF.va 6 37
      have r0' := cx hS r0
      have r1' := cx hS r1
      have x0' := cx hS x0
      have x1' := cx hS x1
      rw [if_pos (by kernel_rfl)]
      go_simp
      exact hK _ _ _ rfl hS (Below.refl _ _) rfl
     case o8 =>
      intro dn a w' _ hS hF K hK
      obtain ⟨v36, h36, rfl⟩ := hF.va 5 36
      obtain ⟨v38, h38, rfl⟩ := hF.va 7 38
      rw [if_pos (by kernel_rfl)]
      go_simp
      exact hK _ _ _ rfl hS (Below.refl _ _) rfl
     case o9 =>
      intro dn a w' _ hS hF K hK
      obtain ⟨v39, h39, rfl⟩ := hF.va 8 39
      rw [if_pos (by kernel_rfl)]
      go_simp
      exact hK _ _ _ rfl hS (Below.refl _ _) rfl
     case o10 =>
      intro dn a w' _ hS hF K hK
      have h3 := hF.out 3 (by kernel_rfl) rfl
      obtain ⟨v40, h40, rfl⟩ := hF.va 9 40
      rw [if_pos (wanted_yes 9 rfl (by kernel_rfl) h40)]
      go_simp
      exact hK _ _ _ rfl hS (Below.refl _ _) rfl
     case o11 =>
      intro dn a w' _ hS hF K hK
      obtain ⟨v41, h41, rfl⟩ := hF.va 10 41
      obtain ⟨v40, h40, rfl⟩ := hF.va 9 40
      have r0' := cx hS r0
      have r1' := cx hS r1
      have x0' := cx hS x0
      have x1' := cx hS x1
      rw [if_pos (wanted_yes 9 rfl (by kernel_rfl) h40)]
      go_simp
      exact hK _ _ _ rfl hS (Below.refl _ _) rfl
     case o12 =>
      intro dn a w' _ hS hF K hK
      have h5 := hF.out 5 (by kernel_rfl) rfl
      obtain ⟨v40, h40, rfl⟩ := hF.va 9 40
      rw [if_pos (wanted_yes 9 rfl (by kernel_rfl) h40)]
      go_simp
      exact hK _ _ _ rfl hS (Below.refl _ _) rfl
     case o13 =>
      intro dn a w' _ hS hF K hK
      obtain ⟨v42, h42, rfl⟩ := hF.va 11 42
      obtain ⟨v43, h43, rfl⟩ := hF.va 12 43
      obtain ⟨v40, h40, rfl⟩ := hF.va 9 40
      rw [if_pos (wanted_yes 9 rfl (by kernel_rfl) h40)]
      go_simp
      exact hK _ _ _ rfl hS (Below.refl _ _) rfl
     case o14 =>
      intro dn a w' _ hS hF K hK
      obtain ⟨v44, h44, rfl⟩ := hF.va 13 44
      obtain ⟨v40, h40, rfl⟩ := hF.va 9 40
      have r0' := cx hS r0
      have r1' := cx hS r1
      have x0' := cx hS x0
      have x1' := cx hS x1
      rw [if_pos (wanted_yes 9 rfl (by kernel_rfl) h40)]
      go_simp
      exact hK _ _ _ rfl hS (Below.refl _ _) rfl
     case o15 =>
      intro dn a w' _ hS hF K hK
      obtain ⟨v45, h45, rfl⟩ := hF.va 14 45
      obtain ⟨v40, h40, rfl⟩ := hF.va 9 40
      rw [if_pos (wanted_yes 9 rfl (by kernel_rfl) h40)]
      go_simp
      refine (ShapeFault_any wr wr.heap.size sn sa sf sf.length scap w' hsn rfl hsl hscap hS hS.size HStr.out).mono ?_
      rintro e w'' ⟨rfl, hb⟩
      exact hK _ _ _ rfl (hS.trans (hb.mono hS.size)) hb rfl
     case o16 =>
      intro dn a w' _ hS hF K hK
      obtain ⟨v46, h46, rfl⟩ := hF.va 15 46
      obtain ⟨v40, h40, rfl⟩ := hF.va 9 40
      rw [if_pos (wanted_yes 9 rfl (by kernel_rfl) h40)]
      go_simp
      exact hK _ _ _ rfl hS (Below.refl _ _) rfl
     case o17 =>
      intro dn a w' _ hS hF K hK
      obtain ⟨v40, h40, rfl⟩ := hF.va 9 40
      obtain ⟨v47, h47, rfl⟩ := hF.va 16 47
      rw [if_pos (by kernel_rfl)]
      go_simp
      exact hK _ _ _ rfl hS (Below.refl _ _) rfl
     case hmono =>
      intro i j v w1 w2 _ _ _ _ _ hv _
      exact hv
     case hend =>
      intro dn w5 vs_ hS hv
      have hvL : vs_ 17 = .bool true := hv 17 (by decide)
      clear hv
      have HS5 := hid hS
      simp only [putsL, Nat.reduceAdd, Act.put, List.setIfInBounds_toArray, List.set_cons_zero, List.set_cons_succ, hvL]
      go_wp2
      go_ret
      exact ⟨ret_bool HZ.out.symm, HBW.out.trans (HS5.out.mono HBW.out.size)⟩
   case neg =>
    have hlt2 : ¬ (k : Int) < vs.length := by omega
    have HVs := hid (show (vs.all fun s => decide (s.name = nm) && decide (shapeI s.name s.fs = 0)) = true from by have := HAl.out; rw [show k = vs.length by omega, List.take_length] at this; exact this)
    go_wp2_with fail
    have hkv : k = vs.length := by omega
    clear hkv
    have HB2r := hid HBr.out
    go_loopw [6] (fun i wq => ∃ k : Nat, k ≤ ms.length ∧ i = .int .i64 k ∧ (List.range k).all (mvD fs ⟨nm, va, vcap, vs, ma, mcap, ms⟩) = true ∧ Below w2.heap.size w2 wq) (fun i _ => ms.length - (intOf i).toNat)
    case atStart => exact ⟨0, Nat.zero_le _, rfl, rfl, HB2r.out⟩
    case round =>
     obtain ⟨iv, hi, rfl, hallm, hbq⟩ := hrel
     have HAm := hid hallm
     have HBq := hid hbq
     have hzq := hbq.size
     have HBQ := hid (HB2.out.trans (hbq.mono HB2.out.size))
     obtain ⟨c0, r0, r1, r2⟩ := CC.out
     have r0 := (hbq.cell (p := ⟨w.heap.size + 1, 0, none⟩) (by dsimp only; omega)).trans r0
     have r1 := (hbq.cell (p := ⟨w.heap.size + 1, 1, none⟩) (by dsimp only; omega)).trans r1
     have r2 := (hbq.cell (p := ⟨w.heap.size + 1, 2, none⟩) (by dsimp only; omega)).trans r2
     have c0 := (hbq.cell (p := ⟨w.heap.size, 0, none⟩) (by dsimp only; omega)).trans c0
     clear hallm hbq
     by_cases hlm : iv < ms.length
     case neg =>
      have HZ := hid (show R = true from by rw [HX.out, HVs.out]; have := HAm.out; rw [show iv = ms.length by omega] at this; rw [this]; rfl)
      have hlm2 : ¬ (iv : Int) < ms.length := by omega
      go_wp2_with fail
      go_ret
      exact ⟨ret_bool HZ.out.symm, HBQ.out⟩
     case pos =>
      have hlm2 : (iv : Int) < ms.length := by omega
      have hv0 : iv < vs.length := by have := HLM.out; omega
      have hv1 : iv + 1 < vs.length := by have := HLM.out; omega
      have hi0 : (0 : Int) ≤ (iv : Int) + 1 := by omega
      have hi1 : (iv : Int) + 1 < vs.length := by omega
      have hi2 : (iv : Int) < vs.length := by omega
      have hvlen : vs.length ≤ 20 := by unfold inB at hin; simp only [Bool.and_eq_true, decide_eq_true_eq] at hin; omega
      obtain ⟨bm, om, rfl, hbm, m0⟩ := mv_at (Cs.below HR.out.m HBQ.out HBQ.out.size) hlm
      obtain ⟨b, o, rfl, hbB, _, y1⟩ := sh_at (Cs.below HR.out.v HBQ.out HBQ.out.size) hv0
      obtain ⟨b', o', hbo, _, _, z1⟩ := sh_at (Cs.below HR.out.v HBQ.out HBQ.out.size) hv1
      injection hbo with hbo
      injection hbo with hb1 hb2
      subst hb1 hb2
      have HMr := hid (Cs.below (HR.out.ms _ (List.getElem_mem hlm)) HBQ.out HBQ.out.size)
      have hml1 : (ms[iv]'hlm).l.length * 8 ≤ 140737488355328 := HBg.out.ms _ (List.getElem_mem hlm)
      have hml2 : (vs[iv]'hv0).fs.length * 16 ≤ 140737488355328 := HBg.out.vs _ (List.getElem_mem hv0)
      have hml3 : (vs[iv + 1]'hv1).fs.length * 16 ≤ 140737488355328 := HBg.out.vs _ (List.getElem_mem hv1)
      have HYes := hid (fun h => range_yes (f := mvD fs _) HAm.out h)
      have HNo := hid (fun h => range_no (f := mvD fs ⟨nm, some ⟨b, o, none⟩, vcap, vs, some ⟨bm, om, none⟩, mcap, ms⟩) hlm h)
      have hmv : mvD fs ⟨nm, some ⟨b, o, none⟩, vcap, vs, some ⟨bm, om, none⟩, mcap, ms⟩ iv = (decide ((ms[iv]'hlm).l.length = (vs[iv + 1]'hv1).fs.length) && (ms[iv]'hlm).l.all (moveD fs (vs[iv]'hv0).fs.length)) := by
       unfold mvD; dsimp only; rw [List.getElem?_eq_getElem hlm, List.getElem?_eq_getElem hv0, List.getElem?_eq_getElem hv1]
      generalize (ms[iv]'hlm) = mm at m0 HMr hml1 hmv
      generalize (vs[iv]'hv0) = s0 at y1 hml2 hmv
      generalize (vs[iv + 1]'hv1) = s1 at z1 hml3 hmv
      obtain ⟨mad, mlcap, ml⟩ := mm
      obtain ⟨n0, a0, cap0, f0⟩ := s0
      obtain ⟨n1, a1, cap1, f1⟩ := s1
      dsimp only at m0 y1 z1 hml1 hml2 hml3 hmv
      have hml1 : ml.length ≤ 9223372036854775807 := by omega
      have hml2 : f0.length ≤ 9223372036854775807 := by omega
      have hml3 : f1.length ≤ 9223372036854775807 := by omega
      by_cases hll : ml.length = f1.length
      case neg =>
       have HZ := hid (show R = false from by rw [HX.out, HVs.out, HNo.out (by rw [hmv]; simp [hll])]; rfl)
       have hne2 : ((ml.length : Int) != (f1.length : Int)) = true := by simp only [bne_iff_ne, ne_eq]; omega
       clear hll hmv
       go_wp2_with fail
       refine wp_region_invA (fun _ w' => Below wr.heap.size wr w') (fun _ w' w'' => Below w'.heap.size w' w'') (fun i vv w' => match i with
        | 0 => vv = .pointer (some ⟨w.heap.size + 1, 2, none⟩)
        | 1 => vv = .slice (some ⟨bm, om, none⟩) ms.length mcap
        | 2 => vv = .int .i64 (iv : Int)
        | 3 => vv = .pointer (some ⟨bm, om + iv, none⟩)
        | 4 => vv = .slice mad ml.length mlcap
        | 5 => vv = .int .i64 (ml.length : Int)
        | 6 => vv = .pointer (some ⟨w.heap.size + 1, 1, none⟩)
        | 7 => vv = .slice (some ⟨b, o, none⟩) vs.length vcap
        | 8 => vv = .int .i64 (iv : Int)
        | 9 => vv = .int .i64 ((iv : Int) + 1)
        | 10 => vv = .pointer (some ⟨b, o + (iv + 1) * 2, none⟩)
        | 11 => vv = .pointer (some ⟨b, o + (iv + 1) * 2 + 1, none⟩)
        | 12 => vv = .slice a1 f1.length cap1
        | 13 => vv = .int .i64 (f1.length : Int)
        | 14 => vv = .bool true
        | _ => True) (by kernel_rfl) (by kernel_rfl) (Below.refl _ _).drew ?hmono ⟨?o0, ?o1, ?o2, ?o3, ?o4, ?o5, ?o6, ?o7, ?o8, ?o9, ?o10, ?o11, ?o12, ?o13, ?o14, trivial⟩ ?hend
       case o0 =>
        intro dn a w' _ hS hF K hK
        have h3 := hF.out 3 (by kernel_rfl) rfl
        rw [if_pos (by kernel_rfl)]
        go_simp
        exact hK _ _ _ rfl hS (Below.refl _ _) rfl
       case o1 =>
        intro dn a w' _ hS hF K hK
        obtain ⟨v56, h56, rfl⟩ := hF.va 0 56
        have r1' := cx hS r1
        have r2' := cx hS r2
        have m0' := cx hS m0
        have z1' := cx hS z1
        rw [if_pos (by kernel_rfl)]
        go_simp
        exact hK _ _ _ rfl hS (Below.refl _ _) rfl
       case o2 =>
        intro dn a w' _ hS hF K hK
        have h6 := hF.out 6 (by kernel_rfl) rfl
        rw [if_pos (by kernel_rfl)]
        go_simp
        exact hK _ _ _ rfl hS (Below.refl _ _) rfl
       case o3 =>
        intro dn a w' _ hS hF K hK
        obtain ⟨v57, h57, rfl⟩ := hF.va 1 57
        obtain ⟨v58, h58, rfl⟩ := hF.va 2 58
        rw [if_pos (by kernel_rfl)]
        go_simp
        exact hK _ _ _ rfl hS (Below.refl _ _) rfl
       case o4 =>
        intro dn a w' _ hS hF K hK
        obtain ⟨v59, h59, rfl⟩ := hF.va 3 59
        have r1' := cx hS r1
        have r2' := cx hS r2
        have m0' := cx hS m0
        have z1' := cx hS z1
        rw [if_pos (by kernel_rfl)]
        go_simp
        exact hK _ _ _ rfl hS (Below.refl _ _) rfl
       case o5 =>
        intro dn a w' _ hS hF K hK
        obtain ⟨v60, h60, rfl⟩ := hF.va 4 60
        rw [if_pos (by kernel_rfl)]
        go_simp
        exact hK _ _ _ rfl hS (Below.refl _ _) rfl
       case o6 =>
        intro dn a w' _ hS hF K hK
        have h3 := hF.out 3 (by kernel_rfl) rfl
        rw [if_pos (by kernel_rfl)]
        go_simp
        exact hK _ _ _ rfl hS (Below.refl _ _) rfl
       case o7 =>
        intro dn a w' _ hS hF K hK
        obtain ⟨v62, h62, rfl⟩ := hF.va 6 62
        have r1' := cx hS r1
        have r2' := cx hS r2
        have m0' := cx hS m0
        have z1' := cx hS z1
        rw [if_pos (by kernel_rfl)]
        go_simp
        exact hK _ _ _ rfl hS (Below.refl _ _) rfl
       case o8 =>
        intro dn a w' _ hS hF K hK
        have h6 := hF.out 6 (by kernel_rfl) rfl
        rw [if_pos (by kernel_rfl)]
        go_simp
        exact hK _ _ _ rfl hS (Below.refl _ _) rfl
       case o9 =>
        intro dn a w' _ hS hF K hK
        obtain ⟨v64, h64, rfl⟩ := hF.va 8 64
        rw [if_pos (by kernel_rfl)]
        go_simp
        rw [wrap_small (by omega) (by omega)]
        exact hK _ _ _ rfl hS (Below.refl _ _) rfl
       case o10 =>
        intro dn a w' _ hS hF K hK
        obtain ⟨v63, h63, rfl⟩ := hF.va 7 63
        obtain ⟨v65, h65, rfl⟩ := hF.va 9 65
        rw [if_pos (by kernel_rfl)]
        go_simp
        exact hK _ _ _ rfl hS (Below.refl _ _) rfl
       case o11 =>
        intro dn a w' _ hS hF K hK
        obtain ⟨v66, h66, rfl⟩ := hF.va 10 66
        rw [if_pos (by kernel_rfl)]
        go_simp
        exact hK _ _ _ rfl hS (Below.refl _ _) rfl
       case o12 =>
        intro dn a w' _ hS hF K hK
        obtain ⟨v67, h67, rfl⟩ := hF.va 11 67
        have r1' := cx hS r1
        have r2' := cx hS r2
        have m0' := cx hS m0
        have z1' := cx hS z1
        rw [if_pos (by kernel_rfl)]
        go_simp
        exact hK _ _ _ rfl hS (Below.refl _ _) rfl
       case o13 =>
        intro dn a w' _ hS hF K hK
        obtain ⟨v68, h68, rfl⟩ := hF.va 12 68
        rw [if_pos (by kernel_rfl)]
        go_simp
        exact hK _ _ _ rfl hS (Below.refl _ _) rfl
       case o14 =>
        intro dn a w' _ hS hF K hK
        obtain ⟨v61, h61, rfl⟩ := hF.va 5 61
        obtain ⟨v69, h69, rfl⟩ := hF.va 13 69
        rw [if_pos (by kernel_rfl)]
        go_simp
        exact hK _ _ _ rfl hS (Below.refl _ _) rfl
       case hmono =>
        intro i j v w1 w2 _ _ _ _ _ hv _
        exact hv
       case hend =>
        intro dn w5 vs_ hS hv
        have hvL : vs_ 14 = .bool true := hv 14 (by decide)
        clear hv
        have HS5 := hid hS
        simp only [putsL, Nat.reduceAdd, Act.put, List.setIfInBounds_toArray, List.set_cons_zero, List.set_cons_succ, hvL]
        go_wp2
        go_ret
        exact ⟨ret_bool HZ.out.symm, HBQ.out.trans (HS5.out.mono HBQ.out.size)⟩
      have hne2 : ((ml.length : Int) != (f1.length : Int)) = false := by rw [hll]; simp
      have HMv := hid (hmv.trans (by rw [decide_eq_true hll, Bool.true_and]))
      clear hmv hll
      go_wp2_with fail
      refine wp_region_invA (fun _ w' => Below wr.heap.size wr w') (fun _ w' w'' => Below w'.heap.size w' w'') (fun i vv w' => match i with
       | 0 => vv = .pointer (some ⟨w.heap.size + 1, 2, none⟩)
       | 1 => vv = .slice (some ⟨bm, om, none⟩) ms.length mcap
       | 2 => vv = .int .i64 (iv : Int)
       | 3 => vv = .pointer (some ⟨bm, om + iv, none⟩)
       | 4 => vv = .slice mad ml.length mlcap
       | 5 => vv = .int .i64 (ml.length : Int)
       | 6 => vv = .pointer (some ⟨w.heap.size + 1, 1, none⟩)
       | 7 => vv = .slice (some ⟨b, o, none⟩) vs.length vcap
       | 8 => vv = .int .i64 (iv : Int)
       | 9 => vv = .int .i64 ((iv : Int) + 1)
       | 10 => vv = .pointer (some ⟨b, o + (iv + 1) * 2, none⟩)
       | 11 => vv = .pointer (some ⟨b, o + (iv + 1) * 2 + 1, none⟩)
       | 12 => vv = .slice a1 f1.length cap1
       | 13 => vv = .int .i64 (f1.length : Int)
       | 14 => vv = .bool false
       | _ => True) (by kernel_rfl) (by kernel_rfl) (Below.refl _ _).drew ?hmono ⟨?o0, ?o1, ?o2, ?o3, ?o4, ?o5, ?o6, ?o7, ?o8, ?o9, ?o10, ?o11, ?o12, ?o13, ?o14, trivial⟩ ?hend
      case o0 =>
       intro dn a w' _ hS hF K hK
       have h3 := hF.out 3 (by kernel_rfl) rfl
       rw [if_pos (by kernel_rfl)]
       go_simp
       exact hK _ _ _ rfl hS (Below.refl _ _) rfl
      case o1 =>
       intro dn a w' _ hS hF K hK
       obtain ⟨v56, h56, rfl⟩ := hF.va 0 56
       have r1' := cx hS r1
       have r2' := cx hS r2
       have m0' := cx hS m0
       have z1' := cx hS z1
       rw [if_pos (by kernel_rfl)]
       go_simp
       exact hK _ _ _ rfl hS (Below.refl _ _) rfl
      case o2 =>
       intro dn a w' _ hS hF K hK
       have h6 := hF.out 6 (by kernel_rfl) rfl
       rw [if_pos (by kernel_rfl)]
       go_simp
       exact hK _ _ _ rfl hS (Below.refl _ _) rfl
      case o3 =>
       intro dn a w' _ hS hF K hK
       obtain ⟨v57, h57, rfl⟩ := hF.va 1 57
       obtain ⟨v58, h58, rfl⟩ := hF.va 2 58
       rw [if_pos (by kernel_rfl)]
       go_simp
       exact hK _ _ _ rfl hS (Below.refl _ _) rfl
      case o4 =>
       intro dn a w' _ hS hF K hK
       obtain ⟨v59, h59, rfl⟩ := hF.va 3 59
       have r1' := cx hS r1
       have r2' := cx hS r2
       have m0' := cx hS m0
       have z1' := cx hS z1
       rw [if_pos (by kernel_rfl)]
       go_simp
       exact hK _ _ _ rfl hS (Below.refl _ _) rfl
      case o5 =>
       intro dn a w' _ hS hF K hK
       obtain ⟨v60, h60, rfl⟩ := hF.va 4 60
       rw [if_pos (by kernel_rfl)]
       go_simp
       exact hK _ _ _ rfl hS (Below.refl _ _) rfl
      case o6 =>
       intro dn a w' _ hS hF K hK
       have h3 := hF.out 3 (by kernel_rfl) rfl
       rw [if_pos (by kernel_rfl)]
       go_simp
       exact hK _ _ _ rfl hS (Below.refl _ _) rfl
      case o7 =>
       intro dn a w' _ hS hF K hK
       obtain ⟨v62, h62, rfl⟩ := hF.va 6 62
       have r1' := cx hS r1
       have r2' := cx hS r2
       have m0' := cx hS m0
       have z1' := cx hS z1
       rw [if_pos (by kernel_rfl)]
       go_simp
       exact hK _ _ _ rfl hS (Below.refl _ _) rfl
      case o8 =>
       intro dn a w' _ hS hF K hK
       have h6 := hF.out 6 (by kernel_rfl) rfl
       rw [if_pos (by kernel_rfl)]
       go_simp
       exact hK _ _ _ rfl hS (Below.refl _ _) rfl
      case o9 =>
       intro dn a w' _ hS hF K hK
       obtain ⟨v64, h64, rfl⟩ := hF.va 8 64
       rw [if_pos (by kernel_rfl)]
       go_simp
       rw [wrap_small (by omega) (by omega)]
       exact hK _ _ _ rfl hS (Below.refl _ _) rfl
      case o10 =>
       intro dn a w' _ hS hF K hK
       obtain ⟨v63, h63, rfl⟩ := hF.va 7 63
       obtain ⟨v65, h65, rfl⟩ := hF.va 9 65
       rw [if_pos (by kernel_rfl)]
       go_simp
       exact hK _ _ _ rfl hS (Below.refl _ _) rfl
      case o11 =>
       intro dn a w' _ hS hF K hK
       obtain ⟨v66, h66, rfl⟩ := hF.va 10 66
       rw [if_pos (by kernel_rfl)]
       go_simp
       exact hK _ _ _ rfl hS (Below.refl _ _) rfl
      case o12 =>
       intro dn a w' _ hS hF K hK
       obtain ⟨v67, h67, rfl⟩ := hF.va 11 67
       have r1' := cx hS r1
       have r2' := cx hS r2
       have m0' := cx hS m0
       have z1' := cx hS z1
       rw [if_pos (by kernel_rfl)]
       go_simp
       exact hK _ _ _ rfl hS (Below.refl _ _) rfl
      case o13 =>
       intro dn a w' _ hS hF K hK
       obtain ⟨v68, h68, rfl⟩ := hF.va 12 68
       rw [if_pos (by kernel_rfl)]
       go_simp
       exact hK _ _ _ rfl hS (Below.refl _ _) rfl
      case o14 =>
       intro dn a w' _ hS hF K hK
       obtain ⟨v61, h61, rfl⟩ := hF.va 5 61
       obtain ⟨v69, h69, rfl⟩ := hF.va 13 69
       rw [if_pos (by kernel_rfl)]
       go_simp
       exact hK _ _ _ rfl hS (Below.refl _ _) rfl
      case hmono =>
       intro i j v w1 w2 _ _ _ _ _ hv _
       exact hv
      case hend =>
       intro dn w5 vs_ hS hv
       have hvL : vs_ 14 = .bool false := hv 14 (by decide)
       clear hv
       have HS5 := hid hS
       simp only [putsL, Nat.reduceAdd, Act.put, List.setIfInBounds_toArray, List.set_cons_zero, List.set_cons_succ, hvL]
       go_wp2_with fail
       go_loopw [7] (fun i wt => ∃ k : Nat, k ≤ ml.length ∧ i = .int .i64 k ∧ (ml.take k).all (moveD fs f0.length) = true ∧ Below wr.heap.size wr wt) (fun i _ => ml.length - (intOf i).toNat)
       case atStart => exact ⟨0, Nat.zero_le _, rfl, rfl, HS5.out⟩
       case round =>
        obtain ⟨j, hj, rfl, hallj, hbt⟩ := hrel
        have HAj := hid hallj
        have HBt := hid hbt
        have hzt := hbt.size
        have HBW2 := hid (HBQ.out.trans (hbt.mono HBQ.out.size))
        have r1 := (hbt.cell (p := ⟨w.heap.size + 1, 1, none⟩) (by dsimp only; omega)).trans r1
        have r2 := (hbt.cell (p := ⟨w.heap.size + 1, 2, none⟩) (by dsimp only; omega)).trans r2
        have c0 := (hbt.cell (p := ⟨w.heap.size, 0, none⟩) (by dsimp only; omega)).trans c0
        have m0 := (hbt.cell (p := ⟨bm, om + iv, none⟩) hbm).trans m0
        have y1 := (hbt.cell (p := ⟨b, o + iv * 2 + 1, none⟩) hbB).trans y1
        have HMt := hid (Cs.below HMr.out hbt hbt.size)
        clear hallj hbt
        by_cases hjl : j < ml.length
        case neg =>
         have HZ := hid (HYes.out (by rw [HMv.out]; have := HAj.out; rw [show j = ml.length by omega, List.take_length] at this; exact this))
         have hjl2 : ¬ (j : Int) < ml.length := by omega
         go_wp2_with fail
         go_roundw
         case rel => exact ⟨iv + 1, by omega, by go_num, HZ.out, HBq.out.trans (HBt.out.mono hzq)⟩
         case measure => simp [intOf]; omega
        case pos =>
         have hjl2 : (j : Int) < ml.length := by omega
         obtain ⟨bn, on, rfl, hbn, n0⟩ := int_at HMt.out hjl
         have HYj := hid (fun h => take_all (f := moveD fs f0.length) HAj.out hjl h)
         have HNj := hid (fun h => show R = false from by rw [HX.out, HVs.out, HNo.out (by rw [HMv.out]; exact all_no (f := moveD fs f0.length) hjl h)]; rfl)
         generalize (ml[j]'hjl) = nv at n0 HYj HNj
         by_cases hin2 : 0 ≤ nv ∧ nv < fs.length
         case neg =>
          have hI : inB nv 0 ((fs.length : Int) - 1) = false := by rw [Bool.eq_false_iff]; intro e; unfold inB at e; simp only [Bool.and_eq_true, decide_eq_true_eq] at e; omega
          have HZ := hid (HNj.out (by unfold moveD; rw [show belB nv fs.length = false by rw [Bool.eq_false_iff]; intro e; unfold belB at e; simp only [Bool.and_eq_true, decide_eq_true_eq] at e; exact hin2 e]; rfl))
          clear hin2
          go_wp2_with fail
          refine wp_region_invA (fun _ w' => Below wr.heap.size wr w') (fun _ w' w'' => Below w'.heap.size w' w'') (fun i vv w' => match i with
           | 0 => vv = .int .i64 nv
           | 1 => vv = .pointer (some ⟨w.heap.size, 0, none⟩)
           | 2 => vv = .slice fa fs.length fcap
           | 3 => vv = .int .i64 (fs.length : Int)
           | 4 => vv = .int .i64 ((fs.length : Int) - 1)
           | 5 => vv = .bool false
           | 6 => vv = .bool true
           | 7 => vv = .bool true
           | 8 => vv = undef
           | 9 => vv = undef
           | 10 => vv = undef
           | 11 => vv = undef
           | 12 => vv = undef
           | 13 => vv = undef
           | 14 => vv = undef
           | 15 => vv = undef
           | 16 => vv = undef
           | 17 => vv = undef
           | 18 => vv = undef
           | 19 => vv = undef
           | 20 => vv = undef
           | 21 => vv = undef
           | 22 => vv = .bool true
           | 23 => vv = .bool true
           | 24 => vv = undef
           | 25 => vv = undef
           | 26 => vv = undef
           | 27 => vv = undef
           | 28 => vv = undef
           | 29 => vv = undef
           | 30 => vv = undef
           | 31 => vv = .bool true
           | 32 => vv = .bool true
           | 33 => vv = undef
           | 34 => vv = undef
           | 35 => vv = undef
           | 36 => vv = undef
           | 37 => vv = undef
           | 38 => vv = undef
           | 39 => vv = undef
           | 40 => vv = .bool true
           | _ => True) (by kernel_rfl) (by kernel_rfl) (Below.refl _ _).drew ?hmono ⟨?o0, ?o1, ?o2, ?o3, ?o4, ?o5, ?o6, ?o7, ?o8, ?o9, ?o10, ?o11, ?o12, ?o13, ?o14, ?o15, ?o16, ?o17, ?o18, ?o19, ?o20, ?o21, ?o22, ?o23, ?o24, ?o25, ?o26, ?o27, ?o28, ?o29, ?o30, ?o31, ?o32, ?o33, ?o34, ?o35, ?o36, ?o37, ?o38, ?o39, ?o40, trivial⟩ ?hend
          case o0 =>
           intro dn a w' _ hS hF K hK
           have h8 := hF.out 8 (by kernel_rfl) rfl
           rw [if_pos (by kernel_rfl)]
           go_simp
           exact hK _ _ _ rfl hS (Below.refl _ _) rfl
          case o1 =>
           intro dn a w' _ hS hF K hK
           have h2 := hF.out 2 (by kernel_rfl) rfl
           rw [if_pos (by kernel_rfl)]
           go_simp
           exact hK _ _ _ rfl hS (Below.refl _ _) rfl
          case o2 =>
           intro dn a w' _ hS hF K hK
           obtain ⟨v90, h90, rfl⟩ := hF.va 1 90
           have c0' := cx hS c0
           have r1' := cx hS r1
           have y1' := cx hS y1
           rw [if_pos (by kernel_rfl)]
           go_simp
           exact hK _ _ _ rfl hS (Below.refl _ _) rfl
          case o3 =>
           intro dn a w' _ hS hF K hK
           obtain ⟨v91, h91, rfl⟩ := hF.va 2 91
           rw [if_pos (by kernel_rfl)]
           go_simp
           exact hK _ _ _ rfl hS (Below.refl _ _) rfl
          case o4 =>
           intro dn a w' _ hS hF K hK
           obtain ⟨v92, h92, rfl⟩ := hF.va 3 92
           rw [if_pos (by kernel_rfl)]
           go_simp
           have hwl : IntKind.i64.wrap ((fs.length : Int) - 1) = fs.length - 1 := wrap_len hfb
           rw [hwl]
           exact hK _ _ _ rfl hS (Below.refl _ _) rfl
          case o5 =>
           intro dn a w' _ hS hF K hK
           obtain ⟨v89, h89, rfl⟩ := hF.va 0 89
           obtain ⟨v93, h93, rfl⟩ := hF.va 4 93
           rw [if_pos (by kernel_rfl)]
           go_simp
           refine (HH.In_any _ 0 _ w').mono ?_
           rintro e w'' ⟨rfl, rfl⟩
           rw [hI]
           exact hK _ _ _ rfl hS (Below.refl _ _) rfl
          case o6 =>
           intro dn a w' _ hS hF K hK
           obtain ⟨v94, h94, rfl⟩ := hF.va 5 94
           rw [if_pos (by kernel_rfl)]
           go_simp
           exact hK _ _ _ rfl hS (Below.refl _ _) rfl
          case o7 =>
           intro dn a w' _ hS hF K hK
           obtain ⟨v95, h95, rfl⟩ := hF.va 6 95
           rw [if_pos (by kernel_rfl)]
           go_simp
           exact hK _ _ _ rfl hS (Below.refl _ _) rfl
          case o8 =>
           intro dn a w' _ hS hF K hK
           obtain ⟨v96, h96, rfl⟩ := hF.va 7 96
           rw [if_neg (by rw [wanted_no 7 rfl (by kernel_rfl) h96]; decide)]
           exact hK _ _ _ rfl hS (Below.refl _ _) rfl
          case o9 =>
           intro dn a w' _ hS hF K hK
           obtain ⟨v96, h96, rfl⟩ := hF.va 7 96
           rw [if_neg (by rw [wanted_no 7 rfl (by kernel_rfl) h96]; decide)]
           exact hK _ _ _ rfl hS (Below.refl _ _) rfl
          case o10 =>
           intro dn a w' _ hS hF K hK
           obtain ⟨v96, h96, rfl⟩ := hF.va 7 96
           rw [if_neg (by rw [wanted_no 7 rfl (by kernel_rfl) h96]; decide)]
           exact hK _ _ _ rfl hS (Below.refl _ _) rfl
          case o11 =>
           intro dn a w' _ hS hF K hK
           obtain ⟨v96, h96, rfl⟩ := hF.va 7 96
           rw [if_neg (by rw [wanted_no 7 rfl (by kernel_rfl) h96]; decide)]
           exact hK _ _ _ rfl hS (Below.refl _ _) rfl
          case o12 =>
           intro dn a w' _ hS hF K hK
           obtain ⟨v96, h96, rfl⟩ := hF.va 7 96
           rw [if_neg (by rw [wanted_no 7 rfl (by kernel_rfl) h96]; decide)]
           exact hK _ _ _ rfl hS (Below.refl _ _) rfl
          case o13 =>
           intro dn a w' _ hS hF K hK
           obtain ⟨v96, h96, rfl⟩ := hF.va 7 96
           rw [if_neg (by rw [wanted_no 7 rfl (by kernel_rfl) h96]; decide)]
           exact hK _ _ _ rfl hS (Below.refl _ _) rfl
          case o14 =>
           intro dn a w' _ hS hF K hK
           obtain ⟨v96, h96, rfl⟩ := hF.va 7 96
           rw [if_neg (by rw [wanted_no 7 rfl (by kernel_rfl) h96]; decide)]
           exact hK _ _ _ rfl hS (Below.refl _ _) rfl
          case o15 =>
           intro dn a w' _ hS hF K hK
           obtain ⟨v96, h96, rfl⟩ := hF.va 7 96
           rw [if_neg (by rw [wanted_no 7 rfl (by kernel_rfl) h96]; decide)]
           exact hK _ _ _ rfl hS (Below.refl _ _) rfl
          case o16 =>
           intro dn a w' _ hS hF K hK
           obtain ⟨v96, h96, rfl⟩ := hF.va 7 96
           rw [if_neg (by rw [wanted_no 7 rfl (by kernel_rfl) h96]; decide)]
           exact hK _ _ _ rfl hS (Below.refl _ _) rfl
          case o17 =>
           intro dn a w' _ hS hF K hK
           obtain ⟨v96, h96, rfl⟩ := hF.va 7 96
           rw [if_neg (by rw [wanted_no 7 rfl (by kernel_rfl) h96]; decide)]
           exact hK _ _ _ rfl hS (Below.refl _ _) rfl
          case o18 =>
           intro dn a w' _ hS hF K hK
           obtain ⟨v96, h96, rfl⟩ := hF.va 7 96
           rw [if_neg (by rw [wanted_no 7 rfl (by kernel_rfl) h96]; decide)]
           exact hK _ _ _ rfl hS (Below.refl _ _) rfl
          case o19 =>
           intro dn a w' _ hS hF K hK
           obtain ⟨v96, h96, rfl⟩ := hF.va 7 96
           rw [if_neg (by rw [wanted_no 7 rfl (by kernel_rfl) h96]; decide)]
           exact hK _ _ _ rfl hS (Below.refl _ _) rfl
          case o20 =>
           intro dn a w' _ hS hF K hK
           obtain ⟨v96, h96, rfl⟩ := hF.va 7 96
           rw [if_neg (by rw [wanted_no 7 rfl (by kernel_rfl) h96]; decide)]
           exact hK _ _ _ rfl hS (Below.refl _ _) rfl
          case o21 =>
           intro dn a w' _ hS hF K hK
           obtain ⟨v96, h96, rfl⟩ := hF.va 7 96
           rw [if_neg (by rw [wanted_no 7 rfl (by kernel_rfl) h96]; decide)]
           exact hK _ _ _ rfl hS (Below.refl _ _) rfl
          case o22 =>
           intro dn a w' _ hS hF K hK
           obtain ⟨v96, h96, rfl⟩ := hF.va 7 96
           obtain ⟨v110, h110, rfl⟩ := hF.va 21 110
           rw [if_pos (by kernel_rfl)]
           go_simp
           exact hK _ _ _ rfl hS (Below.refl _ _) rfl
          case o23 =>
           intro dn a w' _ hS hF K hK
           obtain ⟨v111, h111, rfl⟩ := hF.va 22 111
           rw [if_pos (by kernel_rfl)]
           go_simp
           exact hK _ _ _ rfl hS (Below.refl _ _) rfl
          case o24 =>
           intro dn a w' _ hS hF K hK
           obtain ⟨v112, h112, rfl⟩ := hF.va 23 112
           rw [if_neg (by rw [wanted_no 23 rfl (by kernel_rfl) h112]; decide)]
           exact hK _ _ _ rfl hS (Below.refl _ _) rfl
          case o25 =>
           intro dn a w' _ hS hF K hK
           obtain ⟨v112, h112, rfl⟩ := hF.va 23 112
           rw [if_neg (by rw [wanted_no 23 rfl (by kernel_rfl) h112]; decide)]
           exact hK _ _ _ rfl hS (Below.refl _ _) rfl
          case o26 =>
           intro dn a w' _ hS hF K hK
           obtain ⟨v112, h112, rfl⟩ := hF.va 23 112
           rw [if_neg (by rw [wanted_no 23 rfl (by kernel_rfl) h112]; decide)]
           exact hK _ _ _ rfl hS (Below.refl _ _) rfl
          case o27 =>
           intro dn a w' _ hS hF K hK
           obtain ⟨v112, h112, rfl⟩ := hF.va 23 112
           rw [if_neg (by rw [wanted_no 23 rfl (by kernel_rfl) h112]; decide)]
           exact hK _ _ _ rfl hS (Below.refl _ _) rfl
          case o28 =>
           intro dn a w' _ hS hF K hK
           obtain ⟨v112, h112, rfl⟩ := hF.va 23 112
           rw [if_neg (by rw [wanted_no 23 rfl (by kernel_rfl) h112]; decide)]
           exact hK _ _ _ rfl hS (Below.refl _ _) rfl
          case o29 =>
           intro dn a w' _ hS hF K hK
           obtain ⟨v112, h112, rfl⟩ := hF.va 23 112
           rw [if_neg (by rw [wanted_no 23 rfl (by kernel_rfl) h112]; decide)]
           exact hK _ _ _ rfl hS (Below.refl _ _) rfl
          case o30 =>
           intro dn a w' _ hS hF K hK
           obtain ⟨v112, h112, rfl⟩ := hF.va 23 112
           rw [if_neg (by rw [wanted_no 23 rfl (by kernel_rfl) h112]; decide)]
           exact hK _ _ _ rfl hS (Below.refl _ _) rfl
          case o31 =>
           intro dn a w' _ hS hF K hK
           obtain ⟨v112, h112, rfl⟩ := hF.va 23 112
           obtain ⟨v119, h119, rfl⟩ := hF.va 30 119
           rw [if_pos (by kernel_rfl)]
           go_simp
           exact hK _ _ _ rfl hS (Below.refl _ _) rfl
          case o32 =>
           intro dn a w' _ hS hF K hK
           obtain ⟨v120, h120, rfl⟩ := hF.va 31 120
           rw [if_pos (by kernel_rfl)]
           go_simp
           exact hK _ _ _ rfl hS (Below.refl _ _) rfl
          case o33 =>
           intro dn a w' _ hS hF K hK
           obtain ⟨v121, h121, rfl⟩ := hF.va 32 121
           rw [if_neg (by rw [wanted_no 32 rfl (by kernel_rfl) h121]; decide)]
           exact hK _ _ _ rfl hS (Below.refl _ _) rfl
          case o34 =>
           intro dn a w' _ hS hF K hK
           obtain ⟨v121, h121, rfl⟩ := hF.va 32 121
           rw [if_neg (by rw [wanted_no 32 rfl (by kernel_rfl) h121]; decide)]
           exact hK _ _ _ rfl hS (Below.refl _ _) rfl
          case o35 =>
           intro dn a w' _ hS hF K hK
           obtain ⟨v121, h121, rfl⟩ := hF.va 32 121
           rw [if_neg (by rw [wanted_no 32 rfl (by kernel_rfl) h121]; decide)]
           exact hK _ _ _ rfl hS (Below.refl _ _) rfl
          case o36 =>
           intro dn a w' _ hS hF K hK
           obtain ⟨v121, h121, rfl⟩ := hF.va 32 121
           rw [if_neg (by rw [wanted_no 32 rfl (by kernel_rfl) h121]; decide)]
           exact hK _ _ _ rfl hS (Below.refl _ _) rfl
          case o37 =>
           intro dn a w' _ hS hF K hK
           obtain ⟨v121, h121, rfl⟩ := hF.va 32 121
           rw [if_neg (by rw [wanted_no 32 rfl (by kernel_rfl) h121]; decide)]
           exact hK _ _ _ rfl hS (Below.refl _ _) rfl
          case o38 =>
           intro dn a w' _ hS hF K hK
           obtain ⟨v121, h121, rfl⟩ := hF.va 32 121
           rw [if_neg (by rw [wanted_no 32 rfl (by kernel_rfl) h121]; decide)]
           exact hK _ _ _ rfl hS (Below.refl _ _) rfl
          case o39 =>
           intro dn a w' _ hS hF K hK
           obtain ⟨v121, h121, rfl⟩ := hF.va 32 121
           rw [if_neg (by rw [wanted_no 32 rfl (by kernel_rfl) h121]; decide)]
           exact hK _ _ _ rfl hS (Below.refl _ _) rfl
          case o40 =>
           intro dn a w' _ hS hF K hK
           obtain ⟨v121, h121, rfl⟩ := hF.va 32 121
           obtain ⟨v128, h128, rfl⟩ := hF.va 39 128
           rw [if_pos (by kernel_rfl)]
           go_simp
           exact hK _ _ _ rfl hS (Below.refl _ _) rfl
          case hmono =>
           intro i j v w1 w2 _ _ _ _ _ hv _
           exact hv
          case hend =>
           intro dn w6 vs_ hS hv
           have hvL : vs_ 40 = .bool true := hv 40 (by decide)
           clear hv
           have HS6 := hid hS
           simp only [putsL, Nat.reduceAdd, Act.put, List.setIfInBounds_toArray, List.set_cons_zero, List.set_cons_succ, hvL]
           go_wp2
           go_ret
           exact ⟨ret_bool HZ.out.symm, HBW2.out.trans (HS6.out.mono HBW2.out.size)⟩
         case pos =>
          obtain ⟨n, rfl⟩ := Int.eq_ofNat_of_zero_le hin2.1
          have hnf : n < fs.length := by omega
          have hnI : (n : Int) < fs.length := hin2.2
          have hI : inB (n : Int) 0 ((fs.length : Int) - 1) = true := by unfold inB; simp; omega
          obtain ⟨q, oq, rfl, hqB, x0, x1, x2, x3⟩ := fn_at (Cs.below HF.out HBW2.out HBW2.out.size) hnf
          have HFc := hid (Cs.below (HFs.out _ (List.getElem_mem hnf)) HBW2.out HBW2.out.size)
          have hfcl : (fs[n]'hnf).code.length * 88 ≤ 140737488355328 := hfbs _ (List.getElem_mem hnf)
          have hmvj : moveD fs f0.length (n : Int) = (decide ((fs[n]'hnf).p = f0.length) && (decide ((fs[n]'hnf).c = 0) && (fs[n]'hnf).code.all (fun i => pureO i.op))) := by
           unfold moveD
           rw [Int.toNat_natCast, List.getElem?_eq_getElem hnf, show belB (n : Int) fs.length = true by unfold belB; simp; omega]
           rfl
          generalize (fs[n]'hnf) = ff at x0 x1 x2 x3 HFc hfcl hmvj
          obtain ⟨fp, fl, fc, fad, fcap2, fcode⟩ := ff
          dsimp only at x0 x1 x2 x3 hfcl hmvj
          have hfcl : fcode.length ≤ 9223372036854775807 := by omega
          clear hin2
          by_cases hp : fp = f0.length
          case neg =>
           have HZ := hid (HNj.out (by rw [hmvj]; simp [hp]))
           have hne1 : (fp != (f0.length : Int)) = true := by rw [bne_iff_ne]; exact hp
           clear hp hmvj
           go_wp2_with fail
           refine wp_region_invA (fun _ w' => Below wr.heap.size wr w') (fun _ w' w'' => Below w'.heap.size w' w'') (fun i vv w' => match i with
            | 0 => vv = .int .i64 (n : Int)
            | 1 => vv = .pointer (some ⟨w.heap.size, 0, none⟩)
            | 2 => vv = .slice (some ⟨q, oq, none⟩) fs.length fcap
            | 3 => vv = .int .i64 (fs.length : Int)
            | 4 => vv = .int .i64 ((fs.length : Int) - 1)
            | 5 => vv = .bool true
            | 6 => vv = .bool false
            | 7 => vv = .bool false
            | 8 => vv = .pointer (some ⟨w.heap.size, 0, none⟩)
            | 9 => vv = .slice (some ⟨q, oq, none⟩) fs.length fcap
            | 10 => vv = .int .i64 (n : Int)
            | 11 => vv = .pointer (some ⟨q, oq + n * 4, none⟩)
            | 12 => vv = .pointer (some ⟨q, oq + n * 4, none⟩)
            | 13 => vv = .int .i64 fp
            | 14 => vv = .pointer (some ⟨w.heap.size + 1, 1, none⟩)
            | 15 => vv = .slice (some ⟨b, o, none⟩) vs.length vcap
            | 16 => vv = .int .i64 (iv : Int)
            | 17 => vv = .pointer (some ⟨b, o + iv * 2, none⟩)
            | 18 => vv = .pointer (some ⟨b, o + iv * 2 + 1, none⟩)
            | 19 => vv = .slice a0 f0.length cap0
            | 20 => vv = .int .i64 (f0.length : Int)
            | 21 => vv = .bool true
            | 22 => vv = .bool true
            | 23 => vv = .bool true
            | 24 => vv = undef
            | 25 => vv = undef
            | 26 => vv = undef
            | 27 => vv = undef
            | 28 => vv = undef
            | 29 => vv = undef
            | 30 => vv = undef
            | 31 => vv = .bool true
            | 32 => vv = .bool true
            | 33 => vv = undef
            | 34 => vv = undef
            | 35 => vv = undef
            | 36 => vv = undef
            | 37 => vv = undef
            | 38 => vv = undef
            | 39 => vv = undef
            | 40 => vv = .bool true
            | _ => True) (by kernel_rfl) (by kernel_rfl) (Below.refl _ _).drew ?hmono ⟨?o0, ?o1, ?o2, ?o3, ?o4, ?o5, ?o6, ?o7, ?o8, ?o9, ?o10, ?o11, ?o12, ?o13, ?o14, ?o15, ?o16, ?o17, ?o18, ?o19, ?o20, ?o21, ?o22, ?o23, ?o24, ?o25, ?o26, ?o27, ?o28, ?o29, ?o30, ?o31, ?o32, ?o33, ?o34, ?o35, ?o36, ?o37, ?o38, ?o39, ?o40, trivial⟩ ?hend
           case o0 =>
            intro dn a w' _ hS hF K hK
            have h8 := hF.out 8 (by kernel_rfl) rfl
            rw [if_pos (by kernel_rfl)]
            go_simp
            exact hK _ _ _ rfl hS (Below.refl _ _) rfl
           case o1 =>
            intro dn a w' _ hS hF K hK
            have h2 := hF.out 2 (by kernel_rfl) rfl
            rw [if_pos (by kernel_rfl)]
            go_simp
            exact hK _ _ _ rfl hS (Below.refl _ _) rfl
           case o2 =>
            intro dn a w' _ hS hF K hK
            obtain ⟨v90, h90, rfl⟩ := hF.va 1 90
            have c0' := cx hS c0
            have r1' := cx hS r1
            have y1' := cx hS y1
            have x0' := cx hS x0
            have x1' := cx hS x1
            have x2' := cx hS x2
            have x3' := cx hS x3
            rw [if_pos (by kernel_rfl)]
            go_simp
            exact hK _ _ _ rfl hS (Below.refl _ _) rfl
           case o3 =>
            intro dn a w' _ hS hF K hK
            obtain ⟨v91, h91, rfl⟩ := hF.va 2 91
            rw [if_pos (by kernel_rfl)]
            go_simp
            exact hK _ _ _ rfl hS (Below.refl _ _) rfl
           case o4 =>
            intro dn a w' _ hS hF K hK
            obtain ⟨v92, h92, rfl⟩ := hF.va 3 92
            rw [if_pos (by kernel_rfl)]
            go_simp
            have hwl : IntKind.i64.wrap ((fs.length : Int) - 1) = fs.length - 1 := wrap_len hfb
            rw [hwl]
            exact hK _ _ _ rfl hS (Below.refl _ _) rfl
           case o5 =>
            intro dn a w' _ hS hF K hK
            obtain ⟨v89, h89, rfl⟩ := hF.va 0 89
            obtain ⟨v93, h93, rfl⟩ := hF.va 4 93
            rw [if_pos (by kernel_rfl)]
            go_simp
            refine (HH.In_any _ 0 _ w').mono ?_
            rintro e w'' ⟨rfl, rfl⟩
            rw [hI]
            exact hK _ _ _ rfl hS (Below.refl _ _) rfl
           case o6 =>
            intro dn a w' _ hS hF K hK
            obtain ⟨v94, h94, rfl⟩ := hF.va 5 94
            rw [if_pos (by kernel_rfl)]
            go_simp
            exact hK _ _ _ rfl hS (Below.refl _ _) rfl
           case o7 =>
            intro dn a w' _ hS hF K hK
            obtain ⟨v95, h95, rfl⟩ := hF.va 6 95
            rw [if_pos (by kernel_rfl)]
            go_simp
            exact hK _ _ _ rfl hS (Below.refl _ _) rfl
           case o8 =>
            intro dn a w' _ hS hF K hK
            have h2 := hF.out 2 (by kernel_rfl) rfl
            obtain ⟨v96, h96, rfl⟩ := hF.va 7 96
            rw [if_pos (wanted_yes 7 rfl (by kernel_rfl) h96)]
            go_simp
            exact hK _ _ _ rfl hS (Below.refl _ _) rfl
           case o9 =>
            intro dn a w' _ hS hF K hK
            obtain ⟨v97, h97, rfl⟩ := hF.va 8 97
            obtain ⟨v96, h96, rfl⟩ := hF.va 7 96
            have c0' := cx hS c0
            have r1' := cx hS r1
            have y1' := cx hS y1
            have x0' := cx hS x0
            have x1' := cx hS x1
            have x2' := cx hS x2
            have x3' := cx hS x3
            rw [if_pos (wanted_yes 7 rfl (by kernel_rfl) h96)]
            go_simp
            exact hK _ _ _ rfl hS (Below.refl _ _) rfl
           case o10 =>
            intro dn a w' _ hS hF K hK
            have h8 := hF.out 8 (by kernel_rfl) rfl
            obtain ⟨v96, h96, rfl⟩ := hF.va 7 96
            rw [if_pos (wanted_yes 7 rfl (by kernel_rfl) h96)]
            go_simp
            exact hK _ _ _ rfl hS (Below.refl _ _) rfl
           case o11 =>
            intro dn a w' _ hS hF K hK
            obtain ⟨v98, h98, rfl⟩ := hF.va 9 98
            obtain ⟨v99, h99, rfl⟩ := hF.va 10 99
            obtain ⟨v96, h96, rfl⟩ := hF.va 7 96
            rw [if_pos (wanted_yes 7 rfl (by kernel_rfl) h96)]
            go_simp
            exact hK _ _ _ rfl hS (Below.refl _ _) rfl
           case o12 =>
            intro dn a w' _ hS hF K hK
            obtain ⟨v100, h100, rfl⟩ := hF.va 11 100
            obtain ⟨v96, h96, rfl⟩ := hF.va 7 96
            rw [if_pos (wanted_yes 7 rfl (by kernel_rfl) h96)]
            go_simp
            exact hK _ _ _ rfl hS (Below.refl _ _) rfl
           case o13 =>
            intro dn a w' _ hS hF K hK
            obtain ⟨v101, h101, rfl⟩ := hF.va 12 101
            obtain ⟨v96, h96, rfl⟩ := hF.va 7 96
            have c0' := cx hS c0
            have r1' := cx hS r1
            have y1' := cx hS y1
            have x0' := cx hS x0
            have x1' := cx hS x1
            have x2' := cx hS x2
            have x3' := cx hS x3
            rw [if_pos (wanted_yes 7 rfl (by kernel_rfl) h96)]
            go_simp
            exact hK _ _ _ rfl hS (Below.refl _ _) rfl
           case o14 =>
            intro dn a w' _ hS hF K hK
            have h3 := hF.out 3 (by kernel_rfl) rfl
            obtain ⟨v96, h96, rfl⟩ := hF.va 7 96
            rw [if_pos (wanted_yes 7 rfl (by kernel_rfl) h96)]
            go_simp
            exact hK _ _ _ rfl hS (Below.refl _ _) rfl
           case o15 =>
            intro dn a w' _ hS hF K hK
            obtain ⟨v103, h103, rfl⟩ := hF.va 14 103
            obtain ⟨v96, h96, rfl⟩ := hF.va 7 96
            have c0' := cx hS c0
            have r1' := cx hS r1
            have y1' := cx hS y1
            have x0' := cx hS x0
            have x1' := cx hS x1
            have x2' := cx hS x2
            have x3' := cx hS x3
            rw [if_pos (wanted_yes 7 rfl (by kernel_rfl) h96)]
            go_simp
            exact hK _ _ _ rfl hS (Below.refl _ _) rfl
           case o16 =>
            intro dn a w' _ hS hF K hK
            have h6 := hF.out 6 (by kernel_rfl) rfl
            obtain ⟨v96, h96, rfl⟩ := hF.va 7 96
            rw [if_pos (wanted_yes 7 rfl (by kernel_rfl) h96)]
            go_simp
            exact hK _ _ _ rfl hS (Below.refl _ _) rfl
           case o17 =>
            intro dn a w' _ hS hF K hK
            obtain ⟨v104, h104, rfl⟩ := hF.va 15 104
            obtain ⟨v105, h105, rfl⟩ := hF.va 16 105
            obtain ⟨v96, h96, rfl⟩ := hF.va 7 96
            rw [if_pos (wanted_yes 7 rfl (by kernel_rfl) h96)]
            go_simp
            exact hK _ _ _ rfl hS (Below.refl _ _) rfl
           case o18 =>
            intro dn a w' _ hS hF K hK
            obtain ⟨v106, h106, rfl⟩ := hF.va 17 106
            obtain ⟨v96, h96, rfl⟩ := hF.va 7 96
            rw [if_pos (wanted_yes 7 rfl (by kernel_rfl) h96)]
            go_simp
            exact hK _ _ _ rfl hS (Below.refl _ _) rfl
           case o19 =>
            intro dn a w' _ hS hF K hK
            obtain ⟨v107, h107, rfl⟩ := hF.va 18 107
            obtain ⟨v96, h96, rfl⟩ := hF.va 7 96
            have c0' := cx hS c0
            have r1' := cx hS r1
            have y1' := cx hS y1
            have x0' := cx hS x0
            have x1' := cx hS x1
            have x2' := cx hS x2
            have x3' := cx hS x3
            rw [if_pos (wanted_yes 7 rfl (by kernel_rfl) h96)]
            go_simp
            exact hK _ _ _ rfl hS (Below.refl _ _) rfl
           case o20 =>
            intro dn a w' _ hS hF K hK
            obtain ⟨v108, h108, rfl⟩ := hF.va 19 108
            obtain ⟨v96, h96, rfl⟩ := hF.va 7 96
            rw [if_pos (wanted_yes 7 rfl (by kernel_rfl) h96)]
            go_simp
            exact hK _ _ _ rfl hS (Below.refl _ _) rfl
           case o21 =>
            intro dn a w' _ hS hF K hK
            obtain ⟨v102, h102, rfl⟩ := hF.va 13 102
            obtain ⟨v109, h109, rfl⟩ := hF.va 20 109
            obtain ⟨v96, h96, rfl⟩ := hF.va 7 96
            rw [if_pos (wanted_yes 7 rfl (by kernel_rfl) h96)]
            go_simp
            exact hK _ _ _ rfl hS (Below.refl _ _) rfl
           case o22 =>
            intro dn a w' _ hS hF K hK
            obtain ⟨v96, h96, rfl⟩ := hF.va 7 96
            obtain ⟨v110, h110, rfl⟩ := hF.va 21 110
            rw [if_pos (by kernel_rfl)]
            go_simp
            exact hK _ _ _ rfl hS (Below.refl _ _) rfl
           case o23 =>
            intro dn a w' _ hS hF K hK
            obtain ⟨v111, h111, rfl⟩ := hF.va 22 111
            rw [if_pos (by kernel_rfl)]
            go_simp
            exact hK _ _ _ rfl hS (Below.refl _ _) rfl
           case o24 =>
            intro dn a w' _ hS hF K hK
            obtain ⟨v112, h112, rfl⟩ := hF.va 23 112
            rw [if_neg (by rw [wanted_no 23 rfl (by kernel_rfl) h112]; decide)]
            exact hK _ _ _ rfl hS (Below.refl _ _) rfl
           case o25 =>
            intro dn a w' _ hS hF K hK
            obtain ⟨v112, h112, rfl⟩ := hF.va 23 112
            rw [if_neg (by rw [wanted_no 23 rfl (by kernel_rfl) h112]; decide)]
            exact hK _ _ _ rfl hS (Below.refl _ _) rfl
           case o26 =>
            intro dn a w' _ hS hF K hK
            obtain ⟨v112, h112, rfl⟩ := hF.va 23 112
            rw [if_neg (by rw [wanted_no 23 rfl (by kernel_rfl) h112]; decide)]
            exact hK _ _ _ rfl hS (Below.refl _ _) rfl
           case o27 =>
            intro dn a w' _ hS hF K hK
            obtain ⟨v112, h112, rfl⟩ := hF.va 23 112
            rw [if_neg (by rw [wanted_no 23 rfl (by kernel_rfl) h112]; decide)]
            exact hK _ _ _ rfl hS (Below.refl _ _) rfl
           case o28 =>
            intro dn a w' _ hS hF K hK
            obtain ⟨v112, h112, rfl⟩ := hF.va 23 112
            rw [if_neg (by rw [wanted_no 23 rfl (by kernel_rfl) h112]; decide)]
            exact hK _ _ _ rfl hS (Below.refl _ _) rfl
           case o29 =>
            intro dn a w' _ hS hF K hK
            obtain ⟨v112, h112, rfl⟩ := hF.va 23 112
            rw [if_neg (by rw [wanted_no 23 rfl (by kernel_rfl) h112]; decide)]
            exact hK _ _ _ rfl hS (Below.refl _ _) rfl
           case o30 =>
            intro dn a w' _ hS hF K hK
            obtain ⟨v112, h112, rfl⟩ := hF.va 23 112
            rw [if_neg (by rw [wanted_no 23 rfl (by kernel_rfl) h112]; decide)]
            exact hK _ _ _ rfl hS (Below.refl _ _) rfl
           case o31 =>
            intro dn a w' _ hS hF K hK
            obtain ⟨v112, h112, rfl⟩ := hF.va 23 112
            obtain ⟨v119, h119, rfl⟩ := hF.va 30 119
            rw [if_pos (by kernel_rfl)]
            go_simp
            exact hK _ _ _ rfl hS (Below.refl _ _) rfl
           case o32 =>
            intro dn a w' _ hS hF K hK
            obtain ⟨v120, h120, rfl⟩ := hF.va 31 120
            rw [if_pos (by kernel_rfl)]
            go_simp
            exact hK _ _ _ rfl hS (Below.refl _ _) rfl
           case o33 =>
            intro dn a w' _ hS hF K hK
            obtain ⟨v121, h121, rfl⟩ := hF.va 32 121
            rw [if_neg (by rw [wanted_no 32 rfl (by kernel_rfl) h121]; decide)]
            exact hK _ _ _ rfl hS (Below.refl _ _) rfl
           case o34 =>
            intro dn a w' _ hS hF K hK
            obtain ⟨v121, h121, rfl⟩ := hF.va 32 121
            rw [if_neg (by rw [wanted_no 32 rfl (by kernel_rfl) h121]; decide)]
            exact hK _ _ _ rfl hS (Below.refl _ _) rfl
           case o35 =>
            intro dn a w' _ hS hF K hK
            obtain ⟨v121, h121, rfl⟩ := hF.va 32 121
            rw [if_neg (by rw [wanted_no 32 rfl (by kernel_rfl) h121]; decide)]
            exact hK _ _ _ rfl hS (Below.refl _ _) rfl
           case o36 =>
            intro dn a w' _ hS hF K hK
            obtain ⟨v121, h121, rfl⟩ := hF.va 32 121
            rw [if_neg (by rw [wanted_no 32 rfl (by kernel_rfl) h121]; decide)]
            exact hK _ _ _ rfl hS (Below.refl _ _) rfl
           case o37 =>
            intro dn a w' _ hS hF K hK
            obtain ⟨v121, h121, rfl⟩ := hF.va 32 121
            rw [if_neg (by rw [wanted_no 32 rfl (by kernel_rfl) h121]; decide)]
            exact hK _ _ _ rfl hS (Below.refl _ _) rfl
           case o38 =>
            intro dn a w' _ hS hF K hK
            obtain ⟨v121, h121, rfl⟩ := hF.va 32 121
            rw [if_neg (by rw [wanted_no 32 rfl (by kernel_rfl) h121]; decide)]
            exact hK _ _ _ rfl hS (Below.refl _ _) rfl
           case o39 =>
            intro dn a w' _ hS hF K hK
            obtain ⟨v121, h121, rfl⟩ := hF.va 32 121
            rw [if_neg (by rw [wanted_no 32 rfl (by kernel_rfl) h121]; decide)]
            exact hK _ _ _ rfl hS (Below.refl _ _) rfl
           case o40 =>
            intro dn a w' _ hS hF K hK
            obtain ⟨v121, h121, rfl⟩ := hF.va 32 121
            obtain ⟨v128, h128, rfl⟩ := hF.va 39 128
            rw [if_pos (by kernel_rfl)]
            go_simp
            exact hK _ _ _ rfl hS (Below.refl _ _) rfl
           case hmono =>
            intro i j v w1 w2 _ _ _ _ _ hv _
            exact hv
           case hend =>
            intro dn w6 vs_ hS hv
            have hvL : vs_ 40 = .bool true := hv 40 (by decide)
            clear hv
            have HS6 := hid hS
            simp only [putsL, Nat.reduceAdd, Act.put, List.setIfInBounds_toArray, List.set_cons_zero, List.set_cons_succ, hvL]
            go_wp2
            go_ret
            exact ⟨ret_bool HZ.out.symm, HBW2.out.trans (HS6.out.mono HBW2.out.size)⟩
          have hne1 : (fp != (f0.length : Int)) = false := by rw [hp]; simp
          by_cases hfc : fc = 0
          case neg =>
           have HZ := hid (HNj.out (by rw [hmvj]; simp [hfc]))
           have hnc : (fc != 0) = true := by rw [bne_iff_ne]; exact hfc
           clear hfc hp hmvj
           go_wp2_with fail
           refine wp_region_invA (fun _ w' => Below wr.heap.size wr w') (fun _ w' w'' => Below w'.heap.size w' w'') (fun i vv w' => match i with
            | 0 => vv = .int .i64 (n : Int)
            | 1 => vv = .pointer (some ⟨w.heap.size, 0, none⟩)
            | 2 => vv = .slice (some ⟨q, oq, none⟩) fs.length fcap
            | 3 => vv = .int .i64 (fs.length : Int)
            | 4 => vv = .int .i64 ((fs.length : Int) - 1)
            | 5 => vv = .bool true
            | 6 => vv = .bool false
            | 7 => vv = .bool false
            | 8 => vv = .pointer (some ⟨w.heap.size, 0, none⟩)
            | 9 => vv = .slice (some ⟨q, oq, none⟩) fs.length fcap
            | 10 => vv = .int .i64 (n : Int)
            | 11 => vv = .pointer (some ⟨q, oq + n * 4, none⟩)
            | 12 => vv = .pointer (some ⟨q, oq + n * 4, none⟩)
            | 13 => vv = .int .i64 fp
            | 14 => vv = .pointer (some ⟨w.heap.size + 1, 1, none⟩)
            | 15 => vv = .slice (some ⟨b, o, none⟩) vs.length vcap
            | 16 => vv = .int .i64 (iv : Int)
            | 17 => vv = .pointer (some ⟨b, o + iv * 2, none⟩)
            | 18 => vv = .pointer (some ⟨b, o + iv * 2 + 1, none⟩)
            | 19 => vv = .slice a0 f0.length cap0
            | 20 => vv = .int .i64 (f0.length : Int)
            | 21 => vv = .bool false
            | 22 => vv = .bool false
            | 23 => vv = .bool false
            | 24 => vv = .pointer (some ⟨w.heap.size, 0, none⟩)
            | 25 => vv = .slice (some ⟨q, oq, none⟩) fs.length fcap
            | 26 => vv = .int .i64 (n : Int)
            | 27 => vv = .pointer (some ⟨q, oq + n * 4, none⟩)
            | 28 => vv = .pointer (some ⟨q, oq + n * 4 + 2, none⟩)
            | 29 => vv = .int .i64 fc
            | 30 => vv = .bool true
            | 31 => vv = .bool true
            | 32 => vv = .bool true
            | 33 => vv = undef
            | 34 => vv = undef
            | 35 => vv = undef
            | 36 => vv = undef
            | 37 => vv = undef
            | 38 => vv = undef
            | 39 => vv = undef
            | 40 => vv = .bool true
            | _ => True) (by kernel_rfl) (by kernel_rfl) (Below.refl _ _).drew ?hmono ⟨?o0, ?o1, ?o2, ?o3, ?o4, ?o5, ?o6, ?o7, ?o8, ?o9, ?o10, ?o11, ?o12, ?o13, ?o14, ?o15, ?o16, ?o17, ?o18, ?o19, ?o20, ?o21, ?o22, ?o23, ?o24, ?o25, ?o26, ?o27, ?o28, ?o29, ?o30, ?o31, ?o32, ?o33, ?o34, ?o35, ?o36, ?o37, ?o38, ?o39, ?o40, trivial⟩ ?hend
           case o0 =>
            intro dn a w' _ hS hF K hK
            have h8 := hF.out 8 (by kernel_rfl) rfl
            rw [if_pos (by kernel_rfl)]
            go_simp
            exact hK _ _ _ rfl hS (Below.refl _ _) rfl
           case o1 =>
            intro dn a w' _ hS hF K hK
            have h2 := hF.out 2 (by kernel_rfl) rfl
            rw [if_pos (by kernel_rfl)]
            go_simp
            exact hK _ _ _ rfl hS (Below.refl _ _) rfl
           case o2 =>
            intro dn a w' _ hS hF K hK
            obtain ⟨v90, h90, rfl⟩ := hF.va 1 90
            have c0' := cx hS c0
            have r1' := cx hS r1
            have y1' := cx hS y1
            have x0' := cx hS x0
            have x1' := cx hS x1
            have x2' := cx hS x2
            have x3' := cx hS x3
            rw [if_pos (by kernel_rfl)]
            go_simp
            exact hK _ _ _ rfl hS (Below.refl _ _) rfl
           case o3 =>
            intro dn a w' _ hS hF K hK
            obtain ⟨v91, h91, rfl⟩ := hF.va 2 91
            rw [if_pos (by kernel_rfl)]
            go_simp
            exact hK _ _ _ rfl hS (Below.refl _ _) rfl
           case o4 =>
            intro dn a w' _ hS hF K hK
            obtain ⟨v92, h92, rfl⟩ := hF.va 3 92
            rw [if_pos (by kernel_rfl)]
            go_simp
            have hwl : IntKind.i64.wrap ((fs.length : Int) - 1) = fs.length - 1 := wrap_len hfb
            rw [hwl]
            exact hK _ _ _ rfl hS (Below.refl _ _) rfl
           case o5 =>
            intro dn a w' _ hS hF K hK
            obtain ⟨v89, h89, rfl⟩ := hF.va 0 89
            obtain ⟨v93, h93, rfl⟩ := hF.va 4 93
            rw [if_pos (by kernel_rfl)]
            go_simp
            refine (HH.In_any _ 0 _ w').mono ?_
            rintro e w'' ⟨rfl, rfl⟩
            rw [hI]
            exact hK _ _ _ rfl hS (Below.refl _ _) rfl
           case o6 =>
            intro dn a w' _ hS hF K hK
            obtain ⟨v94, h94, rfl⟩ := hF.va 5 94
            rw [if_pos (by kernel_rfl)]
            go_simp
            exact hK _ _ _ rfl hS (Below.refl _ _) rfl
           case o7 =>
            intro dn a w' _ hS hF K hK
            obtain ⟨v95, h95, rfl⟩ := hF.va 6 95
            rw [if_pos (by kernel_rfl)]
            go_simp
            exact hK _ _ _ rfl hS (Below.refl _ _) rfl
           case o8 =>
            intro dn a w' _ hS hF K hK
            have h2 := hF.out 2 (by kernel_rfl) rfl
            obtain ⟨v96, h96, rfl⟩ := hF.va 7 96
            rw [if_pos (wanted_yes 7 rfl (by kernel_rfl) h96)]
            go_simp
            exact hK _ _ _ rfl hS (Below.refl _ _) rfl
           case o9 =>
            intro dn a w' _ hS hF K hK
            obtain ⟨v97, h97, rfl⟩ := hF.va 8 97
            obtain ⟨v96, h96, rfl⟩ := hF.va 7 96
            have c0' := cx hS c0
            have r1' := cx hS r1
            have y1' := cx hS y1
            have x0' := cx hS x0
            have x1' := cx hS x1
            have x2' := cx hS x2
            have x3' := cx hS x3
            rw [if_pos (wanted_yes 7 rfl (by kernel_rfl) h96)]
            go_simp
            exact hK _ _ _ rfl hS (Below.refl _ _) rfl
           case o10 =>
            intro dn a w' _ hS hF K hK
            have h8 := hF.out 8 (by kernel_rfl) rfl
            obtain ⟨v96, h96, rfl⟩ := hF.va 7 96
            rw [if_pos (wanted_yes 7 rfl (by kernel_rfl) h96)]
            go_simp
            exact hK _ _ _ rfl hS (Below.refl _ _) rfl
           case o11 =>
            intro dn a w' _ hS hF K hK
            obtain ⟨v98, h98, rfl⟩ := hF.va 9 98
            obtain ⟨v99, h99, rfl⟩ := hF.va 10 99
            obtain ⟨v96, h96, rfl⟩ := hF.va 7 96
            rw [if_pos (wanted_yes 7 rfl (by kernel_rfl) h96)]
            go_simp
            exact hK _ _ _ rfl hS (Below.refl _ _) rfl
           case o12 =>
            intro dn a w' _ hS hF K hK
            obtain ⟨v100, h100, rfl⟩ := hF.va 11 100
            obtain ⟨v96, h96, rfl⟩ := hF.va 7 96
            rw [if_pos (wanted_yes 7 rfl (by kernel_rfl) h96)]
            go_simp
            exact hK _ _ _ rfl hS (Below.refl _ _) rfl
           case o13 =>
            intro dn a w' _ hS hF K hK
            obtain ⟨v101, h101, rfl⟩ := hF.va 12 101
            obtain ⟨v96, h96, rfl⟩ := hF.va 7 96
            have c0' := cx hS c0
            have r1' := cx hS r1
            have y1' := cx hS y1
            have x0' := cx hS x0
            have x1' := cx hS x1
            have x2' := cx hS x2
            have x3' := cx hS x3
            rw [if_pos (wanted_yes 7 rfl (by kernel_rfl) h96)]
            go_simp
            exact hK _ _ _ rfl hS (Below.refl _ _) rfl
           case o14 =>
            intro dn a w' _ hS hF K hK
            have h3 := hF.out 3 (by kernel_rfl) rfl
            obtain ⟨v96, h96, rfl⟩ := hF.va 7 96
            rw [if_pos (wanted_yes 7 rfl (by kernel_rfl) h96)]
            go_simp
            exact hK _ _ _ rfl hS (Below.refl _ _) rfl
           case o15 =>
            intro dn a w' _ hS hF K hK
            obtain ⟨v103, h103, rfl⟩ := hF.va 14 103
            obtain ⟨v96, h96, rfl⟩ := hF.va 7 96
            have c0' := cx hS c0
            have r1' := cx hS r1
            have y1' := cx hS y1
            have x0' := cx hS x0
            have x1' := cx hS x1
            have x2' := cx hS x2
            have x3' := cx hS x3
            rw [if_pos (wanted_yes 7 rfl (by kernel_rfl) h96)]
            go_simp
            exact hK _ _ _ rfl hS (Below.refl _ _) rfl
           case o16 =>
            intro dn a w' _ hS hF K hK
            have h6 := hF.out 6 (by kernel_rfl) rfl
            obtain ⟨v96, h96, rfl⟩ := hF.va 7 96
            rw [if_pos (wanted_yes 7 rfl (by kernel_rfl) h96)]
            go_simp
            exact hK _ _ _ rfl hS (Below.refl _ _) rfl
           case o17 =>
            intro dn a w' _ hS hF K hK
            obtain ⟨v104, h104, rfl⟩ := hF.va 15 104
            obtain ⟨v105, h105, rfl⟩ := hF.va 16 105
            obtain ⟨v96, h96, rfl⟩ := hF.va 7 96
            rw [if_pos (wanted_yes 7 rfl (by kernel_rfl) h96)]
            go_simp
            exact hK _ _ _ rfl hS (Below.refl _ _) rfl
           case o18 =>
            intro dn a w' _ hS hF K hK
            obtain ⟨v106, h106, rfl⟩ := hF.va 17 106
            obtain ⟨v96, h96, rfl⟩ := hF.va 7 96
            rw [if_pos (wanted_yes 7 rfl (by kernel_rfl) h96)]
            go_simp
            exact hK _ _ _ rfl hS (Below.refl _ _) rfl
           case o19 =>
            intro dn a w' _ hS hF K hK
            obtain ⟨v107, h107, rfl⟩ := hF.va 18 107
            obtain ⟨v96, h96, rfl⟩ := hF.va 7 96
            have c0' := cx hS c0
            have r1' := cx hS r1
            have y1' := cx hS y1
            have x0' := cx hS x0
            have x1' := cx hS x1
            have x2' := cx hS x2
            have x3' := cx hS x3
            rw [if_pos (wanted_yes 7 rfl (by kernel_rfl) h96)]
            go_simp
            exact hK _ _ _ rfl hS (Below.refl _ _) rfl
           case o20 =>
            intro dn a w' _ hS hF K hK
            obtain ⟨v108, h108, rfl⟩ := hF.va 19 108
            obtain ⟨v96, h96, rfl⟩ := hF.va 7 96
            rw [if_pos (wanted_yes 7 rfl (by kernel_rfl) h96)]
            go_simp
            exact hK _ _ _ rfl hS (Below.refl _ _) rfl
           case o21 =>
            intro dn a w' _ hS hF K hK
            obtain ⟨v102, h102, rfl⟩ := hF.va 13 102
            obtain ⟨v109, h109, rfl⟩ := hF.va 20 109
            obtain ⟨v96, h96, rfl⟩ := hF.va 7 96
            rw [if_pos (wanted_yes 7 rfl (by kernel_rfl) h96)]
            go_simp
            exact hK _ _ _ rfl hS (Below.refl _ _) rfl
           case o22 =>
            intro dn a w' _ hS hF K hK
            obtain ⟨v96, h96, rfl⟩ := hF.va 7 96
            obtain ⟨v110, h110, rfl⟩ := hF.va 21 110
            rw [if_pos (by kernel_rfl)]
            go_simp
            exact hK _ _ _ rfl hS (Below.refl _ _) rfl
           case o23 =>
            intro dn a w' _ hS hF K hK
            obtain ⟨v111, h111, rfl⟩ := hF.va 22 111
            rw [if_pos (by kernel_rfl)]
            go_simp
            exact hK _ _ _ rfl hS (Below.refl _ _) rfl
           case o24 =>
            intro dn a w' _ hS hF K hK
            have h2 := hF.out 2 (by kernel_rfl) rfl
            obtain ⟨v112, h112, rfl⟩ := hF.va 23 112
            rw [if_pos (wanted_yes 23 rfl (by kernel_rfl) h112)]
            go_simp
            exact hK _ _ _ rfl hS (Below.refl _ _) rfl
           case o25 =>
            intro dn a w' _ hS hF K hK
            obtain ⟨v113, h113, rfl⟩ := hF.va 24 113
            obtain ⟨v112, h112, rfl⟩ := hF.va 23 112
            have c0' := cx hS c0
            have r1' := cx hS r1
            have y1' := cx hS y1
            have x0' := cx hS x0
            have x1' := cx hS x1
            have x2' := cx hS x2
            have x3' := cx hS x3
            rw [if_pos (wanted_yes 23 rfl (by kernel_rfl) h112)]
            go_simp
            exact hK _ _ _ rfl hS (Below.refl _ _) rfl
           case o26 =>
            intro dn a w' _ hS hF K hK
            have h8 := hF.out 8 (by kernel_rfl) rfl
            obtain ⟨v112, h112, rfl⟩ := hF.va 23 112
            rw [if_pos (wanted_yes 23 rfl (by kernel_rfl) h112)]
            go_simp
            exact hK _ _ _ rfl hS (Below.refl _ _) rfl
           case o27 =>
            intro dn a w' _ hS hF K hK
            obtain ⟨v114, h114, rfl⟩ := hF.va 25 114
            obtain ⟨v115, h115, rfl⟩ := hF.va 26 115
            obtain ⟨v112, h112, rfl⟩ := hF.va 23 112
            rw [if_pos (wanted_yes 23 rfl (by kernel_rfl) h112)]
            go_simp
            exact hK _ _ _ rfl hS (Below.refl _ _) rfl
           case o28 =>
            intro dn a w' _ hS hF K hK
            obtain ⟨v116, h116, rfl⟩ := hF.va 27 116
            obtain ⟨v112, h112, rfl⟩ := hF.va 23 112
            rw [if_pos (wanted_yes 23 rfl (by kernel_rfl) h112)]
            go_simp
            exact hK _ _ _ rfl hS (Below.refl _ _) rfl
           case o29 =>
            intro dn a w' _ hS hF K hK
            obtain ⟨v117, h117, rfl⟩ := hF.va 28 117
            obtain ⟨v112, h112, rfl⟩ := hF.va 23 112
            have c0' := cx hS c0
            have r1' := cx hS r1
            have y1' := cx hS y1
            have x0' := cx hS x0
            have x1' := cx hS x1
            have x2' := cx hS x2
            have x3' := cx hS x3
            rw [if_pos (wanted_yes 23 rfl (by kernel_rfl) h112)]
            go_simp
            exact hK _ _ _ rfl hS (Below.refl _ _) rfl
           case o30 =>
            intro dn a w' _ hS hF K hK
            obtain ⟨v118, h118, rfl⟩ := hF.va 29 118
            obtain ⟨v112, h112, rfl⟩ := hF.va 23 112
            rw [if_pos (wanted_yes 23 rfl (by kernel_rfl) h112)]
            go_simp
            exact hK _ _ _ rfl hS (Below.refl _ _) rfl
           case o31 =>
            intro dn a w' _ hS hF K hK
            obtain ⟨v112, h112, rfl⟩ := hF.va 23 112
            obtain ⟨v119, h119, rfl⟩ := hF.va 30 119
            rw [if_pos (by kernel_rfl)]
            go_simp
            exact hK _ _ _ rfl hS (Below.refl _ _) rfl
           case o32 =>
            intro dn a w' _ hS hF K hK
            obtain ⟨v120, h120, rfl⟩ := hF.va 31 120
            rw [if_pos (by kernel_rfl)]
            go_simp
            exact hK _ _ _ rfl hS (Below.refl _ _) rfl
           case o33 =>
            intro dn a w' _ hS hF K hK
            obtain ⟨v121, h121, rfl⟩ := hF.va 32 121
            rw [if_neg (by rw [wanted_no 32 rfl (by kernel_rfl) h121]; decide)]
            exact hK _ _ _ rfl hS (Below.refl _ _) rfl
           case o34 =>
            intro dn a w' _ hS hF K hK
            obtain ⟨v121, h121, rfl⟩ := hF.va 32 121
            rw [if_neg (by rw [wanted_no 32 rfl (by kernel_rfl) h121]; decide)]
            exact hK _ _ _ rfl hS (Below.refl _ _) rfl
           case o35 =>
            intro dn a w' _ hS hF K hK
            obtain ⟨v121, h121, rfl⟩ := hF.va 32 121
            rw [if_neg (by rw [wanted_no 32 rfl (by kernel_rfl) h121]; decide)]
            exact hK _ _ _ rfl hS (Below.refl _ _) rfl
           case o36 =>
            intro dn a w' _ hS hF K hK
            obtain ⟨v121, h121, rfl⟩ := hF.va 32 121
            rw [if_neg (by rw [wanted_no 32 rfl (by kernel_rfl) h121]; decide)]
            exact hK _ _ _ rfl hS (Below.refl _ _) rfl
           case o37 =>
            intro dn a w' _ hS hF K hK
            obtain ⟨v121, h121, rfl⟩ := hF.va 32 121
            rw [if_neg (by rw [wanted_no 32 rfl (by kernel_rfl) h121]; decide)]
            exact hK _ _ _ rfl hS (Below.refl _ _) rfl
           case o38 =>
            intro dn a w' _ hS hF K hK
            obtain ⟨v121, h121, rfl⟩ := hF.va 32 121
            rw [if_neg (by rw [wanted_no 32 rfl (by kernel_rfl) h121]; decide)]
            exact hK _ _ _ rfl hS (Below.refl _ _) rfl
           case o39 =>
            intro dn a w' _ hS hF K hK
            obtain ⟨v121, h121, rfl⟩ := hF.va 32 121
            rw [if_neg (by rw [wanted_no 32 rfl (by kernel_rfl) h121]; decide)]
            exact hK _ _ _ rfl hS (Below.refl _ _) rfl
           case o40 =>
            intro dn a w' _ hS hF K hK
            obtain ⟨v121, h121, rfl⟩ := hF.va 32 121
            obtain ⟨v128, h128, rfl⟩ := hF.va 39 128
            rw [if_pos (by kernel_rfl)]
            go_simp
            exact hK _ _ _ rfl hS (Below.refl _ _) rfl
           case hmono =>
            intro i j v w1 w2 _ _ _ _ _ hv _
            exact hv
           case hend =>
            intro dn w6 vs_ hS hv
            have hvL : vs_ 40 = .bool true := hv 40 (by decide)
            clear hv
            have HS6 := hid hS
            simp only [putsL, Nat.reduceAdd, Act.put, List.setIfInBounds_toArray, List.set_cons_zero, List.set_cons_succ, hvL]
            go_wp2
            go_ret
            exact ⟨ret_bool HZ.out.symm, HBW2.out.trans (HS6.out.mono HBW2.out.size)⟩
          have hnc : (fc != 0) = false := by rw [hfc]; rfl
          cases hpu : fcode.all (fun i => pureO i.op) with
          | false =>
           have HZ := hid (HNj.out (by rw [hmvj, hpu]; simp))
           clear hfc hp hmvj
           go_wp2_with fail
           refine wp_region_invA (fun _ w' => Below wr.heap.size wr w') (fun _ w' w'' => Below w'.heap.size w' w'') (fun i vv w' => match i with
            | 0 => vv = .int .i64 (n : Int)
            | 1 => vv = .pointer (some ⟨w.heap.size, 0, none⟩)
            | 2 => vv = .slice (some ⟨q, oq, none⟩) fs.length fcap
            | 3 => vv = .int .i64 (fs.length : Int)
            | 4 => vv = .int .i64 ((fs.length : Int) - 1)
            | 5 => vv = .bool true
            | 6 => vv = .bool false
            | 7 => vv = .bool false
            | 8 => vv = .pointer (some ⟨w.heap.size, 0, none⟩)
            | 9 => vv = .slice (some ⟨q, oq, none⟩) fs.length fcap
            | 10 => vv = .int .i64 (n : Int)
            | 11 => vv = .pointer (some ⟨q, oq + n * 4, none⟩)
            | 12 => vv = .pointer (some ⟨q, oq + n * 4, none⟩)
            | 13 => vv = .int .i64 fp
            | 14 => vv = .pointer (some ⟨w.heap.size + 1, 1, none⟩)
            | 15 => vv = .slice (some ⟨b, o, none⟩) vs.length vcap
            | 16 => vv = .int .i64 (iv : Int)
            | 17 => vv = .pointer (some ⟨b, o + iv * 2, none⟩)
            | 18 => vv = .pointer (some ⟨b, o + iv * 2 + 1, none⟩)
            | 19 => vv = .slice a0 f0.length cap0
            | 20 => vv = .int .i64 (f0.length : Int)
            | 21 => vv = .bool false
            | 22 => vv = .bool false
            | 23 => vv = .bool false
            | 24 => vv = .pointer (some ⟨w.heap.size, 0, none⟩)
            | 25 => vv = .slice (some ⟨q, oq, none⟩) fs.length fcap
            | 26 => vv = .int .i64 (n : Int)
            | 27 => vv = .pointer (some ⟨q, oq + n * 4, none⟩)
            | 28 => vv = .pointer (some ⟨q, oq + n * 4 + 2, none⟩)
            | 29 => vv = .int .i64 fc
            | 30 => vv = .bool false
            | 31 => vv = .bool false
            | 32 => vv = .bool false
            | 33 => vv = .pointer (some ⟨w.heap.size, 0, none⟩)
            | 34 => vv = .slice (some ⟨q, oq, none⟩) fs.length fcap
            | 35 => vv = .int .i64 (n : Int)
            | 36 => vv = .pointer (some ⟨q, oq + n * 4, none⟩)
            | 37 => vv = .agg #[.int .i64 fp, .int .i64 fl, .int .i64 fc, .slice fad fcode.length fcap2]
            | 38 => vv = .bool false
            | 39 => vv = .bool true
            | 40 => vv = .bool true
            | _ => True) (by kernel_rfl) (by kernel_rfl) (Below.refl _ _).drew ?hmono ⟨?o0, ?o1, ?o2, ?o3, ?o4, ?o5, ?o6, ?o7, ?o8, ?o9, ?o10, ?o11, ?o12, ?o13, ?o14, ?o15, ?o16, ?o17, ?o18, ?o19, ?o20, ?o21, ?o22, ?o23, ?o24, ?o25, ?o26, ?o27, ?o28, ?o29, ?o30, ?o31, ?o32, ?o33, ?o34, ?o35, ?o36, ?o37, ?o38, ?o39, ?o40, trivial⟩ ?hend
           case o0 =>
            intro dn a w' _ hS hF K hK
            have h8 := hF.out 8 (by kernel_rfl) rfl
            rw [if_pos (by kernel_rfl)]
            go_simp
            exact hK _ _ _ rfl hS (Below.refl _ _) rfl
           case o1 =>
            intro dn a w' _ hS hF K hK
            have h2 := hF.out 2 (by kernel_rfl) rfl
            rw [if_pos (by kernel_rfl)]
            go_simp
            exact hK _ _ _ rfl hS (Below.refl _ _) rfl
           case o2 =>
            intro dn a w' _ hS hF K hK
            obtain ⟨v90, h90, rfl⟩ := hF.va 1 90
            have c0' := cx hS c0
            have r1' := cx hS r1
            have y1' := cx hS y1
            have x0' := cx hS x0
            have x1' := cx hS x1
            have x2' := cx hS x2
            have x3' := cx hS x3
            rw [if_pos (by kernel_rfl)]
            go_simp
            exact hK _ _ _ rfl hS (Below.refl _ _) rfl
           case o3 =>
            intro dn a w' _ hS hF K hK
            obtain ⟨v91, h91, rfl⟩ := hF.va 2 91
            rw [if_pos (by kernel_rfl)]
            go_simp
            exact hK _ _ _ rfl hS (Below.refl _ _) rfl
           case o4 =>
            intro dn a w' _ hS hF K hK
            obtain ⟨v92, h92, rfl⟩ := hF.va 3 92
            rw [if_pos (by kernel_rfl)]
            go_simp
            have hwl : IntKind.i64.wrap ((fs.length : Int) - 1) = fs.length - 1 := wrap_len hfb
            rw [hwl]
            exact hK _ _ _ rfl hS (Below.refl _ _) rfl
           case o5 =>
            intro dn a w' _ hS hF K hK
            obtain ⟨v89, h89, rfl⟩ := hF.va 0 89
            obtain ⟨v93, h93, rfl⟩ := hF.va 4 93
            rw [if_pos (by kernel_rfl)]
            go_simp
            refine (HH.In_any _ 0 _ w').mono ?_
            rintro e w'' ⟨rfl, rfl⟩
            rw [hI]
            exact hK _ _ _ rfl hS (Below.refl _ _) rfl
           case o6 =>
            intro dn a w' _ hS hF K hK
            obtain ⟨v94, h94, rfl⟩ := hF.va 5 94
            rw [if_pos (by kernel_rfl)]
            go_simp
            exact hK _ _ _ rfl hS (Below.refl _ _) rfl
           case o7 =>
            intro dn a w' _ hS hF K hK
            obtain ⟨v95, h95, rfl⟩ := hF.va 6 95
            rw [if_pos (by kernel_rfl)]
            go_simp
            exact hK _ _ _ rfl hS (Below.refl _ _) rfl
           case o8 =>
            intro dn a w' _ hS hF K hK
            have h2 := hF.out 2 (by kernel_rfl) rfl
            obtain ⟨v96, h96, rfl⟩ := hF.va 7 96
            rw [if_pos (wanted_yes 7 rfl (by kernel_rfl) h96)]
            go_simp
            exact hK _ _ _ rfl hS (Below.refl _ _) rfl
           case o9 =>
            intro dn a w' _ hS hF K hK
            obtain ⟨v97, h97, rfl⟩ := hF.va 8 97
            obtain ⟨v96, h96, rfl⟩ := hF.va 7 96
            have c0' := cx hS c0
            have r1' := cx hS r1
            have y1' := cx hS y1
            have x0' := cx hS x0
            have x1' := cx hS x1
            have x2' := cx hS x2
            have x3' := cx hS x3
            rw [if_pos (wanted_yes 7 rfl (by kernel_rfl) h96)]
            go_simp
            exact hK _ _ _ rfl hS (Below.refl _ _) rfl
           case o10 =>
            intro dn a w' _ hS hF K hK
            have h8 := hF.out 8 (by kernel_rfl) rfl
            obtain ⟨v96, h96, rfl⟩ := hF.va 7 96
            rw [if_pos (wanted_yes 7 rfl (by kernel_rfl) h96)]
            go_simp
            exact hK _ _ _ rfl hS (Below.refl _ _) rfl
           case o11 =>
            intro dn a w' _ hS hF K hK
            obtain ⟨v98, h98, rfl⟩ := hF.va 9 98
            obtain ⟨v99, h99, rfl⟩ := hF.va 10 99
            obtain ⟨v96, h96, rfl⟩ := hF.va 7 96
            rw [if_pos (wanted_yes 7 rfl (by kernel_rfl) h96)]
            go_simp
            exact hK _ _ _ rfl hS (Below.refl _ _) rfl
           case o12 =>
            intro dn a w' _ hS hF K hK
            obtain ⟨v100, h100, rfl⟩ := hF.va 11 100
            obtain ⟨v96, h96, rfl⟩ := hF.va 7 96
            rw [if_pos (wanted_yes 7 rfl (by kernel_rfl) h96)]
            go_simp
            exact hK _ _ _ rfl hS (Below.refl _ _) rfl
           case o13 =>
            intro dn a w' _ hS hF K hK
            obtain ⟨v101, h101, rfl⟩ := hF.va 12 101
            obtain ⟨v96, h96, rfl⟩ := hF.va 7 96
            have c0' := cx hS c0
            have r1' := cx hS r1
            have y1' := cx hS y1
            have x0' := cx hS x0
            have x1' := cx hS x1
            have x2' := cx hS x2
            have x3' := cx hS x3
            rw [if_pos (wanted_yes 7 rfl (by kernel_rfl) h96)]
            go_simp
            exact hK _ _ _ rfl hS (Below.refl _ _) rfl
           case o14 =>
            intro dn a w' _ hS hF K hK
            have h3 := hF.out 3 (by kernel_rfl) rfl
            obtain ⟨v96, h96, rfl⟩ := hF.va 7 96
            rw [if_pos (wanted_yes 7 rfl (by kernel_rfl) h96)]
            go_simp
            exact hK _ _ _ rfl hS (Below.refl _ _) rfl
           case o15 =>
            intro dn a w' _ hS hF K hK
            obtain ⟨v103, h103, rfl⟩ := hF.va 14 103
            obtain ⟨v96, h96, rfl⟩ := hF.va 7 96
            have c0' := cx hS c0
            have r1' := cx hS r1
            have y1' := cx hS y1
            have x0' := cx hS x0
            have x1' := cx hS x1
            have x2' := cx hS x2
            have x3' := cx hS x3
            rw [if_pos (wanted_yes 7 rfl (by kernel_rfl) h96)]
            go_simp
            exact hK _ _ _ rfl hS (Below.refl _ _) rfl
           case o16 =>
            intro dn a w' _ hS hF K hK
            have h6 := hF.out 6 (by kernel_rfl) rfl
            obtain ⟨v96, h96, rfl⟩ := hF.va 7 96
            rw [if_pos (wanted_yes 7 rfl (by kernel_rfl) h96)]
            go_simp
            exact hK _ _ _ rfl hS (Below.refl _ _) rfl
           case o17 =>
            intro dn a w' _ hS hF K hK
            obtain ⟨v104, h104, rfl⟩ := hF.va 15 104
            obtain ⟨v105, h105, rfl⟩ := hF.va 16 105
            obtain ⟨v96, h96, rfl⟩ := hF.va 7 96
            rw [if_pos (wanted_yes 7 rfl (by kernel_rfl) h96)]
            go_simp
            exact hK _ _ _ rfl hS (Below.refl _ _) rfl
           case o18 =>
            intro dn a w' _ hS hF K hK
            obtain ⟨v106, h106, rfl⟩ := hF.va 17 106
            obtain ⟨v96, h96, rfl⟩ := hF.va 7 96
            rw [if_pos (wanted_yes 7 rfl (by kernel_rfl) h96)]
            go_simp
            exact hK _ _ _ rfl hS (Below.refl _ _) rfl
           case o19 =>
            intro dn a w' _ hS hF K hK
            obtain ⟨v107, h107, rfl⟩ := hF.va 18 107
            obtain ⟨v96, h96, rfl⟩ := hF.va 7 96
            have c0' := cx hS c0
            have r1' := cx hS r1
            have y1' := cx hS y1
            have x0' := cx hS x0
            have x1' := cx hS x1
            have x2' := cx hS x2
            have x3' := cx hS x3
            rw [if_pos (wanted_yes 7 rfl (by kernel_rfl) h96)]
            go_simp
            exact hK _ _ _ rfl hS (Below.refl _ _) rfl
           case o20 =>
            intro dn a w' _ hS hF K hK
            obtain ⟨v108, h108, rfl⟩ := hF.va 19 108
            obtain ⟨v96, h96, rfl⟩ := hF.va 7 96
            rw [if_pos (wanted_yes 7 rfl (by kernel_rfl) h96)]
            go_simp
            exact hK _ _ _ rfl hS (Below.refl _ _) rfl
           case o21 =>
            intro dn a w' _ hS hF K hK
            obtain ⟨v102, h102, rfl⟩ := hF.va 13 102
            obtain ⟨v109, h109, rfl⟩ := hF.va 20 109
            obtain ⟨v96, h96, rfl⟩ := hF.va 7 96
            rw [if_pos (wanted_yes 7 rfl (by kernel_rfl) h96)]
            go_simp
            exact hK _ _ _ rfl hS (Below.refl _ _) rfl
           case o22 =>
            intro dn a w' _ hS hF K hK
            obtain ⟨v96, h96, rfl⟩ := hF.va 7 96
            obtain ⟨v110, h110, rfl⟩ := hF.va 21 110
            rw [if_pos (by kernel_rfl)]
            go_simp
            exact hK _ _ _ rfl hS (Below.refl _ _) rfl
           case o23 =>
            intro dn a w' _ hS hF K hK
            obtain ⟨v111, h111, rfl⟩ := hF.va 22 111
            rw [if_pos (by kernel_rfl)]
            go_simp
            exact hK _ _ _ rfl hS (Below.refl _ _) rfl
           case o24 =>
            intro dn a w' _ hS hF K hK
            have h2 := hF.out 2 (by kernel_rfl) rfl
            obtain ⟨v112, h112, rfl⟩ := hF.va 23 112
            rw [if_pos (wanted_yes 23 rfl (by kernel_rfl) h112)]
            go_simp
            exact hK _ _ _ rfl hS (Below.refl _ _) rfl
           case o25 =>
            intro dn a w' _ hS hF K hK
            obtain ⟨v113, h113, rfl⟩ := hF.va 24 113
            obtain ⟨v112, h112, rfl⟩ := hF.va 23 112
            have c0' := cx hS c0
            have r1' := cx hS r1
            have y1' := cx hS y1
            have x0' := cx hS x0
            have x1' := cx hS x1
            have x2' := cx hS x2
            have x3' := cx hS x3
            rw [if_pos (wanted_yes 23 rfl (by kernel_rfl) h112)]
            go_simp
            exact hK _ _ _ rfl hS (Below.refl _ _) rfl
           case o26 =>
            intro dn a w' _ hS hF K hK
            have h8 := hF.out 8 (by kernel_rfl) rfl
            obtain ⟨v112, h112, rfl⟩ := hF.va 23 112
            rw [if_pos (wanted_yes 23 rfl (by kernel_rfl) h112)]
            go_simp
            exact hK _ _ _ rfl hS (Below.refl _ _) rfl
           case o27 =>
            intro dn a w' _ hS hF K hK
            obtain ⟨v114, h114, rfl⟩ := hF.va 25 114
            obtain ⟨v115, h115, rfl⟩ := hF.va 26 115
            obtain ⟨v112, h112, rfl⟩ := hF.va 23 112
            rw [if_pos (wanted_yes 23 rfl (by kernel_rfl) h112)]
            go_simp
            exact hK _ _ _ rfl hS (Below.refl _ _) rfl
           case o28 =>
            intro dn a w' _ hS hF K hK
            obtain ⟨v116, h116, rfl⟩ := hF.va 27 116
            obtain ⟨v112, h112, rfl⟩ := hF.va 23 112
            rw [if_pos (wanted_yes 23 rfl (by kernel_rfl) h112)]
            go_simp
            exact hK _ _ _ rfl hS (Below.refl _ _) rfl
           case o29 =>
            intro dn a w' _ hS hF K hK
            obtain ⟨v117, h117, rfl⟩ := hF.va 28 117
            obtain ⟨v112, h112, rfl⟩ := hF.va 23 112
            have c0' := cx hS c0
            have r1' := cx hS r1
            have y1' := cx hS y1
            have x0' := cx hS x0
            have x1' := cx hS x1
            have x2' := cx hS x2
            have x3' := cx hS x3
            rw [if_pos (wanted_yes 23 rfl (by kernel_rfl) h112)]
            go_simp
            exact hK _ _ _ rfl hS (Below.refl _ _) rfl
           case o30 =>
            intro dn a w' _ hS hF K hK
            obtain ⟨v118, h118, rfl⟩ := hF.va 29 118
            obtain ⟨v112, h112, rfl⟩ := hF.va 23 112
            rw [if_pos (wanted_yes 23 rfl (by kernel_rfl) h112)]
            go_simp
            exact hK _ _ _ rfl hS (Below.refl _ _) rfl
           case o31 =>
            intro dn a w' _ hS hF K hK
            obtain ⟨v112, h112, rfl⟩ := hF.va 23 112
            obtain ⟨v119, h119, rfl⟩ := hF.va 30 119
            rw [if_pos (by kernel_rfl)]
            go_simp
            exact hK _ _ _ rfl hS (Below.refl _ _) rfl
           case o32 =>
            intro dn a w' _ hS hF K hK
            obtain ⟨v120, h120, rfl⟩ := hF.va 31 120
            rw [if_pos (by kernel_rfl)]
            go_simp
            exact hK _ _ _ rfl hS (Below.refl _ _) rfl
           case o33 =>
            intro dn a w' _ hS hF K hK
            have h2 := hF.out 2 (by kernel_rfl) rfl
            obtain ⟨v121, h121, rfl⟩ := hF.va 32 121
            rw [if_pos (wanted_yes 32 rfl (by kernel_rfl) h121)]
            go_simp
            exact hK _ _ _ rfl hS (Below.refl _ _) rfl
           case o34 =>
            intro dn a w' _ hS hF K hK
            obtain ⟨v122, h122, rfl⟩ := hF.va 33 122
            obtain ⟨v121, h121, rfl⟩ := hF.va 32 121
            have c0' := cx hS c0
            have r1' := cx hS r1
            have y1' := cx hS y1
            have x0' := cx hS x0
            have x1' := cx hS x1
            have x2' := cx hS x2
            have x3' := cx hS x3
            rw [if_pos (wanted_yes 32 rfl (by kernel_rfl) h121)]
            go_simp
            exact hK _ _ _ rfl hS (Below.refl _ _) rfl
           case o35 =>
            intro dn a w' _ hS hF K hK
            have h8 := hF.out 8 (by kernel_rfl) rfl
            obtain ⟨v121, h121, rfl⟩ := hF.va 32 121
            rw [if_pos (wanted_yes 32 rfl (by kernel_rfl) h121)]
            go_simp
            exact hK _ _ _ rfl hS (Below.refl _ _) rfl
           case o36 =>
            intro dn a w' _ hS hF K hK
            obtain ⟨v123, h123, rfl⟩ := hF.va 34 123
            obtain ⟨v124, h124, rfl⟩ := hF.va 35 124
            obtain ⟨v121, h121, rfl⟩ := hF.va 32 121
            rw [if_pos (wanted_yes 32 rfl (by kernel_rfl) h121)]
            go_simp
            exact hK _ _ _ rfl hS (Below.refl _ _) rfl
           case o37 =>
            intro dn a w' _ hS hF K hK
            obtain ⟨v125, h125, rfl⟩ := hF.va 36 125
            obtain ⟨v121, h121, rfl⟩ := hF.va 32 121
            have c0' := cx hS c0
            have r1' := cx hS r1
            have y1' := cx hS y1
            have x0' := cx hS x0
            have x1' := cx hS x1
            have x2' := cx hS x2
            have x3' := cx hS x3
            rw [if_pos (wanted_yes 32 rfl (by kernel_rfl) h121)]
            go_simp
            exact hK _ _ _ rfl hS (Below.refl _ _) rfl
           case o38 =>
            intro dn a w' _ hS hF K hK
            obtain ⟨v126, h126, rfl⟩ := hF.va 37 126
            obtain ⟨v121, h121, rfl⟩ := hF.va 32 121
            rw [if_pos (wanted_yes 32 rfl (by kernel_rfl) h121)]
            go_simp
            refine (pureMay_any fp fl fc fad fcode fcap2 w' (Cs.below HFc.out hS hS.size) hfcl).mono ?_
            rintro e w'' ⟨rfl, hb⟩
            rw [hpu]
            exact hK _ _ _ rfl (hS.trans (hb.mono hS.size)) hb rfl
           case o39 =>
            intro dn a w' _ hS hF K hK
            obtain ⟨v127, h127, rfl⟩ := hF.va 38 127
            obtain ⟨v121, h121, rfl⟩ := hF.va 32 121
            rw [if_pos (wanted_yes 32 rfl (by kernel_rfl) h121)]
            go_simp
            exact hK _ _ _ rfl hS (Below.refl _ _) rfl
           case o40 =>
            intro dn a w' _ hS hF K hK
            obtain ⟨v121, h121, rfl⟩ := hF.va 32 121
            obtain ⟨v128, h128, rfl⟩ := hF.va 39 128
            rw [if_pos (by kernel_rfl)]
            go_simp
            exact hK _ _ _ rfl hS (Below.refl _ _) rfl
           case hmono =>
            intro i j v w1 w2 _ _ _ _ _ hv _
            exact hv
           case hend =>
            intro dn w6 vs_ hS hv
            have hvL : vs_ 40 = .bool true := hv 40 (by decide)
            clear hv
            have HS6 := hid hS
            simp only [putsL, Nat.reduceAdd, Act.put, List.setIfInBounds_toArray, List.set_cons_zero, List.set_cons_succ, hvL]
            go_wp2
            go_ret
            exact ⟨ret_bool HZ.out.symm, HBW2.out.trans (HS6.out.mono HBW2.out.size)⟩
          | true =>
           have HZ := hid (HYj.out (by rw [hmvj, hpu, hp, hfc]; simp))
           clear hfc hp hmvj
           go_wp2_with fail
           refine wp_region_invA (fun _ w' => Below wr.heap.size wr w') (fun _ w' w'' => Below w'.heap.size w' w'') (fun i vv w' => match i with
            | 0 => vv = .int .i64 (n : Int)
            | 1 => vv = .pointer (some ⟨w.heap.size, 0, none⟩)
            | 2 => vv = .slice (some ⟨q, oq, none⟩) fs.length fcap
            | 3 => vv = .int .i64 (fs.length : Int)
            | 4 => vv = .int .i64 ((fs.length : Int) - 1)
            | 5 => vv = .bool true
            | 6 => vv = .bool false
            | 7 => vv = .bool false
            | 8 => vv = .pointer (some ⟨w.heap.size, 0, none⟩)
            | 9 => vv = .slice (some ⟨q, oq, none⟩) fs.length fcap
            | 10 => vv = .int .i64 (n : Int)
            | 11 => vv = .pointer (some ⟨q, oq + n * 4, none⟩)
            | 12 => vv = .pointer (some ⟨q, oq + n * 4, none⟩)
            | 13 => vv = .int .i64 fp
            | 14 => vv = .pointer (some ⟨w.heap.size + 1, 1, none⟩)
            | 15 => vv = .slice (some ⟨b, o, none⟩) vs.length vcap
            | 16 => vv = .int .i64 (iv : Int)
            | 17 => vv = .pointer (some ⟨b, o + iv * 2, none⟩)
            | 18 => vv = .pointer (some ⟨b, o + iv * 2 + 1, none⟩)
            | 19 => vv = .slice a0 f0.length cap0
            | 20 => vv = .int .i64 (f0.length : Int)
            | 21 => vv = .bool false
            | 22 => vv = .bool false
            | 23 => vv = .bool false
            | 24 => vv = .pointer (some ⟨w.heap.size, 0, none⟩)
            | 25 => vv = .slice (some ⟨q, oq, none⟩) fs.length fcap
            | 26 => vv = .int .i64 (n : Int)
            | 27 => vv = .pointer (some ⟨q, oq + n * 4, none⟩)
            | 28 => vv = .pointer (some ⟨q, oq + n * 4 + 2, none⟩)
            | 29 => vv = .int .i64 fc
            | 30 => vv = .bool false
            | 31 => vv = .bool false
            | 32 => vv = .bool false
            | 33 => vv = .pointer (some ⟨w.heap.size, 0, none⟩)
            | 34 => vv = .slice (some ⟨q, oq, none⟩) fs.length fcap
            | 35 => vv = .int .i64 (n : Int)
            | 36 => vv = .pointer (some ⟨q, oq + n * 4, none⟩)
            | 37 => vv = .agg #[.int .i64 fp, .int .i64 fl, .int .i64 fc, .slice fad fcode.length fcap2]
            | 38 => vv = .bool true
            | 39 => vv = .bool false
            | 40 => vv = .bool false
            | _ => True) (by kernel_rfl) (by kernel_rfl) (Below.refl _ _).drew ?hmono ⟨?o0, ?o1, ?o2, ?o3, ?o4, ?o5, ?o6, ?o7, ?o8, ?o9, ?o10, ?o11, ?o12, ?o13, ?o14, ?o15, ?o16, ?o17, ?o18, ?o19, ?o20, ?o21, ?o22, ?o23, ?o24, ?o25, ?o26, ?o27, ?o28, ?o29, ?o30, ?o31, ?o32, ?o33, ?o34, ?o35, ?o36, ?o37, ?o38, ?o39, ?o40, trivial⟩ ?hend
           case o0 =>
            intro dn a w' _ hS hF K hK
            have h8 := hF.out 8 (by kernel_rfl) rfl
            rw [if_pos (by kernel_rfl)]
            go_simp
            exact hK _ _ _ rfl hS (Below.refl _ _) rfl
           case o1 =>
            intro dn a w' _ hS hF K hK
            have h2 := hF.out 2 (by kernel_rfl) rfl
            rw [if_pos (by kernel_rfl)]
            go_simp
            exact hK _ _ _ rfl hS (Below.refl _ _) rfl
           case o2 =>
            intro dn a w' _ hS hF K hK
            obtain ⟨v90, h90, rfl⟩ := hF.va 1 90
            have c0' := cx hS c0
            have r1' := cx hS r1
            have y1' := cx hS y1
            have x0' := cx hS x0
            have x1' := cx hS x1
            have x2' := cx hS x2
            have x3' := cx hS x3
            rw [if_pos (by kernel_rfl)]
            go_simp
            exact hK _ _ _ rfl hS (Below.refl _ _) rfl
           case o3 =>
            intro dn a w' _ hS hF K hK
            obtain ⟨v91, h91, rfl⟩ := hF.va 2 91
            rw [if_pos (by kernel_rfl)]
            go_simp
            exact hK _ _ _ rfl hS (Below.refl _ _) rfl
           case o4 =>
            intro dn a w' _ hS hF K hK
            obtain ⟨v92, h92, rfl⟩ := hF.va 3 92
            rw [if_pos (by kernel_rfl)]
            go_simp
            have hwl : IntKind.i64.wrap ((fs.length : Int) - 1) = fs.length - 1 := wrap_len hfb
            rw [hwl]
            exact hK _ _ _ rfl hS (Below.refl _ _) rfl
           case o5 =>
            intro dn a w' _ hS hF K hK
            obtain ⟨v89, h89, rfl⟩ := hF.va 0 89
            obtain ⟨v93, h93, rfl⟩ := hF.va 4 93
            rw [if_pos (by kernel_rfl)]
            go_simp
            refine (HH.In_any _ 0 _ w').mono ?_
            rintro e w'' ⟨rfl, rfl⟩
            rw [hI]
            exact hK _ _ _ rfl hS (Below.refl _ _) rfl
           case o6 =>
            intro dn a w' _ hS hF K hK
            obtain ⟨v94, h94, rfl⟩ := hF.va 5 94
            rw [if_pos (by kernel_rfl)]
            go_simp
            exact hK _ _ _ rfl hS (Below.refl _ _) rfl
           case o7 =>
            intro dn a w' _ hS hF K hK
            obtain ⟨v95, h95, rfl⟩ := hF.va 6 95
            rw [if_pos (by kernel_rfl)]
            go_simp
            exact hK _ _ _ rfl hS (Below.refl _ _) rfl
           case o8 =>
            intro dn a w' _ hS hF K hK
            have h2 := hF.out 2 (by kernel_rfl) rfl
            obtain ⟨v96, h96, rfl⟩ := hF.va 7 96
            rw [if_pos (wanted_yes 7 rfl (by kernel_rfl) h96)]
            go_simp
            exact hK _ _ _ rfl hS (Below.refl _ _) rfl
           case o9 =>
            intro dn a w' _ hS hF K hK
            obtain ⟨v97, h97, rfl⟩ := hF.va 8 97
            obtain ⟨v96, h96, rfl⟩ := hF.va 7 96
            have c0' := cx hS c0
            have r1' := cx hS r1
            have y1' := cx hS y1
            have x0' := cx hS x0
            have x1' := cx hS x1
            have x2' := cx hS x2
            have x3' := cx hS x3
            rw [if_pos (wanted_yes 7 rfl (by kernel_rfl) h96)]
            go_simp
            exact hK _ _ _ rfl hS (Below.refl _ _) rfl
           case o10 =>
            intro dn a w' _ hS hF K hK
            have h8 := hF.out 8 (by kernel_rfl) rfl
            obtain ⟨v96, h96, rfl⟩ := hF.va 7 96
            rw [if_pos (wanted_yes 7 rfl (by kernel_rfl) h96)]
            go_simp
            exact hK _ _ _ rfl hS (Below.refl _ _) rfl
           case o11 =>
            intro dn a w' _ hS hF K hK
            obtain ⟨v98, h98, rfl⟩ := hF.va 9 98
            obtain ⟨v99, h99, rfl⟩ := hF.va 10 99
            obtain ⟨v96, h96, rfl⟩ := hF.va 7 96
            rw [if_pos (wanted_yes 7 rfl (by kernel_rfl) h96)]
            go_simp
            exact hK _ _ _ rfl hS (Below.refl _ _) rfl
           case o12 =>
            intro dn a w' _ hS hF K hK
            obtain ⟨v100, h100, rfl⟩ := hF.va 11 100
            obtain ⟨v96, h96, rfl⟩ := hF.va 7 96
            rw [if_pos (wanted_yes 7 rfl (by kernel_rfl) h96)]
            go_simp
            exact hK _ _ _ rfl hS (Below.refl _ _) rfl
           case o13 =>
            intro dn a w' _ hS hF K hK
            obtain ⟨v101, h101, rfl⟩ := hF.va 12 101
            obtain ⟨v96, h96, rfl⟩ := hF.va 7 96
            have c0' := cx hS c0
            have r1' := cx hS r1
            have y1' := cx hS y1
            have x0' := cx hS x0
            have x1' := cx hS x1
            have x2' := cx hS x2
            have x3' := cx hS x3
            rw [if_pos (wanted_yes 7 rfl (by kernel_rfl) h96)]
            go_simp
            exact hK _ _ _ rfl hS (Below.refl _ _) rfl
           case o14 =>
            intro dn a w' _ hS hF K hK
            have h3 := hF.out 3 (by kernel_rfl) rfl
            obtain ⟨v96, h96, rfl⟩ := hF.va 7 96
            rw [if_pos (wanted_yes 7 rfl (by kernel_rfl) h96)]
            go_simp
            exact hK _ _ _ rfl hS (Below.refl _ _) rfl
           case o15 =>
            intro dn a w' _ hS hF K hK
            obtain ⟨v103, h103, rfl⟩ := hF.va 14 103
            obtain ⟨v96, h96, rfl⟩ := hF.va 7 96
            have c0' := cx hS c0
            have r1' := cx hS r1
            have y1' := cx hS y1
            have x0' := cx hS x0
            have x1' := cx hS x1
            have x2' := cx hS x2
            have x3' := cx hS x3
            rw [if_pos (wanted_yes 7 rfl (by kernel_rfl) h96)]
            go_simp
            exact hK _ _ _ rfl hS (Below.refl _ _) rfl
           case o16 =>
            intro dn a w' _ hS hF K hK
            have h6 := hF.out 6 (by kernel_rfl) rfl
            obtain ⟨v96, h96, rfl⟩ := hF.va 7 96
            rw [if_pos (wanted_yes 7 rfl (by kernel_rfl) h96)]
            go_simp
            exact hK _ _ _ rfl hS (Below.refl _ _) rfl
           case o17 =>
            intro dn a w' _ hS hF K hK
            obtain ⟨v104, h104, rfl⟩ := hF.va 15 104
            obtain ⟨v105, h105, rfl⟩ := hF.va 16 105
            obtain ⟨v96, h96, rfl⟩ := hF.va 7 96
            rw [if_pos (wanted_yes 7 rfl (by kernel_rfl) h96)]
            go_simp
            exact hK _ _ _ rfl hS (Below.refl _ _) rfl
           case o18 =>
            intro dn a w' _ hS hF K hK
            obtain ⟨v106, h106, rfl⟩ := hF.va 17 106
            obtain ⟨v96, h96, rfl⟩ := hF.va 7 96
            rw [if_pos (wanted_yes 7 rfl (by kernel_rfl) h96)]
            go_simp
            exact hK _ _ _ rfl hS (Below.refl _ _) rfl
           case o19 =>
            intro dn a w' _ hS hF K hK
            obtain ⟨v107, h107, rfl⟩ := hF.va 18 107
            obtain ⟨v96, h96, rfl⟩ := hF.va 7 96
            have c0' := cx hS c0
            have r1' := cx hS r1
            have y1' := cx hS y1
            have x0' := cx hS x0
            have x1' := cx hS x1
            have x2' := cx hS x2
            have x3' := cx hS x3
            rw [if_pos (wanted_yes 7 rfl (by kernel_rfl) h96)]
            go_simp
            exact hK _ _ _ rfl hS (Below.refl _ _) rfl
           case o20 =>
            intro dn a w' _ hS hF K hK
            obtain ⟨v108, h108, rfl⟩ := hF.va 19 108
            obtain ⟨v96, h96, rfl⟩ := hF.va 7 96
            rw [if_pos (wanted_yes 7 rfl (by kernel_rfl) h96)]
            go_simp
            exact hK _ _ _ rfl hS (Below.refl _ _) rfl
           case o21 =>
            intro dn a w' _ hS hF K hK
            obtain ⟨v102, h102, rfl⟩ := hF.va 13 102
            obtain ⟨v109, h109, rfl⟩ := hF.va 20 109
            obtain ⟨v96, h96, rfl⟩ := hF.va 7 96
            rw [if_pos (wanted_yes 7 rfl (by kernel_rfl) h96)]
            go_simp
            exact hK _ _ _ rfl hS (Below.refl _ _) rfl
           case o22 =>
            intro dn a w' _ hS hF K hK
            obtain ⟨v96, h96, rfl⟩ := hF.va 7 96
            obtain ⟨v110, h110, rfl⟩ := hF.va 21 110
            rw [if_pos (by kernel_rfl)]
            go_simp
            exact hK _ _ _ rfl hS (Below.refl _ _) rfl
           case o23 =>
            intro dn a w' _ hS hF K hK
            obtain ⟨v111, h111, rfl⟩ := hF.va 22 111
            rw [if_pos (by kernel_rfl)]
            go_simp
            exact hK _ _ _ rfl hS (Below.refl _ _) rfl
           case o24 =>
            intro dn a w' _ hS hF K hK
            have h2 := hF.out 2 (by kernel_rfl) rfl
            obtain ⟨v112, h112, rfl⟩ := hF.va 23 112
            rw [if_pos (wanted_yes 23 rfl (by kernel_rfl) h112)]
            go_simp
            exact hK _ _ _ rfl hS (Below.refl _ _) rfl
           case o25 =>
            intro dn a w' _ hS hF K hK
            obtain ⟨v113, h113, rfl⟩ := hF.va 24 113
            obtain ⟨v112, h112, rfl⟩ := hF.va 23 112
            have c0' := cx hS c0
            have r1' := cx hS r1
            have y1' := cx hS y1
            have x0' := cx hS x0
            have x1' := cx hS x1
            have x2' := cx hS x2
            have x3' := cx hS x3
            rw [if_pos (wanted_yes 23 rfl (by kernel_rfl) h112)]
            go_simp
            exact hK _ _ _ rfl hS (Below.refl _ _) rfl
           case o26 =>
            intro dn a w' _ hS hF K hK
            have h8 := hF.out 8 (by kernel_rfl) rfl
            obtain ⟨v112, h112, rfl⟩ := hF.va 23 112
            rw [if_pos (wanted_yes 23 rfl (by kernel_rfl) h112)]
            go_simp
            exact hK _ _ _ rfl hS (Below.refl _ _) rfl
           case o27 =>
            intro dn a w' _ hS hF K hK
            obtain ⟨v114, h114, rfl⟩ := hF.va 25 114
            obtain ⟨v115, h115, rfl⟩ := hF.va 26 115
            obtain ⟨v112, h112, rfl⟩ := hF.va 23 112
            rw [if_pos (wanted_yes 23 rfl (by kernel_rfl) h112)]
            go_simp
            exact hK _ _ _ rfl hS (Below.refl _ _) rfl
           case o28 =>
            intro dn a w' _ hS hF K hK
            obtain ⟨v116, h116, rfl⟩ := hF.va 27 116
            obtain ⟨v112, h112, rfl⟩ := hF.va 23 112
            rw [if_pos (wanted_yes 23 rfl (by kernel_rfl) h112)]
            go_simp
            exact hK _ _ _ rfl hS (Below.refl _ _) rfl
           case o29 =>
            intro dn a w' _ hS hF K hK
            obtain ⟨v117, h117, rfl⟩ := hF.va 28 117
            obtain ⟨v112, h112, rfl⟩ := hF.va 23 112
            have c0' := cx hS c0
            have r1' := cx hS r1
            have y1' := cx hS y1
            have x0' := cx hS x0
            have x1' := cx hS x1
            have x2' := cx hS x2
            have x3' := cx hS x3
            rw [if_pos (wanted_yes 23 rfl (by kernel_rfl) h112)]
            go_simp
            exact hK _ _ _ rfl hS (Below.refl _ _) rfl
           case o30 =>
            intro dn a w' _ hS hF K hK
            obtain ⟨v118, h118, rfl⟩ := hF.va 29 118
            obtain ⟨v112, h112, rfl⟩ := hF.va 23 112
            rw [if_pos (wanted_yes 23 rfl (by kernel_rfl) h112)]
            go_simp
            exact hK _ _ _ rfl hS (Below.refl _ _) rfl
           case o31 =>
            intro dn a w' _ hS hF K hK
            obtain ⟨v112, h112, rfl⟩ := hF.va 23 112
            obtain ⟨v119, h119, rfl⟩ := hF.va 30 119
            rw [if_pos (by kernel_rfl)]
            go_simp
            exact hK _ _ _ rfl hS (Below.refl _ _) rfl
           case o32 =>
            intro dn a w' _ hS hF K hK
            obtain ⟨v120, h120, rfl⟩ := hF.va 31 120
            rw [if_pos (by kernel_rfl)]
            go_simp
            exact hK _ _ _ rfl hS (Below.refl _ _) rfl
           case o33 =>
            intro dn a w' _ hS hF K hK
            have h2 := hF.out 2 (by kernel_rfl) rfl
            obtain ⟨v121, h121, rfl⟩ := hF.va 32 121
            rw [if_pos (wanted_yes 32 rfl (by kernel_rfl) h121)]
            go_simp
            exact hK _ _ _ rfl hS (Below.refl _ _) rfl
           case o34 =>
            intro dn a w' _ hS hF K hK
            obtain ⟨v122, h122, rfl⟩ := hF.va 33 122
            obtain ⟨v121, h121, rfl⟩ := hF.va 32 121
            have c0' := cx hS c0
            have r1' := cx hS r1
            have y1' := cx hS y1
            have x0' := cx hS x0
            have x1' := cx hS x1
            have x2' := cx hS x2
            have x3' := cx hS x3
            rw [if_pos (wanted_yes 32 rfl (by kernel_rfl) h121)]
            go_simp
            exact hK _ _ _ rfl hS (Below.refl _ _) rfl
           case o35 =>
            intro dn a w' _ hS hF K hK
            have h8 := hF.out 8 (by kernel_rfl) rfl
            obtain ⟨v121, h121, rfl⟩ := hF.va 32 121
            rw [if_pos (wanted_yes 32 rfl (by kernel_rfl) h121)]
            go_simp
            exact hK _ _ _ rfl hS (Below.refl _ _) rfl
           case o36 =>
            intro dn a w' _ hS hF K hK
            obtain ⟨v123, h123, rfl⟩ := hF.va 34 123
            obtain ⟨v124, h124, rfl⟩ := hF.va 35 124
            obtain ⟨v121, h121, rfl⟩ := hF.va 32 121
            rw [if_pos (wanted_yes 32 rfl (by kernel_rfl) h121)]
            go_simp
            exact hK _ _ _ rfl hS (Below.refl _ _) rfl
           case o37 =>
            intro dn a w' _ hS hF K hK
            obtain ⟨v125, h125, rfl⟩ := hF.va 36 125
            obtain ⟨v121, h121, rfl⟩ := hF.va 32 121
            have c0' := cx hS c0
            have r1' := cx hS r1
            have y1' := cx hS y1
            have x0' := cx hS x0
            have x1' := cx hS x1
            have x2' := cx hS x2
            have x3' := cx hS x3
            rw [if_pos (wanted_yes 32 rfl (by kernel_rfl) h121)]
            go_simp
            exact hK _ _ _ rfl hS (Below.refl _ _) rfl
           case o38 =>
            intro dn a w' _ hS hF K hK
            obtain ⟨v126, h126, rfl⟩ := hF.va 37 126
            obtain ⟨v121, h121, rfl⟩ := hF.va 32 121
            rw [if_pos (wanted_yes 32 rfl (by kernel_rfl) h121)]
            go_simp
            refine (pureMay_any fp fl fc fad fcode fcap2 w' (Cs.below HFc.out hS hS.size) hfcl).mono ?_
            rintro e w'' ⟨rfl, hb⟩
            rw [hpu]
            exact hK _ _ _ rfl (hS.trans (hb.mono hS.size)) hb rfl
           case o39 =>
            intro dn a w' _ hS hF K hK
            obtain ⟨v127, h127, rfl⟩ := hF.va 38 127
            obtain ⟨v121, h121, rfl⟩ := hF.va 32 121
            rw [if_pos (wanted_yes 32 rfl (by kernel_rfl) h121)]
            go_simp
            exact hK _ _ _ rfl hS (Below.refl _ _) rfl
           case o40 =>
            intro dn a w' _ hS hF K hK
            obtain ⟨v121, h121, rfl⟩ := hF.va 32 121
            obtain ⟨v128, h128, rfl⟩ := hF.va 39 128
            rw [if_pos (by kernel_rfl)]
            go_simp
            exact hK _ _ _ rfl hS (Below.refl _ _) rfl
           case hmono =>
            intro i j v w1 w2 _ _ _ _ _ hv _
            exact hv
           case hend =>
            intro dn w6 vs_ hS hv
            have hvL : vs_ 40 = .bool false := hv 40 (by decide)
            clear hv
            have HS6 := hid hS
            simp only [putsL, Nat.reduceAdd, Act.put, List.setIfInBounds_toArray, List.set_cons_zero, List.set_cons_succ, hvL]
            go_wp2_with fail
            go_roundw
            case rel => exact ⟨j + 1, by omega, by go_num, HZ.out, HBt.out.trans (HS6.out.mono hzt)⟩
            case measure => simp [intOf]; omega
end Go.Proofs.YtldmanfgmadbfaaGreatDoor
