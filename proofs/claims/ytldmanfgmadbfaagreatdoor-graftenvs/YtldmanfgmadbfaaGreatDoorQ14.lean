/- May a record be: vm's mayBeRec. (Written by wip/tools/mkrec.py.) -/
import Derived.Test.YtldmanfgmadbfaaGreatDoorQ13
import Derived.Test.YtldmanfgmadbfaaGreatDoorQ09
namespace Go.Proofs.YtldmanfgmadbfaaGreatDoor
set_option maxRecDepth 100000
open HH UU VV
open Go.RowKit Go.Maps Go.WideMaps
/-- A version of a record, and the moves to it. -/
def verB (fs : List VV.Fn) (r : Rc) (i : Nat) : Bool := match r.vs[i]? with
 | none => true
 | some s => decide (s.name = r.name) && (decide (shapeI s.name s.fs = 0) && (decide (i = 0) || (match r.ms[i - 1]?, r.vs[i - 1]? with
  | some m, some o => decide (m.l.length = s.fs.length) && m.l.all (moveB fs o.fs.length)
  | _, _ => true)))
def recB (fs : List VV.Fn) (r : Rc) : Bool := belB ((r.vs.length : Int) - 1) 20 && (decide ((r.ms.length : Int) = (r.vs.length : Int) - 1) && (List.range r.vs.length).all (verB fs r))
theorem verB_at {fs : List VV.Fn} {r : Rc} {i : Nat} (h : i < r.vs.length) : verB fs r i = (decide (r.vs[i].name = r.name) && (decide (shapeI r.vs[i].name r.vs[i].fs = 0) && (decide (i = 0) || (match r.ms[i - 1]?, r.vs[i - 1]? with
  | some m, some o => decide (m.l.length = r.vs[i].fs.length) && m.l.all (moveB fs o.fs.length)
  | _, _ => true)))) := by
 unfold verB
 rw [List.getElem?_eq_getElem h]
theorem range_yes {f : Nat → Bool} {k : Nat} (h : (List.range k).all f = true) (hf : f k = true) : (List.range (k + 1)).all f = true := by
 rw [List.range_succ, List.all_append, h]; simp [hf]
theorem range_no {f : Nat → Bool} {n k : Nat} (h : k < n) (hf : f k = false) : (List.range n).all f = false := by
 rw [List.all_eq_false]; exact ⟨k, List.mem_range.2 h, by rw [hf]; simp⟩
set_option maxHeartbeats 8000000 in
theorem mayBeRec_any (ww : Vw) (th : List Th) (x : Rc) (w : World) (hV : ViewAt w ww th) (hx : wfRc x) (hR : subR w (fun b => b < w.heap.size) x) (hbig : bigR x) (hFs : ∀ f, f ∈ ww.x.fs → ∀ i, i ∈ f.code → 1 ≤ i.op ∧ i.op ≤ 22) :
  Calls Tryz.prog 53 #[viewV ww, .agg #[.string x.name, .slice x.va x.vs.length x.vcap, .slice x.ma x.ms.length x.mcap]] w fun e w' => e = .returned (.bool (recB ww.x.fs x)) ∧ Below w.heap.size w w' := by
 have hvl : x.vs.length ≤ 9223372036854775807 := by have := hbig.v; omega
 have hml : x.ms.length ≤ 9223372036854775807 := by have := hbig.m; omega
 obtain ⟨w2, hw2⟩ : ∃ w2, w2 = (w.alloc (.cells #[.slice ww.x.fa ww.x.fs.length ww.x.fcap, .slice ww.x.ga ww.x.gs.length ww.x.gcap, .slice ww.x.ra ww.x.rs.length ww.x.rcap, .slice ww.x.ha ww.x.hs.length ww.x.hcap, .int .i64 ww.lim, finG ww.gq, finR ww.rq, valF ww.vq, .map (some ww.pm)] 45)).alloc (.cells #[.string x.name, .slice x.va x.vs.length x.vcap, .slice x.ma x.ms.length x.mcap] 58) := ⟨_, rfl⟩
 have HB2 := hid (show Below w.heap.size w w2 by rw [hw2]; exact below_2 _ _ _)
 have hz2 : w2.heap.size = w.heap.size + 2 := by rw [hw2]; simp
 have HVB := hid (show VBox w2 w.heap.size ww from by
  rw [hw2]
  exact (vbox_new w ww 45).below ((Below.refl _ _).alloc (Nat.le_refl _) _) (by simp))
 have b0 : w2.cell? ⟨w.heap.size + 1, 0, none⟩ = some (.string x.name) ∧ w2.cell? ⟨w.heap.size + 1, 1, none⟩ = some (.slice x.va x.vs.length x.vcap) ∧ w2.cell? ⟨w.heap.size + 1, 2, none⟩ = some (.slice x.ma x.ms.length x.mcap) := by
  rw [hw2]; refine ⟨?_, ?_, ?_⟩ <;> go_simp
 have HBx := hid b0
 have HV := hid hV
 have HSr := hid hR
 have HX := hid hx
 have HBg := hid hbig
 have H2 := hid hw2
 clear hw2 hV hR hx hbig
 obtain ⟨b0, b1, b2⟩ := b0
 cases h1 : belB ((x.vs.length : Int) - 1) 20 with
 | false =>
  have HR2 := hid (show recB ww.x.fs x = false by unfold recB; rw [h1]; rfl)
  clear b0 b1 b2
  go_enter Tryz.func53, Tryz.ntmps53
  go_wp2_with (go_at_call 48; refine (isBelow_is h1 _).mono ?_; rintro e w' ⟨rfl, rfl⟩)
  go_ret
  exact ⟨ret_bool HR2.out.symm, by have := HB2.out; rw [H2.out] at this; exact this⟩
 | true =>
  by_cases h2 : (x.ms.length : Int) = (x.vs.length : Int) - 1
  case neg =>
   have h2b : ((x.ms.length : Int) != (x.vs.length : Int) - 1) = true := by simp [h2]
   have HR2 := hid (show recB ww.x.fs x = false by unfold recB; simp [h2])
   clear b0 b1 b2
   go_enter Tryz.func53, Tryz.ntmps53
   go_wp2_with (go_at_call 48; refine (isBelow_is h1 _).mono ?_; rintro e w' ⟨rfl, rfl⟩)
   go_ret
   exact ⟨ret_bool HR2.out.symm, by have := HB2.out; rw [H2.out] at this; exact this⟩
  have h2b : ((x.ms.length : Int) != (x.vs.length : Int) - 1) = false := by simp [h2]
  have HR := hid (show recB ww.x.fs x = (List.range x.vs.length).all (verB ww.x.fs x) by unfold recB; rw [h1]; simp [h2])
  have hlen : x.ms.length + 1 = x.vs.length := by omega
  clear h2
  go_enter Tryz.func53, Tryz.ntmps53
  go_wp2_with (go_at_call 48; refine (isBelow_is h1 _).mono ?_; rintro e w' ⟨rfl, rfl⟩)
  rw [← H2.out]
  clear b0 b1 b2
  go_loopw [26] (fun i wr => ∃ k : Nat, k ≤ x.vs.length ∧ i = .int .i64 k ∧ (List.range k).all (verB ww.x.fs x) = true ∧ Below (w.heap.size + 2) w2 wr) (fun i _ => x.vs.length - (intOf i).toNat)
  case atStart => exact ⟨0, Nat.zero_le _, rfl, rfl, Below.refl _ _⟩
  case round =>
   obtain ⟨k, hk, rfl, hall, hbr⟩ := hrel
   have HAl := hid hall
   have HBr := hid hbr
   have HWr := hid (HB2.out.trans (hbr.mono (by omega)))
   have hzr := hbr.size
   clear hall hbr
   by_cases hlt : k < x.vs.length
   ·
    have hlt2 : (k : Int) < x.vs.length := by omega
    obtain ⟨vb, vo, hq, hvb, i0, i1⟩ := sh_at (Cs.below HSr.out.v HWr.out (Nat.le_refl _)) (i := k) hlt
    have HYes := hid (fun h => range_yes (f := verB ww.x.fs x) HAl.out (k := k) h)
    have HNo := hid (fun h => range_no (f := verB ww.x.fs x) (n := x.vs.length) (k := k) hlt h)
    have hve := verB_at (fs := ww.x.fs) (r := x) hlt
    have hws := HX.out.vs _ (List.getElem_mem hlt)
    have hss0 := Cs.below (HSr.out.vs _ (List.getElem_mem hlt)) HWr.out HWr.out.size
    have hbs : (x.vs[k]'hlt).fs.length * 16 ≤ 140737488355328 := HBg.out.vs _ (List.getElem_mem hlt)
    have HVe := hid hve
    clear hve
    generalize x.vs[k]'hlt = sx at i0 i1 hws hss0 hbs HVe
    obtain ⟨sn, sa, scap, ss⟩ := sx
    dsimp only at i0 i1 hws hss0 hbs HVe
    have hsn : sn.size ≤ maxLen := hws.name
    have hsc : ss.length ≤ scap := hws.cap
    have hss : ss.length ≤ 9223372036854775807 := by omega
    have hstr := strs_row hss0 hws.fs
    have hba : Below wr.heap.size wr (wr.alloc (.cells #[.string sn, .slice sa ss.length scap] 65)) := (Below.refl _ _).alloc (Nat.le_refl _) _
    have HBx2 := HBx.out
    obtain ⟨b0, b1, b2⟩ := HBx2
    have r0w := (HBr.out.cell (p := ⟨w.heap.size + 1, 0, none⟩) (by dsimp only; omega)).trans b0
    have r1w := (HBr.out.cell (p := ⟨w.heap.size + 1, 1, none⟩) (by dsimp only; omega)).trans b1
    have r2w := (HBr.out.cell (p := ⟨w.heap.size + 1, 2, none⟩) (by dsimp only; omega)).trans b2
    rw [hq] at r1w
    have hcut : x.va = some ⟨vb, vo, none⟩ := hq
    clear b0 b1 b2
    obtain ⟨wa, hwa⟩ : ∃ wa, wa = wr.alloc (.cells #[.string sn, .slice sa ss.length scap] 65) := ⟨_, rfl⟩
    rw [← hwa] at hba
    have hza : wa.heap.size = wr.heap.size + 1 := by rw [hwa]; simp
    have s0 : wa.cell? ⟨wr.heap.size, 0, none⟩ = some (.string sn) ∧ wa.cell? ⟨wr.heap.size, 1, none⟩ = some (.slice sa ss.length scap) := by
     rw [hwa]; refine ⟨?_, ?_⟩ <;> go_simp
    obtain ⟨s0, s1⟩ := s0
    have r0 := (hba.cell (p := ⟨w.heap.size + 1, 0, none⟩) (by dsimp only; omega)).trans r0w
    have r1 := (hba.cell (p := ⟨w.heap.size + 1, 1, none⟩) (by dsimp only; omega)).trans r1w
    have r2 := (hba.cell (p := ⟨w.heap.size + 1, 2, none⟩) (by dsimp only; omega)).trans r2w
    obtain ⟨vlt, c0, c1, c2, c3, c4, c5, c6, c7, c8⟩ := (HVB.out.below HBr.out (by omega)).below hba (by omega)
    have HBa := hid (HBr.out.trans (hba.mono (by omega)))
    have HWa := hid (HWr.out.trans (hba.mono (by omega)))
    have HVa := hid (HV.out.below HWa.out)
    have HSt := hid ((hstr.below hba).mono hba.size)
    have Ha := hid hwa
    have HQ := hid hcut
    clear hcut hwa hba hstr hss0 hws r0w r1w r2w
    go_wp2_with fail
    rw [← Ha.out]
    clear hq i0 i1
    by_cases hA : sn = x.name
    case neg =>
     have HR2 := hid (HR.out.trans (HNo.out (by rw [HVe.out]; simp [hA])))
     have heq : (sn.toList == x.name.toList) = false := by rw [bytes_eq]; simp [hA]
     clear hA
     refine wp_region_invA (fun _ w' => Below wa.heap.size wa w') (fun _ w' w'' => Below w'.heap.size w' w'') (fun i vv w' => match i with
      | 0 => vv = .pointer (some ⟨wr.heap.size, 0, none⟩)
      | 1 => vv = .string sn
      | 2 => vv = .pointer (some ⟨w.heap.size + 1, 0, none⟩)
      | 3 => vv = .string x.name
      | 4 => vv = .bool true
      | 5 => vv = .bool true
      | 6 => vv = undef
      | 7 => vv = undef
      | 8 => vv = undef
      | 9 => vv = .bool true
      | 10 => vv = .bool true
      | 11 => vv = undef
      | 12 => vv = undef
      | 13 => vv = undef
      | 14 => vv = undef
      | 15 => vv = undef
      | 16 => vv = undef
      | 17 => vv = undef
      | 18 => vv = undef
      | 19 => vv = undef
      | 20 => vv = undef
      | 21 => vv = undef
      | 22 => vv = undef
      | 23 => vv = undef
      | 24 => vv = undef
      | 25 => vv = undef
      | 26 => vv = undef
      | 27 => vv = undef
      | 28 => vv = undef
      | 29 => vv = undef
      | 30 => vv = undef
      | 31 => vv = .bool true
      | _ => True) (by kernel_rfl) (by kernel_rfl) (Below.refl _ _).drew ?hmono ⟨?o0, ?o1, ?o2, ?o3, ?o4, ?o5, ?o6, ?o7, ?o8, ?o9, ?o10, ?o11, ?o12, ?o13, ?o14, ?o15, ?o16, ?o17, ?o18, ?o19, ?o20, ?o21, ?o22, ?o23, ?o24, ?o25, ?o26, ?o27, ?o28, ?o29, ?o30, ?o31, trivial⟩ ?hend
     case o0 =>
      intro dn a w' _ hS hF K hK
      have h6 := hF.out 6 (by kernel_rfl) rfl
      rw [if_pos (by kernel_rfl)]
      go_simp
      exact hK _ _ _ rfl hS (Below.refl _ _) rfl
     case o1 =>
      intro dn a w' _ hS hF K hK
      obtain ⟨v31, h31, rfl⟩ := hF.val 0 31 (by kernel_rfl) (by kernel_rfl)
      have s0' := (hS.cell (by dsimp only; omega)).trans s0
      have s1' := (hS.cell (by dsimp only; omega)).trans s1
      have r0' := (hS.cell (by dsimp only; omega)).trans r0
      rw [if_pos (by kernel_rfl)]
      go_simp
      exact hK _ _ _ rfl hS (Below.refl _ _) rfl
     case o2 =>
      intro dn a w' _ hS hF K hK
      have h3 := hF.out 3 (by kernel_rfl) rfl
      rw [if_pos (by kernel_rfl)]
      go_simp
      exact hK _ _ _ rfl hS (Below.refl _ _) rfl
     case o3 =>
      intro dn a w' _ hS hF K hK
      obtain ⟨v33, h33, rfl⟩ := hF.val 2 33 (by kernel_rfl) (by kernel_rfl)
      have s0' := (hS.cell (by dsimp only; omega)).trans s0
      have s1' := (hS.cell (by dsimp only; omega)).trans s1
      have r0' := (hS.cell (by dsimp only; omega)).trans r0
      rw [if_pos (by kernel_rfl)]
      go_simp
      exact hK _ _ _ rfl hS (Below.refl _ _) rfl
     case o4 =>
      intro dn a w' _ hS hF K hK
      obtain ⟨v32, h32, rfl⟩ := hF.val 1 32 (by kernel_rfl) (by kernel_rfl)
      obtain ⟨v34, h34, rfl⟩ := hF.val 3 34 (by kernel_rfl) (by kernel_rfl)
      rw [if_pos (by kernel_rfl)]
      go_simp
      exact hK _ _ _ rfl hS (Below.refl _ _) (by show Value.bool _ = Value.bool _; simp)
     case o5 =>
      intro dn a w' _ hS hF K hK
      obtain ⟨v35, h35, rfl⟩ := hF.val 4 35 (by kernel_rfl) (by kernel_rfl)
      rw [if_pos (by kernel_rfl)]
      go_simp
      exact hK _ _ _ rfl hS (Below.refl _ _) rfl
     case o6 =>
      intro dn a w' _ hS hF K hK
      obtain ⟨v36, h36, rfl⟩ := hF.val 5 36 (by kernel_rfl) (by kernel_rfl)
      rw [if_neg (by rw [wanted_no 5 rfl (by kernel_rfl) h36]; decide)]
      exact hK _ _ _ rfl hS (Below.refl _ _) rfl
     case o7 =>
      intro dn a w' _ hS hF K hK
      obtain ⟨v36, h36, rfl⟩ := hF.val 5 36 (by kernel_rfl) (by kernel_rfl)
      rw [if_neg (by rw [wanted_no 5 rfl (by kernel_rfl) h36]; decide)]
      exact hK _ _ _ rfl hS (Below.refl _ _) rfl
     case o8 =>
      intro dn a w' _ hS hF K hK
      obtain ⟨v36, h36, rfl⟩ := hF.val 5 36 (by kernel_rfl) (by kernel_rfl)
      rw [if_neg (by rw [wanted_no 5 rfl (by kernel_rfl) h36]; decide)]
      exact hK _ _ _ rfl hS (Below.refl _ _) rfl
     case o9 =>
      intro dn a w' _ hS hF K hK
      obtain ⟨v36, h36, rfl⟩ := hF.val 5 36 (by kernel_rfl) (by kernel_rfl)
      obtain ⟨v39, h39, rfl⟩ := hF.val 8 39 (by kernel_rfl) (by kernel_rfl)
      rw [if_pos (by kernel_rfl)]
      go_simp
      exact hK _ _ _ rfl hS (Below.refl _ _) rfl
     case o10 =>
      intro dn a w' _ hS hF K hK
      obtain ⟨v40, h40, rfl⟩ := hF.val 9 40 (by kernel_rfl) (by kernel_rfl)
      rw [if_pos (by kernel_rfl)]
      go_simp
      exact hK _ _ _ rfl hS (Below.refl _ _) rfl
     case o11 =>
      intro dn a w' _ hS hF K hK
      obtain ⟨v41, h41, rfl⟩ := hF.val 10 41 (by kernel_rfl) (by kernel_rfl)
      rw [if_neg (by rw [wanted_no 10 rfl (by kernel_rfl) h41]; decide)]
      exact hK _ _ _ rfl hS (Below.refl _ _) rfl
     case o12 =>
      intro dn a w' _ hS hF K hK
      obtain ⟨v41, h41, rfl⟩ := hF.val 10 41 (by kernel_rfl) (by kernel_rfl)
      rw [if_neg (by rw [wanted_no 10 rfl (by kernel_rfl) h41]; decide)]
      exact hK _ _ _ rfl hS (Below.refl _ _) rfl
     case o13 =>
      intro dn a w' _ hS hF K hK
      obtain ⟨v41, h41, rfl⟩ := hF.val 10 41 (by kernel_rfl) (by kernel_rfl)
      rw [if_neg (by rw [wanted_no 10 rfl (by kernel_rfl) h41]; decide)]
      exact hK _ _ _ rfl hS (Below.refl _ _) rfl
     case o14 =>
      intro dn a w' _ hS hF K hK
      obtain ⟨v44, h44, rfl⟩ := hF.val 13 44 (by kernel_rfl) (by kernel_rfl)
      rw [if_neg (by rw [wanted_undef 13 rfl (by kernel_rfl) h44]; decide)]
      exact hK _ _ _ rfl hS (Below.refl _ _) rfl
     case o15 =>
      intro dn a w' _ hS hF K hK
      obtain ⟨v44, h44, rfl⟩ := hF.val 13 44 (by kernel_rfl) (by kernel_rfl)
      rw [if_neg (by rw [wanted_undef 13 rfl (by kernel_rfl) h44]; decide)]
      exact hK _ _ _ rfl hS (Below.refl _ _) rfl
     case o16 =>
      intro dn a w' _ hS hF K hK
      obtain ⟨v44, h44, rfl⟩ := hF.val 13 44 (by kernel_rfl) (by kernel_rfl)
      rw [if_neg (by rw [wanted_undef 13 rfl (by kernel_rfl) h44]; decide)]
      exact hK _ _ _ rfl hS (Below.refl _ _) rfl
     case o17 =>
      intro dn a w' _ hS hF K hK
      obtain ⟨v44, h44, rfl⟩ := hF.val 13 44 (by kernel_rfl) (by kernel_rfl)
      rw [if_neg (by rw [wanted_undef 13 rfl (by kernel_rfl) h44]; decide)]
      exact hK _ _ _ rfl hS (Below.refl _ _) rfl
     case o18 =>
      intro dn a w' _ hS hF K hK
      obtain ⟨v44, h44, rfl⟩ := hF.val 13 44 (by kernel_rfl) (by kernel_rfl)
      rw [if_neg (by rw [wanted_undef 13 rfl (by kernel_rfl) h44]; decide)]
      exact hK _ _ _ rfl hS (Below.refl _ _) rfl
     case o19 =>
      intro dn a w' _ hS hF K hK
      obtain ⟨v44, h44, rfl⟩ := hF.val 13 44 (by kernel_rfl) (by kernel_rfl)
      rw [if_neg (by rw [wanted_undef 13 rfl (by kernel_rfl) h44]; decide)]
      exact hK _ _ _ rfl hS (Below.refl _ _) rfl
     case o20 =>
      intro dn a w' _ hS hF K hK
      obtain ⟨v44, h44, rfl⟩ := hF.val 13 44 (by kernel_rfl) (by kernel_rfl)
      rw [if_neg (by rw [wanted_undef 13 rfl (by kernel_rfl) h44]; decide)]
      exact hK _ _ _ rfl hS (Below.refl _ _) rfl
     case o21 =>
      intro dn a w' _ hS hF K hK
      obtain ⟨v44, h44, rfl⟩ := hF.val 13 44 (by kernel_rfl) (by kernel_rfl)
      rw [if_neg (by rw [wanted_undef 13 rfl (by kernel_rfl) h44]; decide)]
      exact hK _ _ _ rfl hS (Below.refl _ _) rfl
     case o22 =>
      intro dn a w' _ hS hF K hK
      obtain ⟨v44, h44, rfl⟩ := hF.val 13 44 (by kernel_rfl) (by kernel_rfl)
      rw [if_neg (by rw [wanted_undef 13 rfl (by kernel_rfl) h44]; decide)]
      exact hK _ _ _ rfl hS (Below.refl _ _) rfl
     case o23 =>
      intro dn a w' _ hS hF K hK
      obtain ⟨v44, h44, rfl⟩ := hF.val 13 44 (by kernel_rfl) (by kernel_rfl)
      rw [if_neg (by rw [wanted_undef 13 rfl (by kernel_rfl) h44]; decide)]
      exact hK _ _ _ rfl hS (Below.refl _ _) rfl
     case o24 =>
      intro dn a w' _ hS hF K hK
      obtain ⟨v44, h44, rfl⟩ := hF.val 13 44 (by kernel_rfl) (by kernel_rfl)
      rw [if_neg (by rw [wanted_undef 13 rfl (by kernel_rfl) h44]; decide)]
      exact hK _ _ _ rfl hS (Below.refl _ _) rfl
     case o25 =>
      intro dn a w' _ hS hF K hK
      obtain ⟨v44, h44, rfl⟩ := hF.val 13 44 (by kernel_rfl) (by kernel_rfl)
      rw [if_neg (by rw [wanted_undef 13 rfl (by kernel_rfl) h44]; decide)]
      exact hK _ _ _ rfl hS (Below.refl _ _) rfl
     case o26 =>
      intro dn a w' _ hS hF K hK
      obtain ⟨v44, h44, rfl⟩ := hF.val 13 44 (by kernel_rfl) (by kernel_rfl)
      rw [if_neg (by rw [wanted_undef 13 rfl (by kernel_rfl) h44]; decide)]
      exact hK _ _ _ rfl hS (Below.refl _ _) rfl
     case o27 =>
      intro dn a w' _ hS hF K hK
      obtain ⟨v44, h44, rfl⟩ := hF.val 13 44 (by kernel_rfl) (by kernel_rfl)
      rw [if_neg (by rw [wanted_undef 13 rfl (by kernel_rfl) h44]; decide)]
      exact hK _ _ _ rfl hS (Below.refl _ _) rfl
     case o28 =>
      intro dn a w' _ hS hF K hK
      obtain ⟨v44, h44, rfl⟩ := hF.val 13 44 (by kernel_rfl) (by kernel_rfl)
      rw [if_neg (by rw [wanted_undef 13 rfl (by kernel_rfl) h44]; decide)]
      exact hK _ _ _ rfl hS (Below.refl _ _) rfl
     case o29 =>
      intro dn a w' _ hS hF K hK
      obtain ⟨v44, h44, rfl⟩ := hF.val 13 44 (by kernel_rfl) (by kernel_rfl)
      rw [if_neg (by rw [wanted_undef 13 rfl (by kernel_rfl) h44]; decide)]
      exact hK _ _ _ rfl hS (Below.refl _ _) rfl
     case o30 =>
      intro dn a w' _ hS hF K hK
      obtain ⟨v41, h41, rfl⟩ := hF.val 10 41 (by kernel_rfl) (by kernel_rfl)
      rw [if_neg (by rw [wanted_no 10 rfl (by kernel_rfl) h41]; decide)]
      exact hK _ _ _ rfl hS (Below.refl _ _) rfl
     case o31 =>
      intro dn a w' _ hS hF K hK
      obtain ⟨v41, h41, rfl⟩ := hF.val 10 41 (by kernel_rfl) (by kernel_rfl)
      obtain ⟨v61, h61, rfl⟩ := hF.val 30 61 (by kernel_rfl) (by kernel_rfl)
      rw [if_pos (by kernel_rfl)]
      go_simp
      exact hK _ _ _ rfl hS (Below.refl _ _) rfl
     case hmono =>
      intro i j v w1 w2 _ _ _ _ _ hv _
      exact hv
     case hend =>
      intro dn w5 vs hS hv
      have hvL : vs 31 = .bool true := hv 31 (by decide)
      clear hv
      simp only [putsL, Nat.reduceAdd, Act.put, List.setIfInBounds_toArray, List.set_cons_zero, List.set_cons_succ, hvL]
      have HBf := hid (HWa.out.trans (hS.mono HWa.out.size))
      go_wp2
      go_ret
      exact ⟨ret_bool HR2.out.symm, HBf.out⟩
    have heq : (sn.toList == x.name.toList) = true := by rw [bytes_eq]; simp [hA]
    by_cases hB : shapeI sn ss = 0
    case neg =>
     have HR2 := hid (HR.out.trans (HNo.out (by rw [HVe.out]; simp [hB])))
     have hsb : (shapeI sn ss != 0) = true := by simp [hB]
     clear hA hB
     refine wp_region_invA (fun _ w' => Below wa.heap.size wa w') (fun _ w' w'' => Below w'.heap.size w' w'') (fun i vv w' => match i with
      | 0 => vv = .pointer (some ⟨wr.heap.size, 0, none⟩)
      | 1 => vv = .string sn
      | 2 => vv = .pointer (some ⟨w.heap.size + 1, 0, none⟩)
      | 3 => vv = .string x.name
      | 4 => vv = .bool false
      | 5 => vv = .bool false
      | 6 => vv = .agg #[.string sn, .slice sa ss.length scap]
      | 7 => vv = .int .i64 (shapeI sn ss)
      | 8 => vv = .bool true
      | 9 => vv = .bool true
      | 10 => vv = .bool true
      | 11 => vv = undef
      | 12 => vv = undef
      | 13 => vv = undef
      | 14 => vv = undef
      | 15 => vv = undef
      | 16 => vv = undef
      | 17 => vv = undef
      | 18 => vv = undef
      | 19 => vv = undef
      | 20 => vv = undef
      | 21 => vv = undef
      | 22 => vv = undef
      | 23 => vv = undef
      | 24 => vv = undef
      | 25 => vv = undef
      | 26 => vv = undef
      | 27 => vv = undef
      | 28 => vv = undef
      | 29 => vv = undef
      | 30 => vv = undef
      | 31 => vv = .bool true
      | _ => True) (by kernel_rfl) (by kernel_rfl) (Below.refl _ _).drew ?hmono ⟨?o0, ?o1, ?o2, ?o3, ?o4, ?o5, ?o6, ?o7, ?o8, ?o9, ?o10, ?o11, ?o12, ?o13, ?o14, ?o15, ?o16, ?o17, ?o18, ?o19, ?o20, ?o21, ?o22, ?o23, ?o24, ?o25, ?o26, ?o27, ?o28, ?o29, ?o30, ?o31, trivial⟩ ?hend
     case o0 =>
      intro dn a w' _ hS hF K hK
      have h6 := hF.out 6 (by kernel_rfl) rfl
      rw [if_pos (by kernel_rfl)]
      go_simp
      exact hK _ _ _ rfl hS (Below.refl _ _) rfl
     case o1 =>
      intro dn a w' _ hS hF K hK
      obtain ⟨v31, h31, rfl⟩ := hF.val 0 31 (by kernel_rfl) (by kernel_rfl)
      have s0' := (hS.cell (by dsimp only; omega)).trans s0
      have s1' := (hS.cell (by dsimp only; omega)).trans s1
      have r0' := (hS.cell (by dsimp only; omega)).trans r0
      rw [if_pos (by kernel_rfl)]
      go_simp
      exact hK _ _ _ rfl hS (Below.refl _ _) rfl
     case o2 =>
      intro dn a w' _ hS hF K hK
      have h3 := hF.out 3 (by kernel_rfl) rfl
      rw [if_pos (by kernel_rfl)]
      go_simp
      exact hK _ _ _ rfl hS (Below.refl _ _) rfl
     case o3 =>
      intro dn a w' _ hS hF K hK
      obtain ⟨v33, h33, rfl⟩ := hF.val 2 33 (by kernel_rfl) (by kernel_rfl)
      have s0' := (hS.cell (by dsimp only; omega)).trans s0
      have s1' := (hS.cell (by dsimp only; omega)).trans s1
      have r0' := (hS.cell (by dsimp only; omega)).trans r0
      rw [if_pos (by kernel_rfl)]
      go_simp
      exact hK _ _ _ rfl hS (Below.refl _ _) rfl
     case o4 =>
      intro dn a w' _ hS hF K hK
      obtain ⟨v32, h32, rfl⟩ := hF.val 1 32 (by kernel_rfl) (by kernel_rfl)
      obtain ⟨v34, h34, rfl⟩ := hF.val 3 34 (by kernel_rfl) (by kernel_rfl)
      rw [if_pos (by kernel_rfl)]
      go_simp
      exact hK _ _ _ rfl hS (Below.refl _ _) (by show Value.bool _ = Value.bool _; simp)
     case o5 =>
      intro dn a w' _ hS hF K hK
      obtain ⟨v35, h35, rfl⟩ := hF.val 4 35 (by kernel_rfl) (by kernel_rfl)
      rw [if_pos (by kernel_rfl)]
      go_simp
      exact hK _ _ _ rfl hS (Below.refl _ _) rfl
     case o6 =>
      intro dn a w' _ hS hF K hK
      have h6 := hF.out 6 (by kernel_rfl) rfl
      obtain ⟨v36, h36, rfl⟩ := hF.val 5 36 (by kernel_rfl) (by kernel_rfl)
      have s0' := (hS.cell (by dsimp only; omega)).trans s0
      have s1' := (hS.cell (by dsimp only; omega)).trans s1
      have r0' := (hS.cell (by dsimp only; omega)).trans r0
      rw [if_pos (wanted_yes 5 rfl (by kernel_rfl) h36)]
      go_simp
      exact hK _ _ _ rfl hS (Below.refl _ _) rfl
     case o7 =>
      intro dn a w' _ hS hF K hK
      obtain ⟨v37, h37, rfl⟩ := hF.val 6 37 (by kernel_rfl) (by kernel_rfl)
      obtain ⟨v36, h36, rfl⟩ := hF.val 5 36 (by kernel_rfl) (by kernel_rfl)
      rw [if_pos (wanted_yes 5 rfl (by kernel_rfl) h36)]
      go_simp
      refine (CheckShape_any wa wa.heap.size sn sa ss ss.length scap w' hsn rfl hss hsc hS hS.size HSt.out).mono ?_
      rintro e w'' ⟨rfl, hb⟩
      exact hK _ _ _ rfl (hS.trans (hb.mono hS.size)) hb rfl
     case o8 =>
      intro dn a w' _ hS hF K hK
      obtain ⟨v38, h38, rfl⟩ := hF.val 7 38 (by kernel_rfl) (by kernel_rfl)
      obtain ⟨v36, h36, rfl⟩ := hF.val 5 36 (by kernel_rfl) (by kernel_rfl)
      rw [if_pos (wanted_yes 5 rfl (by kernel_rfl) h36)]
      go_simp
      exact hK _ _ _ rfl hS (Below.refl _ _) rfl
     case o9 =>
      intro dn a w' _ hS hF K hK
      obtain ⟨v36, h36, rfl⟩ := hF.val 5 36 (by kernel_rfl) (by kernel_rfl)
      obtain ⟨v39, h39, rfl⟩ := hF.val 8 39 (by kernel_rfl) (by kernel_rfl)
      rw [if_pos (by kernel_rfl)]
      go_simp
      exact hK _ _ _ rfl hS (Below.refl _ _) rfl
     case o10 =>
      intro dn a w' _ hS hF K hK
      obtain ⟨v40, h40, rfl⟩ := hF.val 9 40 (by kernel_rfl) (by kernel_rfl)
      rw [if_pos (by kernel_rfl)]
      go_simp
      exact hK _ _ _ rfl hS (Below.refl _ _) rfl
     case o11 =>
      intro dn a w' _ hS hF K hK
      obtain ⟨v41, h41, rfl⟩ := hF.val 10 41 (by kernel_rfl) (by kernel_rfl)
      rw [if_neg (by rw [wanted_no 10 rfl (by kernel_rfl) h41]; decide)]
      exact hK _ _ _ rfl hS (Below.refl _ _) rfl
     case o12 =>
      intro dn a w' _ hS hF K hK
      obtain ⟨v41, h41, rfl⟩ := hF.val 10 41 (by kernel_rfl) (by kernel_rfl)
      rw [if_neg (by rw [wanted_no 10 rfl (by kernel_rfl) h41]; decide)]
      exact hK _ _ _ rfl hS (Below.refl _ _) rfl
     case o13 =>
      intro dn a w' _ hS hF K hK
      obtain ⟨v41, h41, rfl⟩ := hF.val 10 41 (by kernel_rfl) (by kernel_rfl)
      rw [if_neg (by rw [wanted_no 10 rfl (by kernel_rfl) h41]; decide)]
      exact hK _ _ _ rfl hS (Below.refl _ _) rfl
     case o14 =>
      intro dn a w' _ hS hF K hK
      obtain ⟨v44, h44, rfl⟩ := hF.val 13 44 (by kernel_rfl) (by kernel_rfl)
      rw [if_neg (by rw [wanted_undef 13 rfl (by kernel_rfl) h44]; decide)]
      exact hK _ _ _ rfl hS (Below.refl _ _) rfl
     case o15 =>
      intro dn a w' _ hS hF K hK
      obtain ⟨v44, h44, rfl⟩ := hF.val 13 44 (by kernel_rfl) (by kernel_rfl)
      rw [if_neg (by rw [wanted_undef 13 rfl (by kernel_rfl) h44]; decide)]
      exact hK _ _ _ rfl hS (Below.refl _ _) rfl
     case o16 =>
      intro dn a w' _ hS hF K hK
      obtain ⟨v44, h44, rfl⟩ := hF.val 13 44 (by kernel_rfl) (by kernel_rfl)
      rw [if_neg (by rw [wanted_undef 13 rfl (by kernel_rfl) h44]; decide)]
      exact hK _ _ _ rfl hS (Below.refl _ _) rfl
     case o17 =>
      intro dn a w' _ hS hF K hK
      obtain ⟨v44, h44, rfl⟩ := hF.val 13 44 (by kernel_rfl) (by kernel_rfl)
      rw [if_neg (by rw [wanted_undef 13 rfl (by kernel_rfl) h44]; decide)]
      exact hK _ _ _ rfl hS (Below.refl _ _) rfl
     case o18 =>
      intro dn a w' _ hS hF K hK
      obtain ⟨v44, h44, rfl⟩ := hF.val 13 44 (by kernel_rfl) (by kernel_rfl)
      rw [if_neg (by rw [wanted_undef 13 rfl (by kernel_rfl) h44]; decide)]
      exact hK _ _ _ rfl hS (Below.refl _ _) rfl
     case o19 =>
      intro dn a w' _ hS hF K hK
      obtain ⟨v44, h44, rfl⟩ := hF.val 13 44 (by kernel_rfl) (by kernel_rfl)
      rw [if_neg (by rw [wanted_undef 13 rfl (by kernel_rfl) h44]; decide)]
      exact hK _ _ _ rfl hS (Below.refl _ _) rfl
     case o20 =>
      intro dn a w' _ hS hF K hK
      obtain ⟨v44, h44, rfl⟩ := hF.val 13 44 (by kernel_rfl) (by kernel_rfl)
      rw [if_neg (by rw [wanted_undef 13 rfl (by kernel_rfl) h44]; decide)]
      exact hK _ _ _ rfl hS (Below.refl _ _) rfl
     case o21 =>
      intro dn a w' _ hS hF K hK
      obtain ⟨v44, h44, rfl⟩ := hF.val 13 44 (by kernel_rfl) (by kernel_rfl)
      rw [if_neg (by rw [wanted_undef 13 rfl (by kernel_rfl) h44]; decide)]
      exact hK _ _ _ rfl hS (Below.refl _ _) rfl
     case o22 =>
      intro dn a w' _ hS hF K hK
      obtain ⟨v44, h44, rfl⟩ := hF.val 13 44 (by kernel_rfl) (by kernel_rfl)
      rw [if_neg (by rw [wanted_undef 13 rfl (by kernel_rfl) h44]; decide)]
      exact hK _ _ _ rfl hS (Below.refl _ _) rfl
     case o23 =>
      intro dn a w' _ hS hF K hK
      obtain ⟨v44, h44, rfl⟩ := hF.val 13 44 (by kernel_rfl) (by kernel_rfl)
      rw [if_neg (by rw [wanted_undef 13 rfl (by kernel_rfl) h44]; decide)]
      exact hK _ _ _ rfl hS (Below.refl _ _) rfl
     case o24 =>
      intro dn a w' _ hS hF K hK
      obtain ⟨v44, h44, rfl⟩ := hF.val 13 44 (by kernel_rfl) (by kernel_rfl)
      rw [if_neg (by rw [wanted_undef 13 rfl (by kernel_rfl) h44]; decide)]
      exact hK _ _ _ rfl hS (Below.refl _ _) rfl
     case o25 =>
      intro dn a w' _ hS hF K hK
      obtain ⟨v44, h44, rfl⟩ := hF.val 13 44 (by kernel_rfl) (by kernel_rfl)
      rw [if_neg (by rw [wanted_undef 13 rfl (by kernel_rfl) h44]; decide)]
      exact hK _ _ _ rfl hS (Below.refl _ _) rfl
     case o26 =>
      intro dn a w' _ hS hF K hK
      obtain ⟨v44, h44, rfl⟩ := hF.val 13 44 (by kernel_rfl) (by kernel_rfl)
      rw [if_neg (by rw [wanted_undef 13 rfl (by kernel_rfl) h44]; decide)]
      exact hK _ _ _ rfl hS (Below.refl _ _) rfl
     case o27 =>
      intro dn a w' _ hS hF K hK
      obtain ⟨v44, h44, rfl⟩ := hF.val 13 44 (by kernel_rfl) (by kernel_rfl)
      rw [if_neg (by rw [wanted_undef 13 rfl (by kernel_rfl) h44]; decide)]
      exact hK _ _ _ rfl hS (Below.refl _ _) rfl
     case o28 =>
      intro dn a w' _ hS hF K hK
      obtain ⟨v44, h44, rfl⟩ := hF.val 13 44 (by kernel_rfl) (by kernel_rfl)
      rw [if_neg (by rw [wanted_undef 13 rfl (by kernel_rfl) h44]; decide)]
      exact hK _ _ _ rfl hS (Below.refl _ _) rfl
     case o29 =>
      intro dn a w' _ hS hF K hK
      obtain ⟨v44, h44, rfl⟩ := hF.val 13 44 (by kernel_rfl) (by kernel_rfl)
      rw [if_neg (by rw [wanted_undef 13 rfl (by kernel_rfl) h44]; decide)]
      exact hK _ _ _ rfl hS (Below.refl _ _) rfl
     case o30 =>
      intro dn a w' _ hS hF K hK
      obtain ⟨v41, h41, rfl⟩ := hF.val 10 41 (by kernel_rfl) (by kernel_rfl)
      rw [if_neg (by rw [wanted_no 10 rfl (by kernel_rfl) h41]; decide)]
      exact hK _ _ _ rfl hS (Below.refl _ _) rfl
     case o31 =>
      intro dn a w' _ hS hF K hK
      obtain ⟨v41, h41, rfl⟩ := hF.val 10 41 (by kernel_rfl) (by kernel_rfl)
      obtain ⟨v61, h61, rfl⟩ := hF.val 30 61 (by kernel_rfl) (by kernel_rfl)
      rw [if_pos (by kernel_rfl)]
      go_simp
      exact hK _ _ _ rfl hS (Below.refl _ _) rfl
     case hmono =>
      intro i j v w1 w2 _ _ _ _ _ hv _
      exact hv
     case hend =>
      intro dn w5 vs hS hv
      have hvL : vs 31 = .bool true := hv 31 (by decide)
      clear hv
      simp only [putsL, Nat.reduceAdd, Act.put, List.setIfInBounds_toArray, List.set_cons_zero, List.set_cons_succ, hvL]
      have HBf := hid (HWa.out.trans (hS.mono HWa.out.size))
      go_wp2
      go_ret
      exact ⟨ret_bool HR2.out.symm, HBf.out⟩
    have hsb : (shapeI sn ss != 0) = false := by simp [hB]
    by_cases hk0 : k = 0
    case pos =>
     have HY := hid (HYes.out (by rw [HVe.out, decide_eq_true hA, decide_eq_true hB, decide_eq_true hk0]; rfl))
     have hk3 : ¬ (0 : Int) < k := by omega
     clear hA hB hk0
     refine wp_region_invA (fun _ w' => Below wa.heap.size wa w') (fun _ w' w'' => Below w'.heap.size w' w'') (fun i vv w' => match i with
      | 0 => vv = .pointer (some ⟨wr.heap.size, 0, none⟩)
      | 1 => vv = .string sn
      | 2 => vv = .pointer (some ⟨w.heap.size + 1, 0, none⟩)
      | 3 => vv = .string x.name
      | 4 => vv = .bool false
      | 5 => vv = .bool false
      | 6 => vv = .agg #[.string sn, .slice sa ss.length scap]
      | 7 => vv = .int .i64 (shapeI sn ss)
      | 8 => vv = .bool false
      | 9 => vv = .bool false
      | 10 => vv = .bool false
      | 11 => vv = .int .i64 (k : Int)
      | 12 => vv = .bool false
      | 13 => vv = .bool false
      | 14 => vv = undef
      | 15 => vv = undef
      | 16 => vv = undef
      | 17 => vv = undef
      | 18 => vv = undef
      | 19 => vv = undef
      | 20 => vv = undef
      | 21 => vv = undef
      | 22 => vv = undef
      | 23 => vv = undef
      | 24 => vv = undef
      | 25 => vv = undef
      | 26 => vv = undef
      | 27 => vv = undef
      | 28 => vv = undef
      | 29 => vv = undef
      | 30 => vv = .bool false
      | 31 => vv = .bool false
      | _ => True) (by kernel_rfl) (by kernel_rfl) (Below.refl _ _).drew ?hmono ⟨?o0, ?o1, ?o2, ?o3, ?o4, ?o5, ?o6, ?o7, ?o8, ?o9, ?o10, ?o11, ?o12, ?o13, ?o14, ?o15, ?o16, ?o17, ?o18, ?o19, ?o20, ?o21, ?o22, ?o23, ?o24, ?o25, ?o26, ?o27, ?o28, ?o29, ?o30, ?o31, trivial⟩ ?hend
     case o0 =>
      intro dn a w' _ hS hF K hK
      have h6 := hF.out 6 (by kernel_rfl) rfl
      rw [if_pos (by kernel_rfl)]
      go_simp
      exact hK _ _ _ rfl hS (Below.refl _ _) rfl
     case o1 =>
      intro dn a w' _ hS hF K hK
      obtain ⟨v31, h31, rfl⟩ := hF.val 0 31 (by kernel_rfl) (by kernel_rfl)
      have s0' := (hS.cell (by dsimp only; omega)).trans s0
      have s1' := (hS.cell (by dsimp only; omega)).trans s1
      have r0' := (hS.cell (by dsimp only; omega)).trans r0
      rw [if_pos (by kernel_rfl)]
      go_simp
      exact hK _ _ _ rfl hS (Below.refl _ _) rfl
     case o2 =>
      intro dn a w' _ hS hF K hK
      have h3 := hF.out 3 (by kernel_rfl) rfl
      rw [if_pos (by kernel_rfl)]
      go_simp
      exact hK _ _ _ rfl hS (Below.refl _ _) rfl
     case o3 =>
      intro dn a w' _ hS hF K hK
      obtain ⟨v33, h33, rfl⟩ := hF.val 2 33 (by kernel_rfl) (by kernel_rfl)
      have s0' := (hS.cell (by dsimp only; omega)).trans s0
      have s1' := (hS.cell (by dsimp only; omega)).trans s1
      have r0' := (hS.cell (by dsimp only; omega)).trans r0
      rw [if_pos (by kernel_rfl)]
      go_simp
      exact hK _ _ _ rfl hS (Below.refl _ _) rfl
     case o4 =>
      intro dn a w' _ hS hF K hK
      obtain ⟨v32, h32, rfl⟩ := hF.val 1 32 (by kernel_rfl) (by kernel_rfl)
      obtain ⟨v34, h34, rfl⟩ := hF.val 3 34 (by kernel_rfl) (by kernel_rfl)
      rw [if_pos (by kernel_rfl)]
      go_simp
      exact hK _ _ _ rfl hS (Below.refl _ _) (by show Value.bool _ = Value.bool _; simp)
     case o5 =>
      intro dn a w' _ hS hF K hK
      obtain ⟨v35, h35, rfl⟩ := hF.val 4 35 (by kernel_rfl) (by kernel_rfl)
      rw [if_pos (by kernel_rfl)]
      go_simp
      exact hK _ _ _ rfl hS (Below.refl _ _) rfl
     case o6 =>
      intro dn a w' _ hS hF K hK
      have h6 := hF.out 6 (by kernel_rfl) rfl
      obtain ⟨v36, h36, rfl⟩ := hF.val 5 36 (by kernel_rfl) (by kernel_rfl)
      have s0' := (hS.cell (by dsimp only; omega)).trans s0
      have s1' := (hS.cell (by dsimp only; omega)).trans s1
      have r0' := (hS.cell (by dsimp only; omega)).trans r0
      rw [if_pos (wanted_yes 5 rfl (by kernel_rfl) h36)]
      go_simp
      exact hK _ _ _ rfl hS (Below.refl _ _) rfl
     case o7 =>
      intro dn a w' _ hS hF K hK
      obtain ⟨v37, h37, rfl⟩ := hF.val 6 37 (by kernel_rfl) (by kernel_rfl)
      obtain ⟨v36, h36, rfl⟩ := hF.val 5 36 (by kernel_rfl) (by kernel_rfl)
      rw [if_pos (wanted_yes 5 rfl (by kernel_rfl) h36)]
      go_simp
      refine (CheckShape_any wa wa.heap.size sn sa ss ss.length scap w' hsn rfl hss hsc hS hS.size HSt.out).mono ?_
      rintro e w'' ⟨rfl, hb⟩
      exact hK _ _ _ rfl (hS.trans (hb.mono hS.size)) hb rfl
     case o8 =>
      intro dn a w' _ hS hF K hK
      obtain ⟨v38, h38, rfl⟩ := hF.val 7 38 (by kernel_rfl) (by kernel_rfl)
      obtain ⟨v36, h36, rfl⟩ := hF.val 5 36 (by kernel_rfl) (by kernel_rfl)
      rw [if_pos (wanted_yes 5 rfl (by kernel_rfl) h36)]
      go_simp
      exact hK _ _ _ rfl hS (Below.refl _ _) rfl
     case o9 =>
      intro dn a w' _ hS hF K hK
      obtain ⟨v36, h36, rfl⟩ := hF.val 5 36 (by kernel_rfl) (by kernel_rfl)
      obtain ⟨v39, h39, rfl⟩ := hF.val 8 39 (by kernel_rfl) (by kernel_rfl)
      rw [if_pos (by kernel_rfl)]
      go_simp
      exact hK _ _ _ rfl hS (Below.refl _ _) rfl
     case o10 =>
      intro dn a w' _ hS hF K hK
      obtain ⟨v40, h40, rfl⟩ := hF.val 9 40 (by kernel_rfl) (by kernel_rfl)
      rw [if_pos (by kernel_rfl)]
      go_simp
      exact hK _ _ _ rfl hS (Below.refl _ _) rfl
     case o11 =>
      intro dn a w' _ hS hF K hK
      have h5 := hF.out 5 (by kernel_rfl) rfl
      obtain ⟨v41, h41, rfl⟩ := hF.val 10 41 (by kernel_rfl) (by kernel_rfl)
      rw [if_pos (wanted_yes 10 rfl (by kernel_rfl) h41)]
      go_simp
      exact hK _ _ _ rfl hS (Below.refl _ _) rfl
     case o12 =>
      intro dn a w' _ hS hF K hK
      obtain ⟨v42, h42, rfl⟩ := hF.val 11 42 (by kernel_rfl) (by kernel_rfl)
      obtain ⟨v41, h41, rfl⟩ := hF.val 10 41 (by kernel_rfl) (by kernel_rfl)
      rw [if_pos (wanted_yes 10 rfl (by kernel_rfl) h41)]
      go_simp
      exact hK _ _ _ rfl hS (Below.refl _ _) (by show Value.bool _ = Value.bool _; rw [decide_eq_false (by omega)])
     case o13 =>
      intro dn a w' _ hS hF K hK
      obtain ⟨v43, h43, rfl⟩ := hF.val 12 43 (by kernel_rfl) (by kernel_rfl)
      obtain ⟨v41, h41, rfl⟩ := hF.val 10 41 (by kernel_rfl) (by kernel_rfl)
      rw [if_pos (wanted_yes 10 rfl (by kernel_rfl) h41)]
      go_simp
      exact hK _ _ _ rfl hS (Below.refl _ _) rfl
     case o14 =>
      intro dn a w' _ hS hF K hK
      obtain ⟨v44, h44, rfl⟩ := hF.val 13 44 (by kernel_rfl) (by kernel_rfl)
      rw [if_neg (by rw [wanted_no 13 rfl (by kernel_rfl) h44]; decide)]
      exact hK _ _ _ rfl hS (Below.refl _ _) rfl
     case o15 =>
      intro dn a w' _ hS hF K hK
      obtain ⟨v44, h44, rfl⟩ := hF.val 13 44 (by kernel_rfl) (by kernel_rfl)
      rw [if_neg (by rw [wanted_no 13 rfl (by kernel_rfl) h44]; decide)]
      exact hK _ _ _ rfl hS (Below.refl _ _) rfl
     case o16 =>
      intro dn a w' _ hS hF K hK
      obtain ⟨v44, h44, rfl⟩ := hF.val 13 44 (by kernel_rfl) (by kernel_rfl)
      rw [if_neg (by rw [wanted_no 13 rfl (by kernel_rfl) h44]; decide)]
      exact hK _ _ _ rfl hS (Below.refl _ _) rfl
     case o17 =>
      intro dn a w' _ hS hF K hK
      obtain ⟨v44, h44, rfl⟩ := hF.val 13 44 (by kernel_rfl) (by kernel_rfl)
      rw [if_neg (by rw [wanted_no 13 rfl (by kernel_rfl) h44]; decide)]
      exact hK _ _ _ rfl hS (Below.refl _ _) rfl
     case o18 =>
      intro dn a w' _ hS hF K hK
      obtain ⟨v44, h44, rfl⟩ := hF.val 13 44 (by kernel_rfl) (by kernel_rfl)
      rw [if_neg (by rw [wanted_no 13 rfl (by kernel_rfl) h44]; decide)]
      exact hK _ _ _ rfl hS (Below.refl _ _) rfl
     case o19 =>
      intro dn a w' _ hS hF K hK
      obtain ⟨v44, h44, rfl⟩ := hF.val 13 44 (by kernel_rfl) (by kernel_rfl)
      rw [if_neg (by rw [wanted_no 13 rfl (by kernel_rfl) h44]; decide)]
      exact hK _ _ _ rfl hS (Below.refl _ _) rfl
     case o20 =>
      intro dn a w' _ hS hF K hK
      obtain ⟨v44, h44, rfl⟩ := hF.val 13 44 (by kernel_rfl) (by kernel_rfl)
      rw [if_neg (by rw [wanted_no 13 rfl (by kernel_rfl) h44]; decide)]
      exact hK _ _ _ rfl hS (Below.refl _ _) rfl
     case o21 =>
      intro dn a w' _ hS hF K hK
      obtain ⟨v44, h44, rfl⟩ := hF.val 13 44 (by kernel_rfl) (by kernel_rfl)
      rw [if_neg (by rw [wanted_no 13 rfl (by kernel_rfl) h44]; decide)]
      exact hK _ _ _ rfl hS (Below.refl _ _) rfl
     case o22 =>
      intro dn a w' _ hS hF K hK
      obtain ⟨v44, h44, rfl⟩ := hF.val 13 44 (by kernel_rfl) (by kernel_rfl)
      rw [if_neg (by rw [wanted_no 13 rfl (by kernel_rfl) h44]; decide)]
      exact hK _ _ _ rfl hS (Below.refl _ _) rfl
     case o23 =>
      intro dn a w' _ hS hF K hK
      obtain ⟨v44, h44, rfl⟩ := hF.val 13 44 (by kernel_rfl) (by kernel_rfl)
      rw [if_neg (by rw [wanted_no 13 rfl (by kernel_rfl) h44]; decide)]
      exact hK _ _ _ rfl hS (Below.refl _ _) rfl
     case o24 =>
      intro dn a w' _ hS hF K hK
      obtain ⟨v44, h44, rfl⟩ := hF.val 13 44 (by kernel_rfl) (by kernel_rfl)
      rw [if_neg (by rw [wanted_no 13 rfl (by kernel_rfl) h44]; decide)]
      exact hK _ _ _ rfl hS (Below.refl _ _) rfl
     case o25 =>
      intro dn a w' _ hS hF K hK
      obtain ⟨v44, h44, rfl⟩ := hF.val 13 44 (by kernel_rfl) (by kernel_rfl)
      rw [if_neg (by rw [wanted_no 13 rfl (by kernel_rfl) h44]; decide)]
      exact hK _ _ _ rfl hS (Below.refl _ _) rfl
     case o26 =>
      intro dn a w' _ hS hF K hK
      obtain ⟨v44, h44, rfl⟩ := hF.val 13 44 (by kernel_rfl) (by kernel_rfl)
      rw [if_neg (by rw [wanted_no 13 rfl (by kernel_rfl) h44]; decide)]
      exact hK _ _ _ rfl hS (Below.refl _ _) rfl
     case o27 =>
      intro dn a w' _ hS hF K hK
      obtain ⟨v44, h44, rfl⟩ := hF.val 13 44 (by kernel_rfl) (by kernel_rfl)
      rw [if_neg (by rw [wanted_no 13 rfl (by kernel_rfl) h44]; decide)]
      exact hK _ _ _ rfl hS (Below.refl _ _) rfl
     case o28 =>
      intro dn a w' _ hS hF K hK
      obtain ⟨v44, h44, rfl⟩ := hF.val 13 44 (by kernel_rfl) (by kernel_rfl)
      rw [if_neg (by rw [wanted_no 13 rfl (by kernel_rfl) h44]; decide)]
      exact hK _ _ _ rfl hS (Below.refl _ _) rfl
     case o29 =>
      intro dn a w' _ hS hF K hK
      obtain ⟨v44, h44, rfl⟩ := hF.val 13 44 (by kernel_rfl) (by kernel_rfl)
      rw [if_neg (by rw [wanted_no 13 rfl (by kernel_rfl) h44]; decide)]
      exact hK _ _ _ rfl hS (Below.refl _ _) rfl
     case o30 =>
      intro dn a w' _ hS hF K hK
      obtain ⟨v44, h44, rfl⟩ := hF.val 13 44 (by kernel_rfl) (by kernel_rfl)
      obtain ⟨v60, h60, rfl⟩ := hF.val 29 60 (by kernel_rfl) (by kernel_rfl)
      obtain ⟨v41, h41, rfl⟩ := hF.val 10 41 (by kernel_rfl) (by kernel_rfl)
      rw [if_pos (wanted_yes 10 rfl (by kernel_rfl) h41)]
      go_simp
      exact hK _ _ _ rfl hS (Below.refl _ _) rfl
     case o31 =>
      intro dn a w' _ hS hF K hK
      obtain ⟨v41, h41, rfl⟩ := hF.val 10 41 (by kernel_rfl) (by kernel_rfl)
      obtain ⟨v61, h61, rfl⟩ := hF.val 30 61 (by kernel_rfl) (by kernel_rfl)
      rw [if_pos (by kernel_rfl)]
      go_simp
      exact hK _ _ _ rfl hS (Below.refl _ _) rfl
     case hmono =>
      intro i j v w1 w2 _ _ _ _ _ hv _
      exact hv
     case hend =>
      intro dn w5 vs hS hv
      have hvL : vs 31 = .bool false := hv 31 (by decide)
      clear hv
      simp only [putsL, Nat.reduceAdd, Act.put, List.setIfInBounds_toArray, List.set_cons_zero, List.set_cons_succ, hvL]
      have HBf := hid (HBa.out.trans (hS.mono (by omega)))
      go_wp2
      go_roundw
      case rel => exact ⟨k + 1, by omega, by go_num, HY.out, HBf.out⟩
      case measure => simp [intOf]; omega
    obtain ⟨m, hm⟩ : ∃ m, k = m + 1 := ⟨k - 1, by omega⟩
    have hk3 : (0 : Int) < k := by omega
    have hk1 : (k : Int) - 1 = m := by omega
    have hmw : IntKind.i64.wrap (m : Int) = m := wrap_small (by omega) (by unfold belB at h1; simp only [Bool.and_eq_true, decide_eq_true_eq] at h1; omega)
    have hmm : m < x.ms.length := by omega
    have hmv : m < x.vs.length := by omega
    have hmm2 : (m : Int) < x.ms.length := by omega
    have hmv2 : (m : Int) < x.vs.length := by omega
    obtain ⟨mb, mo, hqm, _, m0⟩ := mv_at (Cs.below HSr.out.m HWa.out (Nat.le_refl _)) (i := m) hmm
    obtain ⟨vb', vo', hqv, _, o0, o1⟩ := sh_at (Cs.below HSr.out.v HWa.out (Nat.le_refl _)) (i := m) hmv
    have hqe := HQ.out.symm.trans hqv
    injection hqe with hqe
    injection hqe with hq1 hq2
    subst hq1 hq2
    have HMl := hid (Cs.below (HSr.out.ms _ (List.getElem_mem hmm)) HWa.out HWa.out.size)
    have hpl : (x.ms[m]'hmm).l.length ≤ 9223372036854775807 := by have : (x.ms[m]'hmm).l.length * 8 ≤ 140737488355328 := HBg.out.ms _ (List.getElem_mem hmm); omega
    have HVr := hid (show verB ww.x.fs x k = (decide ((x.ms[m]'hmm).l.length = ss.length) && (x.ms[m]'hmm).l.all (moveB ww.x.fs (x.vs[m]'hmv).fs.length)) from by
     rw [HVe.out, decide_eq_true hA, decide_eq_true hB, decide_eq_false hk0, hm, Nat.add_sub_cancel, List.getElem?_eq_getElem hmm, List.getElem?_eq_getElem hmv]
     rfl)
    rw [hqm] at r2
    generalize x.ms[m]'hmm = mx at m0 HMl hpl HVr
    generalize x.vs[m]'hmv = ox at o0 o1 HVr
    obtain ⟨pa, pcap, pl⟩ := mx
    obtain ⟨od, oa, ocap, of_⟩ := ox
    dsimp only at m0 HMl hpl HVr o0 o1
    obtain ⟨mv, hmvv⟩ : ∃ mv, (decide (pl.length = ss.length) && pl.all (moveB ww.x.fs of_.length)) = mv := ⟨_, rfl⟩
    rw [hmvv] at HVr
    have HMv := hid hmvv
    have HM := hid hm
    clear hA hB hk0 hm hqm hqv hmvv
    refine wp_region_invA (fun _ w' => Below wa.heap.size wa w') (fun _ w' w'' => Below w'.heap.size w' w'') (fun i vv w' => match i with
     | 0 => vv = .pointer (some ⟨wr.heap.size, 0, none⟩)
     | 1 => vv = .string sn
     | 2 => vv = .pointer (some ⟨w.heap.size + 1, 0, none⟩)
     | 3 => vv = .string x.name
     | 4 => vv = .bool false
     | 5 => vv = .bool false
     | 6 => vv = .agg #[.string sn, .slice sa ss.length scap]
     | 7 => vv = .int .i64 (shapeI sn ss)
     | 8 => vv = .bool false
     | 9 => vv = .bool false
     | 10 => vv = .bool false
     | 11 => vv = .int .i64 (k : Int)
     | 12 => vv = .bool true
     | 13 => vv = .bool true
     | 14 => vv = viewV ww
     | 15 => vv = .pointer (some ⟨w.heap.size + 1, 2, none⟩)
     | 16 => vv = .slice (some ⟨mb, mo, none⟩) x.ms.length x.mcap
     | 17 => vv = .int .i64 (k : Int)
     | 18 => vv = .int .i64 (m : Int)
     | 19 => vv = .pointer (some ⟨mb, mo + m, none⟩)
     | 20 => vv = .slice pa pl.length pcap
     | 21 => vv = .pointer (some ⟨w.heap.size + 1, 1, none⟩)
     | 22 => vv = .slice (some ⟨vb, vo, none⟩) x.vs.length x.vcap
     | 23 => vv = .int .i64 (k : Int)
     | 24 => vv = .int .i64 (m : Int)
     | 25 => vv = .pointer (some ⟨vb, vo + m * 2, none⟩)
     | 26 => vv = .agg #[.string od, .slice oa of_.length ocap]
     | 27 => vv = .agg #[.string sn, .slice sa ss.length scap]
     | 28 => vv = .bool mv
     | 29 => vv = .bool (!mv)
     | 30 => vv = .bool (!mv)
     | 31 => vv = .bool (!mv)
     | _ => True) (by kernel_rfl) (by kernel_rfl) (Below.refl _ _).drew ?hmono ⟨?o0, ?o1, ?o2, ?o3, ?o4, ?o5, ?o6, ?o7, ?o8, ?o9, ?o10, ?o11, ?o12, ?o13, ?o14, ?o15, ?o16, ?o17, ?o18, ?o19, ?o20, ?o21, ?o22, ?o23, ?o24, ?o25, ?o26, ?o27, ?o28, ?o29, ?o30, ?o31, trivial⟩ ?hend
    case o0 =>
     intro dn a w' _ hS hF K hK
     have h6 := hF.out 6 (by kernel_rfl) rfl
     rw [if_pos (by kernel_rfl)]
     go_simp
     exact hK _ _ _ rfl hS (Below.refl _ _) rfl
    case o1 =>
     intro dn a w' _ hS hF K hK
     obtain ⟨v31, h31, rfl⟩ := hF.val 0 31 (by kernel_rfl) (by kernel_rfl)
     have s0' := (hS.cell (by dsimp only; omega)).trans s0
     have s1' := (hS.cell (by dsimp only; omega)).trans s1
     have r0' := (hS.cell (by dsimp only; omega)).trans r0
     have r1' := (hS.cell (by dsimp only; omega)).trans r1
     have r2' := (hS.cell (by dsimp only; omega)).trans r2
     have c0' := (hS.cell (by dsimp only; omega)).trans c0
     have c1' := (hS.cell (by dsimp only; omega)).trans c1
     have c2' := (hS.cell (by dsimp only; omega)).trans c2
     have c3' := (hS.cell (by dsimp only; omega)).trans c3
     have c4' := (hS.cell (by dsimp only; omega)).trans c4
     have c5' := (hS.cell (by dsimp only; omega)).trans c5
     have c6' := (hS.cell (by dsimp only; omega)).trans c6
     have c7' := (hS.cell (by dsimp only; omega)).trans c7
     have c8' := (hS.cell (by dsimp only; omega)).trans c8
     have m0' := (hS.cell (by dsimp only; omega)).trans m0
     have o0' := (hS.cell (by dsimp only; omega)).trans o0
     have o1' := (hS.cell (by dsimp only; omega)).trans o1
     rw [if_pos (by kernel_rfl)]
     go_simp
     exact hK _ _ _ rfl hS (Below.refl _ _) rfl
    case o2 =>
     intro dn a w' _ hS hF K hK
     have h3 := hF.out 3 (by kernel_rfl) rfl
     rw [if_pos (by kernel_rfl)]
     go_simp
     exact hK _ _ _ rfl hS (Below.refl _ _) rfl
    case o3 =>
     intro dn a w' _ hS hF K hK
     obtain ⟨v33, h33, rfl⟩ := hF.val 2 33 (by kernel_rfl) (by kernel_rfl)
     have s0' := (hS.cell (by dsimp only; omega)).trans s0
     have s1' := (hS.cell (by dsimp only; omega)).trans s1
     have r0' := (hS.cell (by dsimp only; omega)).trans r0
     have r1' := (hS.cell (by dsimp only; omega)).trans r1
     have r2' := (hS.cell (by dsimp only; omega)).trans r2
     have c0' := (hS.cell (by dsimp only; omega)).trans c0
     have c1' := (hS.cell (by dsimp only; omega)).trans c1
     have c2' := (hS.cell (by dsimp only; omega)).trans c2
     have c3' := (hS.cell (by dsimp only; omega)).trans c3
     have c4' := (hS.cell (by dsimp only; omega)).trans c4
     have c5' := (hS.cell (by dsimp only; omega)).trans c5
     have c6' := (hS.cell (by dsimp only; omega)).trans c6
     have c7' := (hS.cell (by dsimp only; omega)).trans c7
     have c8' := (hS.cell (by dsimp only; omega)).trans c8
     have m0' := (hS.cell (by dsimp only; omega)).trans m0
     have o0' := (hS.cell (by dsimp only; omega)).trans o0
     have o1' := (hS.cell (by dsimp only; omega)).trans o1
     rw [if_pos (by kernel_rfl)]
     go_simp
     exact hK _ _ _ rfl hS (Below.refl _ _) rfl
    case o4 =>
     intro dn a w' _ hS hF K hK
     obtain ⟨v32, h32, rfl⟩ := hF.val 1 32 (by kernel_rfl) (by kernel_rfl)
     obtain ⟨v34, h34, rfl⟩ := hF.val 3 34 (by kernel_rfl) (by kernel_rfl)
     rw [if_pos (by kernel_rfl)]
     go_simp
     exact hK _ _ _ rfl hS (Below.refl _ _) (by show Value.bool _ = Value.bool _; simp)
    case o5 =>
     intro dn a w' _ hS hF K hK
     obtain ⟨v35, h35, rfl⟩ := hF.val 4 35 (by kernel_rfl) (by kernel_rfl)
     rw [if_pos (by kernel_rfl)]
     go_simp
     exact hK _ _ _ rfl hS (Below.refl _ _) rfl
    case o6 =>
     intro dn a w' _ hS hF K hK
     have h6 := hF.out 6 (by kernel_rfl) rfl
     obtain ⟨v36, h36, rfl⟩ := hF.val 5 36 (by kernel_rfl) (by kernel_rfl)
     have s0' := (hS.cell (by dsimp only; omega)).trans s0
     have s1' := (hS.cell (by dsimp only; omega)).trans s1
     have r0' := (hS.cell (by dsimp only; omega)).trans r0
     have r1' := (hS.cell (by dsimp only; omega)).trans r1
     have r2' := (hS.cell (by dsimp only; omega)).trans r2
     have c0' := (hS.cell (by dsimp only; omega)).trans c0
     have c1' := (hS.cell (by dsimp only; omega)).trans c1
     have c2' := (hS.cell (by dsimp only; omega)).trans c2
     have c3' := (hS.cell (by dsimp only; omega)).trans c3
     have c4' := (hS.cell (by dsimp only; omega)).trans c4
     have c5' := (hS.cell (by dsimp only; omega)).trans c5
     have c6' := (hS.cell (by dsimp only; omega)).trans c6
     have c7' := (hS.cell (by dsimp only; omega)).trans c7
     have c8' := (hS.cell (by dsimp only; omega)).trans c8
     have m0' := (hS.cell (by dsimp only; omega)).trans m0
     have o0' := (hS.cell (by dsimp only; omega)).trans o0
     have o1' := (hS.cell (by dsimp only; omega)).trans o1
     rw [if_pos (wanted_yes 5 rfl (by kernel_rfl) h36)]
     go_simp
     exact hK _ _ _ rfl hS (Below.refl _ _) rfl
    case o7 =>
     intro dn a w' _ hS hF K hK
     obtain ⟨v37, h37, rfl⟩ := hF.val 6 37 (by kernel_rfl) (by kernel_rfl)
     obtain ⟨v36, h36, rfl⟩ := hF.val 5 36 (by kernel_rfl) (by kernel_rfl)
     rw [if_pos (wanted_yes 5 rfl (by kernel_rfl) h36)]
     go_simp
     refine (CheckShape_any wa wa.heap.size sn sa ss ss.length scap w' hsn rfl hss hsc hS hS.size HSt.out).mono ?_
     rintro e w'' ⟨rfl, hb⟩
     exact hK _ _ _ rfl (hS.trans (hb.mono hS.size)) hb rfl
    case o8 =>
     intro dn a w' _ hS hF K hK
     obtain ⟨v38, h38, rfl⟩ := hF.val 7 38 (by kernel_rfl) (by kernel_rfl)
     obtain ⟨v36, h36, rfl⟩ := hF.val 5 36 (by kernel_rfl) (by kernel_rfl)
     rw [if_pos (wanted_yes 5 rfl (by kernel_rfl) h36)]
     go_simp
     exact hK _ _ _ rfl hS (Below.refl _ _) rfl
    case o9 =>
     intro dn a w' _ hS hF K hK
     obtain ⟨v36, h36, rfl⟩ := hF.val 5 36 (by kernel_rfl) (by kernel_rfl)
     obtain ⟨v39, h39, rfl⟩ := hF.val 8 39 (by kernel_rfl) (by kernel_rfl)
     rw [if_pos (by kernel_rfl)]
     go_simp
     exact hK _ _ _ rfl hS (Below.refl _ _) rfl
    case o10 =>
     intro dn a w' _ hS hF K hK
     obtain ⟨v40, h40, rfl⟩ := hF.val 9 40 (by kernel_rfl) (by kernel_rfl)
     rw [if_pos (by kernel_rfl)]
     go_simp
     exact hK _ _ _ rfl hS (Below.refl _ _) rfl
    case o11 =>
     intro dn a w' _ hS hF K hK
     have h5 := hF.out 5 (by kernel_rfl) rfl
     obtain ⟨v41, h41, rfl⟩ := hF.val 10 41 (by kernel_rfl) (by kernel_rfl)
     rw [if_pos (wanted_yes 10 rfl (by kernel_rfl) h41)]
     go_simp
     exact hK _ _ _ rfl hS (Below.refl _ _) rfl
    case o12 =>
     intro dn a w' _ hS hF K hK
     obtain ⟨v42, h42, rfl⟩ := hF.val 11 42 (by kernel_rfl) (by kernel_rfl)
     obtain ⟨v41, h41, rfl⟩ := hF.val 10 41 (by kernel_rfl) (by kernel_rfl)
     rw [if_pos (wanted_yes 10 rfl (by kernel_rfl) h41)]
     go_simp
     exact hK _ _ _ rfl hS (Below.refl _ _) (by show Value.bool _ = Value.bool _; rw [decide_eq_true (by omega)])
    case o13 =>
     intro dn a w' _ hS hF K hK
     obtain ⟨v43, h43, rfl⟩ := hF.val 12 43 (by kernel_rfl) (by kernel_rfl)
     obtain ⟨v41, h41, rfl⟩ := hF.val 10 41 (by kernel_rfl) (by kernel_rfl)
     rw [if_pos (wanted_yes 10 rfl (by kernel_rfl) h41)]
     go_simp
     exact hK _ _ _ rfl hS (Below.refl _ _) rfl
    case o14 =>
     intro dn a w' _ hS hF K hK
     have h2 := hF.out 2 (by kernel_rfl) rfl
     obtain ⟨v44, h44, rfl⟩ := hF.val 13 44 (by kernel_rfl) (by kernel_rfl)
     have s0' := (hS.cell (by dsimp only; omega)).trans s0
     have s1' := (hS.cell (by dsimp only; omega)).trans s1
     have r0' := (hS.cell (by dsimp only; omega)).trans r0
     have r1' := (hS.cell (by dsimp only; omega)).trans r1
     have r2' := (hS.cell (by dsimp only; omega)).trans r2
     have c0' := (hS.cell (by dsimp only; omega)).trans c0
     have c1' := (hS.cell (by dsimp only; omega)).trans c1
     have c2' := (hS.cell (by dsimp only; omega)).trans c2
     have c3' := (hS.cell (by dsimp only; omega)).trans c3
     have c4' := (hS.cell (by dsimp only; omega)).trans c4
     have c5' := (hS.cell (by dsimp only; omega)).trans c5
     have c6' := (hS.cell (by dsimp only; omega)).trans c6
     have c7' := (hS.cell (by dsimp only; omega)).trans c7
     have c8' := (hS.cell (by dsimp only; omega)).trans c8
     have m0' := (hS.cell (by dsimp only; omega)).trans m0
     have o0' := (hS.cell (by dsimp only; omega)).trans o0
     have o1' := (hS.cell (by dsimp only; omega)).trans o1
     rw [if_pos (wanted_yes 13 rfl (by kernel_rfl) h44)]
     go_simp
     exact hK _ _ _ rfl hS (Below.refl _ _) rfl
    case o15 =>
     intro dn a w' _ hS hF K hK
     have h3 := hF.out 3 (by kernel_rfl) rfl
     obtain ⟨v44, h44, rfl⟩ := hF.val 13 44 (by kernel_rfl) (by kernel_rfl)
     rw [if_pos (wanted_yes 13 rfl (by kernel_rfl) h44)]
     go_simp
     exact hK _ _ _ rfl hS (Below.refl _ _) rfl
    case o16 =>
     intro dn a w' _ hS hF K hK
     obtain ⟨v46, h46, rfl⟩ := hF.val 15 46 (by kernel_rfl) (by kernel_rfl)
     obtain ⟨v44, h44, rfl⟩ := hF.val 13 44 (by kernel_rfl) (by kernel_rfl)
     have s0' := (hS.cell (by dsimp only; omega)).trans s0
     have s1' := (hS.cell (by dsimp only; omega)).trans s1
     have r0' := (hS.cell (by dsimp only; omega)).trans r0
     have r1' := (hS.cell (by dsimp only; omega)).trans r1
     have r2' := (hS.cell (by dsimp only; omega)).trans r2
     have c0' := (hS.cell (by dsimp only; omega)).trans c0
     have c1' := (hS.cell (by dsimp only; omega)).trans c1
     have c2' := (hS.cell (by dsimp only; omega)).trans c2
     have c3' := (hS.cell (by dsimp only; omega)).trans c3
     have c4' := (hS.cell (by dsimp only; omega)).trans c4
     have c5' := (hS.cell (by dsimp only; omega)).trans c5
     have c6' := (hS.cell (by dsimp only; omega)).trans c6
     have c7' := (hS.cell (by dsimp only; omega)).trans c7
     have c8' := (hS.cell (by dsimp only; omega)).trans c8
     have m0' := (hS.cell (by dsimp only; omega)).trans m0
     have o0' := (hS.cell (by dsimp only; omega)).trans o0
     have o1' := (hS.cell (by dsimp only; omega)).trans o1
     rw [if_pos (wanted_yes 13 rfl (by kernel_rfl) h44)]
     go_simp
     exact hK _ _ _ rfl hS (Below.refl _ _) rfl
    case o17 =>
     intro dn a w' _ hS hF K hK
     have h5 := hF.out 5 (by kernel_rfl) rfl
     obtain ⟨v44, h44, rfl⟩ := hF.val 13 44 (by kernel_rfl) (by kernel_rfl)
     rw [if_pos (wanted_yes 13 rfl (by kernel_rfl) h44)]
     go_simp
     exact hK _ _ _ rfl hS (Below.refl _ _) rfl
    case o18 =>
     intro dn a w' _ hS hF K hK
     obtain ⟨v48, h48, rfl⟩ := hF.val 17 48 (by kernel_rfl) (by kernel_rfl)
     obtain ⟨v44, h44, rfl⟩ := hF.val 13 44 (by kernel_rfl) (by kernel_rfl)
     rw [if_pos (wanted_yes 13 rfl (by kernel_rfl) h44)]
     go_simp
     exact hK _ _ _ rfl hS (Below.refl _ _) rfl
    case o19 =>
     intro dn a w' _ hS hF K hK
     obtain ⟨v47, h47, rfl⟩ := hF.val 16 47 (by kernel_rfl) (by kernel_rfl)
     obtain ⟨v49, h49, rfl⟩ := hF.val 18 49 (by kernel_rfl) (by kernel_rfl)
     obtain ⟨v44, h44, rfl⟩ := hF.val 13 44 (by kernel_rfl) (by kernel_rfl)
     rw [if_pos (wanted_yes 13 rfl (by kernel_rfl) h44)]
     go_simp
     exact hK _ _ _ rfl hS (Below.refl _ _) rfl
    case o20 =>
     intro dn a w' _ hS hF K hK
     obtain ⟨v50, h50, rfl⟩ := hF.val 19 50 (by kernel_rfl) (by kernel_rfl)
     obtain ⟨v44, h44, rfl⟩ := hF.val 13 44 (by kernel_rfl) (by kernel_rfl)
     have s0' := (hS.cell (by dsimp only; omega)).trans s0
     have s1' := (hS.cell (by dsimp only; omega)).trans s1
     have r0' := (hS.cell (by dsimp only; omega)).trans r0
     have r1' := (hS.cell (by dsimp only; omega)).trans r1
     have r2' := (hS.cell (by dsimp only; omega)).trans r2
     have c0' := (hS.cell (by dsimp only; omega)).trans c0
     have c1' := (hS.cell (by dsimp only; omega)).trans c1
     have c2' := (hS.cell (by dsimp only; omega)).trans c2
     have c3' := (hS.cell (by dsimp only; omega)).trans c3
     have c4' := (hS.cell (by dsimp only; omega)).trans c4
     have c5' := (hS.cell (by dsimp only; omega)).trans c5
     have c6' := (hS.cell (by dsimp only; omega)).trans c6
     have c7' := (hS.cell (by dsimp only; omega)).trans c7
     have c8' := (hS.cell (by dsimp only; omega)).trans c8
     have m0' := (hS.cell (by dsimp only; omega)).trans m0
     have o0' := (hS.cell (by dsimp only; omega)).trans o0
     have o1' := (hS.cell (by dsimp only; omega)).trans o1
     rw [if_pos (wanted_yes 13 rfl (by kernel_rfl) h44)]
     go_simp
     exact hK _ _ _ rfl hS (Below.refl _ _) rfl
    case o21 =>
     intro dn a w' _ hS hF K hK
     have h3 := hF.out 3 (by kernel_rfl) rfl
     obtain ⟨v44, h44, rfl⟩ := hF.val 13 44 (by kernel_rfl) (by kernel_rfl)
     rw [if_pos (wanted_yes 13 rfl (by kernel_rfl) h44)]
     go_simp
     exact hK _ _ _ rfl hS (Below.refl _ _) rfl
    case o22 =>
     intro dn a w' _ hS hF K hK
     obtain ⟨v52, h52, rfl⟩ := hF.val 21 52 (by kernel_rfl) (by kernel_rfl)
     obtain ⟨v44, h44, rfl⟩ := hF.val 13 44 (by kernel_rfl) (by kernel_rfl)
     have s0' := (hS.cell (by dsimp only; omega)).trans s0
     have s1' := (hS.cell (by dsimp only; omega)).trans s1
     have r0' := (hS.cell (by dsimp only; omega)).trans r0
     have r1' := (hS.cell (by dsimp only; omega)).trans r1
     have r2' := (hS.cell (by dsimp only; omega)).trans r2
     have c0' := (hS.cell (by dsimp only; omega)).trans c0
     have c1' := (hS.cell (by dsimp only; omega)).trans c1
     have c2' := (hS.cell (by dsimp only; omega)).trans c2
     have c3' := (hS.cell (by dsimp only; omega)).trans c3
     have c4' := (hS.cell (by dsimp only; omega)).trans c4
     have c5' := (hS.cell (by dsimp only; omega)).trans c5
     have c6' := (hS.cell (by dsimp only; omega)).trans c6
     have c7' := (hS.cell (by dsimp only; omega)).trans c7
     have c8' := (hS.cell (by dsimp only; omega)).trans c8
     have m0' := (hS.cell (by dsimp only; omega)).trans m0
     have o0' := (hS.cell (by dsimp only; omega)).trans o0
     have o1' := (hS.cell (by dsimp only; omega)).trans o1
     rw [if_pos (wanted_yes 13 rfl (by kernel_rfl) h44)]
     go_simp
     exact hK _ _ _ rfl hS (Below.refl _ _) rfl
    case o23 =>
     intro dn a w' _ hS hF K hK
     have h5 := hF.out 5 (by kernel_rfl) rfl
     obtain ⟨v44, h44, rfl⟩ := hF.val 13 44 (by kernel_rfl) (by kernel_rfl)
     rw [if_pos (wanted_yes 13 rfl (by kernel_rfl) h44)]
     go_simp
     exact hK _ _ _ rfl hS (Below.refl _ _) rfl
    case o24 =>
     intro dn a w' _ hS hF K hK
     obtain ⟨v54, h54, rfl⟩ := hF.val 23 54 (by kernel_rfl) (by kernel_rfl)
     obtain ⟨v44, h44, rfl⟩ := hF.val 13 44 (by kernel_rfl) (by kernel_rfl)
     rw [if_pos (wanted_yes 13 rfl (by kernel_rfl) h44)]
     go_simp
     exact hK _ _ _ rfl hS (Below.refl _ _) rfl
    case o25 =>
     intro dn a w' _ hS hF K hK
     obtain ⟨v53, h53, rfl⟩ := hF.val 22 53 (by kernel_rfl) (by kernel_rfl)
     obtain ⟨v55, h55, rfl⟩ := hF.val 24 55 (by kernel_rfl) (by kernel_rfl)
     obtain ⟨v44, h44, rfl⟩ := hF.val 13 44 (by kernel_rfl) (by kernel_rfl)
     rw [if_pos (wanted_yes 13 rfl (by kernel_rfl) h44)]
     go_simp
     exact hK _ _ _ rfl hS (Below.refl _ _) rfl
    case o26 =>
     intro dn a w' _ hS hF K hK
     obtain ⟨v56, h56, rfl⟩ := hF.val 25 56 (by kernel_rfl) (by kernel_rfl)
     obtain ⟨v44, h44, rfl⟩ := hF.val 13 44 (by kernel_rfl) (by kernel_rfl)
     have s0' := (hS.cell (by dsimp only; omega)).trans s0
     have s1' := (hS.cell (by dsimp only; omega)).trans s1
     have r0' := (hS.cell (by dsimp only; omega)).trans r0
     have r1' := (hS.cell (by dsimp only; omega)).trans r1
     have r2' := (hS.cell (by dsimp only; omega)).trans r2
     have c0' := (hS.cell (by dsimp only; omega)).trans c0
     have c1' := (hS.cell (by dsimp only; omega)).trans c1
     have c2' := (hS.cell (by dsimp only; omega)).trans c2
     have c3' := (hS.cell (by dsimp only; omega)).trans c3
     have c4' := (hS.cell (by dsimp only; omega)).trans c4
     have c5' := (hS.cell (by dsimp only; omega)).trans c5
     have c6' := (hS.cell (by dsimp only; omega)).trans c6
     have c7' := (hS.cell (by dsimp only; omega)).trans c7
     have c8' := (hS.cell (by dsimp only; omega)).trans c8
     have m0' := (hS.cell (by dsimp only; omega)).trans m0
     have o0' := (hS.cell (by dsimp only; omega)).trans o0
     have o1' := (hS.cell (by dsimp only; omega)).trans o1
     rw [if_pos (wanted_yes 13 rfl (by kernel_rfl) h44)]
     go_simp
     exact hK _ _ _ rfl hS (Below.refl _ _) rfl
    case o27 =>
     intro dn a w' _ hS hF K hK
     have h6 := hF.out 6 (by kernel_rfl) rfl
     obtain ⟨v44, h44, rfl⟩ := hF.val 13 44 (by kernel_rfl) (by kernel_rfl)
     have s0' := (hS.cell (by dsimp only; omega)).trans s0
     have s1' := (hS.cell (by dsimp only; omega)).trans s1
     have r0' := (hS.cell (by dsimp only; omega)).trans r0
     have r1' := (hS.cell (by dsimp only; omega)).trans r1
     have r2' := (hS.cell (by dsimp only; omega)).trans r2
     have c0' := (hS.cell (by dsimp only; omega)).trans c0
     have c1' := (hS.cell (by dsimp only; omega)).trans c1
     have c2' := (hS.cell (by dsimp only; omega)).trans c2
     have c3' := (hS.cell (by dsimp only; omega)).trans c3
     have c4' := (hS.cell (by dsimp only; omega)).trans c4
     have c5' := (hS.cell (by dsimp only; omega)).trans c5
     have c6' := (hS.cell (by dsimp only; omega)).trans c6
     have c7' := (hS.cell (by dsimp only; omega)).trans c7
     have c8' := (hS.cell (by dsimp only; omega)).trans c8
     have m0' := (hS.cell (by dsimp only; omega)).trans m0
     have o0' := (hS.cell (by dsimp only; omega)).trans o0
     have o1' := (hS.cell (by dsimp only; omega)).trans o1
     rw [if_pos (wanted_yes 13 rfl (by kernel_rfl) h44)]
     go_simp
     exact hK _ _ _ rfl hS (Below.refl _ _) rfl
    case o28 =>
     intro dn a w' _ hS hF K hK
     obtain ⟨v45, h45, rfl⟩ := hF.val 14 45 (by kernel_rfl) (by kernel_rfl)
     obtain ⟨v51, h51, rfl⟩ := hF.val 20 51 (by kernel_rfl) (by kernel_rfl)
     obtain ⟨v57, h57, rfl⟩ := hF.val 26 57 (by kernel_rfl) (by kernel_rfl)
     obtain ⟨v58, h58, rfl⟩ := hF.val 27 58 (by kernel_rfl) (by kernel_rfl)
     obtain ⟨v44, h44, rfl⟩ := hF.val 13 44 (by kernel_rfl) (by kernel_rfl)
     rw [if_pos (wanted_yes 13 rfl (by kernel_rfl) h44)]
     go_simp
     refine (mayBeMoves_any ww th pa pcap pl od sn oa sa of_.length ocap ss.length scap w' (HVa.out.below hS) hFs (Cs.below HMl.out hS hS.size) hpl).mono ?_
     rintro e w'' ⟨rfl, hb⟩
     exact hK _ _ _ rfl (hS.trans (hb.mono hS.size)) hb (by show Value.bool _ = Value.bool _; rw [HMv.out])
    case o29 =>
     intro dn a w' _ hS hF K hK
     obtain ⟨v59, h59, rfl⟩ := hF.val 28 59 (by kernel_rfl) (by kernel_rfl)
     obtain ⟨v44, h44, rfl⟩ := hF.val 13 44 (by kernel_rfl) (by kernel_rfl)
     rw [if_pos (wanted_yes 13 rfl (by kernel_rfl) h44)]
     go_simp
     exact hK _ _ _ rfl hS (Below.refl _ _) rfl
    case o30 =>
     intro dn a w' _ hS hF K hK
     obtain ⟨v44, h44, rfl⟩ := hF.val 13 44 (by kernel_rfl) (by kernel_rfl)
     obtain ⟨v60, h60, rfl⟩ := hF.val 29 60 (by kernel_rfl) (by kernel_rfl)
     obtain ⟨v41, h41, rfl⟩ := hF.val 10 41 (by kernel_rfl) (by kernel_rfl)
     rw [if_pos (wanted_yes 10 rfl (by kernel_rfl) h41)]
     go_simp
     exact hK _ _ _ rfl hS (Below.refl _ _) rfl
    case o31 =>
     intro dn a w' _ hS hF K hK
     obtain ⟨v41, h41, rfl⟩ := hF.val 10 41 (by kernel_rfl) (by kernel_rfl)
     obtain ⟨v61, h61, rfl⟩ := hF.val 30 61 (by kernel_rfl) (by kernel_rfl)
     rw [if_pos (by kernel_rfl)]
     go_simp
     exact hK _ _ _ rfl hS (Below.refl _ _) rfl
    case hmono =>
     intro i j v w1 w2 _ _ _ _ _ hv _
     exact hv
    case hend =>
     intro dn w5 vs hS hv
     have hvL : vs 31 = .bool (!mv) := hv 31 (by decide)
     clear hv
     simp only [putsL, Nat.reduceAdd, Act.put, List.setIfInBounds_toArray, List.set_cons_zero, List.set_cons_succ, hvL]
     have HBf := hid (HBa.out.trans (hS.mono (by omega)))
     have HWf := hid (HWa.out.trans (hS.mono HWa.out.size))
     cases mv with
     | false =>
      have HR2 := hid (HR.out.trans (HNo.out HVr.out))
      go_wp2
      go_ret
      exact ⟨ret_bool HR2.out.symm, HWf.out⟩
     | true =>
      have HY := hid (HYes.out HVr.out)
      go_wp2
      go_roundw
      case rel => exact ⟨k + 1, by omega, by go_num, HY.out, HBf.out⟩
      case measure => simp [intOf]; omega
   ·
    have hlt2 : ¬ (k : Int) < x.vs.length := by omega
    obtain rfl : k = x.vs.length := by omega
    have HR2 := hid (HR.out.trans HAl.out)
    go_wp2_with fail
    go_ret
    exact ⟨ret_bool HR2.out.symm, HWr.out⟩
end Go.Proofs.YtldmanfgmadbfaaGreatDoor
