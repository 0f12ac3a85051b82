/- A script of raw things is six acts at most. -/
import Derived.Test.YtdfmimgjdchafaaGreatDoorKLater
import Derived.Test.YtdfmimgjdchafaaGreatDoorInv2
namespace Go.Proofs.YtdfmimgjdchafaaGreatDoor
set_option maxRecDepth 100000
open Go.RowKit
set_option linter.unusedVariables false
set_option linter.unusedSimpArgs false
theorem one5_at (w : World) {b : Nat} (hb : b = w.heap.size) (v0 v1 v2 v3 v4 : Value) (h : ∀ u ∈ #[v0, v1, v2, v3, v4].toList, u.oneCell' = true) : One5 0 (.slice (some ⟨b, 0, none⟩) 1 1) (w.alloc (.cells #[v0, v1, v2, v3, v4] 44)) := by
  subst hb
  exact ⟨_, _, rfl, Nat.zero_le _, heap_alloc_new w _, rfl, h⟩
/-- Six acts at most. -/
def Few (v : Value) : Prop := ∃ a n c, v = .slice a n c ∧ n ≤ 6
set_option maxRecDepth 100000 in
set_option maxHeartbeats 8000000 in
theorem Script_any (w : World) (ra : Option Addr) (rn rc : Nat) (hR : Raws w w.heap.size ra rn) (h1 : rn ≤ rc) (h2 : rc ≤ maxLen) (hT : TabB w w.heap.size) :
    Calls Tryz.prog 4 #[.slice ra rn rc, .int .i64 5] w fun e w' => (∃ v, e = .returned v ∧ Few v) ∧ Below w.heap.size w w' := by
  have hmr : (min (rn : Int) 10).toNat ≤ rn := by omega
  have HF := hid (First_any w ra (min (rn : Int) 10).toNat rc (raws_pre hR hmr) (by omega) h2 hT)
  generalize hB0 : w.heap.size = B at *
  have HR0 := hid hR
  have HTT0 := hid hT
  have hmx : rc ≤ 9223372036854775807 := by unfold maxLen at h2; omega
  clear hR hT
  go_enter Tryz.func4, Tryz.ntmps4
  go_wp2_with fail
  have hcall := HF.out
  go_fit hcall
  clear hcall HF
  rintro e w1 ⟨⟨v, rfl, s, rfl, hzs⟩, hb1⟩
  go_wp2_with fail
  go_loopw [6, 7, 8] (fun v i _ wr => ∃ k : Nat, i = .int .i64 k ∧ k ≤ rn ∧ k ≤ 5 ∧ Out B (k + 1) v wr ∧ Below B w wr) (fun _ i _ _ => 5 - (intOf i).toNat)
  case atStart =>
    have hz1 := hb1.size
    refine ⟨0, rfl, by omega, by omega, ⟨1, _, ⟨rfl, Or.inr ⟨_, 1, _, rfl, by omega, heap_alloc_new w1 _, Nat.le_refl _, by decide, rfl, rfl⟩⟩, Nat.le_refl _⟩, hb1.alloc (by have := hb1.size; omega) _⟩
  case round =>
    obtain ⟨k, rfl, hk1, hk5, hO, hbr⟩ := hrel
    by_cases hc : k < rn ∧ k < 5
    case neg =>
      obtain ⟨oa, on, oc, rfl, hon⟩ := hO.slice
      have hx : ¬ (k : Int) < rn ∨ ¬ (k : Int) < 5 := by omega
      by_cases hkr : (k : Int) < rn
      · have hk5' : ¬ (k : Int) < 5 := by omega
        go_wp2_with fail
        go_ret
        exact ⟨⟨_, rfl, oa, on, oc, rfl, by omega⟩, hbr⟩
      · go_wp2_with fail
        go_ret
        exact ⟨⟨_, rfl, oa, on, oc, rfl, by omega⟩, hbr⟩
    obtain ⟨hkr, hk55⟩ := hc
    obtain ⟨b, o, kk, x, y, z, rfl, hbB, d0, d1, d2, d3, hi0, hi1, hi2, hi3⟩ := HR0.out k hkr
    have d0 := (hbr.cell (p := ⟨b, _, none⟩) hbB).trans d0
    have d1 := (hbr.cell (p := ⟨b, _, none⟩) hbB).trans d1
    have d2 := (hbr.cell (p := ⟨b, _, none⟩) hbB).trans d2
    have d3 := (hbr.cell (p := ⟨b, _, none⟩) hbB).trans d3
    have HB := hid (And.intro hi0 (And.intro hi1 (And.intro hi2 hi3)))
    have hBr := hbr.size
    rw [hB0] at hBr
    obtain ⟨j, hj, hjl⟩ := pick_ofNat kk 9 (by omega)
    rw [show ((9 : Nat) : Int) = 9 from rfl] at hj
    have HP := hid (fun w' => picked_any kk 9 w' hi0.1 hi0.2 (by omega) (by omega))
    generalize hW : wr.alloc (.cells #[.int .i64 kk, .int .i64 x, .int .i64 y, .int .i64 z] 46) = W
    have hbrW : Below wr.heap.size wr W := by rw [← hW]; exact (Below.refl _ _).alloc (Nat.le_refl _) _
    have hbx : wr.heap.size < W.heap.size := by rw [← hW]; simp
    have c0 : W.cell? ⟨wr.heap.size, 0, none⟩ = some (.int .i64 kk) := by rw [← hW, World.cell?_alloc_at _ _ _ _ rfl]; rfl
    have c1 : W.cell? ⟨wr.heap.size, 1, none⟩ = some (.int .i64 x) := by rw [← hW, World.cell?_alloc_at _ _ _ _ rfl]; rfl
    have c2 : W.cell? ⟨wr.heap.size, 2, none⟩ = some (.int .i64 y) := by rw [← hW, World.cell?_alloc_at _ _ _ _ rfl]; rfl
    have c3 : W.cell? ⟨wr.heap.size, 3, none⟩ = some (.int .i64 z) := by rw [← hW, World.cell?_alloc_at _ _ _ _ rfl]; rfl
    have hnr : ¬ u6.ownBlock = some wr.heap.size := fun e => by
      obtain ⟨n, cells, hr, _⟩ := hO
      have := (rowS_lt hr e).2
      omega
    have hrB : ∀ g, u6.ownBlock = some g → B ≤ g := fun g e => by
      obtain ⟨n, cells, hr, _⟩ := hO
      exact (rowS_lt hr e).1
    have hBW : B ≤ W.heap.size := by omega
    have hbW : Below B w W := hbr.trans (hbrW.mono hBr)
    have HO := hid (hO.keep hbrW)
    have HO2 := hid (fun w' (h : Below W.heap.size W w') => HO.out.keep h)
    have HR := hid (HR0.out.below hbW)
    have HTT := hid (HTT0.out.below hbW)
    obtain ⟨hf, hhf, hfk⟩ : ∃ hf : Nat, Int.tdiv (k : Int) 2 = (hf : Int) ∧ hf ≤ k := ⟨k / 2, by rw [Int.tdiv_eq_ediv_of_nonneg (by omega)]; omega, by omega⟩
    clear hO
    go_wp2_with fail
    try simp only [hW]
    have hcall := HP.out W
    go_fit hcall
    clear hcall HP
    rintro e w2 ⟨rfl, hw2⟩
    rw [hw2, hj]
    clear hw2 w2
    by_cases hj0 : j = 0
    · subst hj0
      go_wp2_with fail
      refine Late.wp_region_invL 10 (SA u6.ownBlock W 9) (RA 9 W.heap.size) (fun i v w' => match i with
        | 0 => v = u6
        | 1 => v = .slice (some ⟨b, o, none⟩) rn rc
        | 2 => v = .int .i64 (k : Int)
        | 3 => v = .int .i64 (hf : Int)
        | 4 => RawsOk W B v (rn - hf)
        | 5 => v = .agg #[.int .i64 kk, .int .i64 x, .int .i64 y, .int .i64 z]
        | 6 => Sm 700 v
        | 7 => ∃ s, v = .agg #[.int .i64 1, .string s, .string ⟨#[]⟩, .slice none 0 0, .int .i64 0]
        | 8 => One5 W.heap.size v w'
        | 9 => Out B (k + 2) v w'
        | _ => True) (by kernel_rfl) (by kernel_rfl) (by kernel_rfl) (SA.init (Below.refl _ _).drew) ?hmono ⟨?o0, ?o1, ?o2, ?o3, ?o4, ?o5, ?o6, ?o7, ?o8, ?o9, trivial⟩ ?hend
      case o0 =>
        intro dn a w' hdn hS hF K hK
        have h6 : a.tmps[6]? = some u6 := (hF.late 10 _ 6 (Nat.le_refl _) rfl rfl).trans rfl
        rw [if_pos (by kernel_rfl)]
        go_simp
        exact hK _ _ _ rfl (hS.up (by decide) (Below.refl _ _)) (RA.of (by decide) (Below.refl _ _)) rfl
      case o1 =>
        intro dn a w' hdn hS hF K hK
        have h0 := hF.out 0 (by kernel_rfl) rfl
        rw [if_pos (by kernel_rfl)]
        go_simp
        exact hK _ _ _ rfl (hS.up (by decide) (Below.refl _ _)) (RA.of (by decide) (Below.refl _ _)) rfl
      case o2 =>
        intro dn a w' hdn hS hF K hK
        have h7 := hF.out 7 (by kernel_rfl) rfl
        rw [if_pos (by kernel_rfl)]
        go_simp
        exact hK _ _ _ rfl (hS.up (by decide) (Below.refl _ _)) (RA.of (by decide) (Below.refl _ _)) rfl
      case o3 =>
        intro dn a w' hdn hS hF K hK
        obtain ⟨v58, h58, rfl⟩ := hF.val 2 58 (by kernel_rfl) (by kernel_rfl)
        rw [if_pos (by kernel_rfl)]
        have hwf : IntKind.i64.wrap (hf : Int) = (hf : Int) := by rw [IntKind.wrap_i64]; omega
        go_simp
        exact hK _ _ _ rfl (hS.up (by decide) (Below.refl _ _)) (RA.of (by decide) (Below.refl _ _)) rfl
      case o4 =>
        intro dn a w' hdn hS hF K hK
        obtain ⟨v57, h57, rfl⟩ := hF.val 1 57 (by kernel_rfl) (by kernel_rfl)
        obtain ⟨v59, h59, rfl⟩ := hF.val 3 59 (by kernel_rfl) (by kernel_rfl)
        rw [if_pos (by kernel_rfl)]
        have hfn : hf ≤ rn := by omega
        have hfn2 : (hf : Int) ≤ rn := by omega
        have hcap : (rn : Int) ≤ rc := by omega
        go_simp
        exact hK _ _ _ rfl (hS.up (by decide) (Below.refl _ _)) (RA.of (by decide) (Below.refl _ _)) ⟨⟨_, rc - hf, rfl, by omega, by omega, (by have := raws_cut HR.out hf rn rc (by omega) (by omega) h1; simpa only [Option.map_some, add_plain] using this)⟩⟩
      case o5 =>
        intro dn a w' hdn hS hF K hK
        have h8 := hF.out 8 (by kernel_rfl) rfl
        have c0' := (hS.cell hbx hnr).trans c0
        have c1' := (hS.cell hbx hnr).trans c1
        have c2' := (hS.cell hbx hnr).trans c2
        have c3' := (hS.cell hbx hnr).trans c3
        rw [if_pos (by kernel_rfl)]
        go_simp
        exact hK _ _ _ rfl (hS.up (by decide) (Below.refl _ _)) (RA.of (by decide) (Below.refl _ _)) rfl
      case o6 =>
        intro dn a w' hdn hS hF K hK
        obtain ⟨v60, h60, hr⟩ := hF.val 4 60 (by kernel_rfl) (by kernel_rfl)
        obtain ⟨v61, h61, rfl⟩ := hF.val 5 61 (by kernel_rfl) (by kernel_rfl)
        rw [if_pos (by kernel_rfl)]
        obtain ⟨a, cap, rfl, g1, g2, g3⟩ := hr.row
        have hbB := hS.bel hBW hrB
        have hle := Nat.le_trans hBW hbB.size
        go_simp
        refine (Later_any w' a _ cap kk x y z ((g3.below hbB).up hle) g1 g2 ((HTT.out.below hbB).up hle) HB.out.1 HB.out.2.1 HB.out.2.2.1).mono ?_
        rintro e w'' ⟨⟨v, rfl, hv⟩, hb⟩
        exact hK _ _ _ rfl (hS.up (by decide) hb) (RA.of (by decide) hb) hv
      case o7 =>
        intro dn a w' hdn hS hF K hK
        obtain ⟨v62, h62, ⟨s62, rfl, hz62⟩⟩ := hF.val 6 62 (by kernel_rfl) (by kernel_rfl)
        rw [if_pos (by kernel_rfl)]
        go_simp
        exact hK _ _ _ rfl (hS.up (by decide) (Below.refl _ _)) (RA.of (by decide) (Below.refl _ _)) ⟨_, rfl⟩
      case o8 =>
        intro dn a w' hdn hS hF K hK
        obtain ⟨v63, h63, ⟨s63, rfl⟩⟩ := hF.val 7 63 (by kernel_rfl) (by kernel_rfl)
        rw [if_pos (by kernel_rfl)]
        have hsz := hS.old.size
        go_simp
        exact hK _ _ _ rfl (hS.up (by decide) ((Below.refl _ _).alloc (Nat.le_refl _) _)) (RA.of (by decide) ((Below.refl _ _).alloc (Nat.le_refl _) _)) ⟨_, _, rfl, hsz, heap_alloc_new w' _, rfl, by simp [Value.oneCell']⟩
      case o9 =>
        intro dn a w' hdn hS hF K hK
        obtain ⟨v56, h56, rfl⟩ := hF.val 0 56 (by kernel_rfl) (by kernel_rfl)
        obtain ⟨v64, h64, h5⟩ := hF.val 8 64 (by kernel_rfl) (by kernel_rfl)
        rw [if_pos (by kernel_rfl)]
        exact wp_act 56 64 rfl hBW hS (hdn _ (Or.inl rfl)) h56 HO.out (by omega) h64 h5 (fun v' w'' g1 g2 g3 => hK _ _ _ rfl g1 g2 g3)
      case hmono =>
        intro i j v w1 w2 _ _ hne hwt _ hv hR
        by_cases hjq : j = 9
        · subst hjq
          rcases i with _ | _ | _ | _ | _ | _ | _ | _ | _ | _ | i
          all_goals first | exact hv | exact hv.keep hR.keep | exact absurd rfl hne | exact absurd (hwt.symm.trans (by kernel_rfl : _ = true)) (by decide)
        · have hb := hR.bel hjq
          rcases i with _ | _ | _ | _ | _ | _ | _ | _ | _ | _ | i
          all_goals first | exact hv | exact hv.keep (fun k _ hk => hb.block k hk) | exact hv.keep hb
      case hend =>
        intro dn w5 vs _ hS hv
        have hO5 : Out B (k + 2) (vs 9) w5 := hv 9 (by decide)
        clear hv
        simp only [Late.putsL, List.take_succ_cons, List.take_zero, Nat.reduceAdd, Act.put, List.setIfInBounds_toArray, List.set_cons_zero, List.set_cons_succ]
        generalize vs 9 = vL at hO5 ⊢
        change wpOps _ _ _ [10] _ _
        refine Late.wpOps_step rfl rfl (fun K hK => ?_)
        go_simp
        refine hK _ _ ?_
        clear hK
        simp only [wpOps]
        have hbF := hbW.trans (hS.bel hBW hrB)
        go_wp2_with fail
        go_roundw
        case rel => exact ⟨k + 1, by push_cast; rfl, by omega, by omega, hO5, hbF⟩
        case measure => simp [intOf] <;> omega
    by_cases hj1 : j = 1
    · subst hj1
      go_wp2_with (at_builtin; go_must (refine wpList_act rfl 68 70 rfl (Nat.le_trans hBW (by first | (simp; done) | (simp; omega))) rfl (HO2.out _ ((Below.refl _ _).alloc (Nat.le_refl _) _)) (by omega) rfl (one5_at _ (by simp) _ _ _ _ _ (by simp [Value.oneCell'])) ?_; intro vL wL hbL hO5))
      have hbF := hbW.trans (Below.trans (((Below.refl _ _).alloc (Nat.le_refl _) _).mono hBW) hbL)
      go_wp2_with fail
      go_roundw
      case rel => exact ⟨k + 1, by push_cast; rfl, by omega, by omega, hO5, hbF⟩
      case measure => simp [intOf] <;> omega
    by_cases hj2 : j = 2
    · subst hj2
      obtain ⟨j4, hj4, hjl4⟩ := pick_ofNat x 4 (by omega)
      rw [show ((4 : Nat) : Int) = 4 from rfl] at hj4
      have HP := hid (fun w' => picked_any x 4 w' hi1.1 hi1.2 (by omega) (by omega))
      go_wp2_with fail
      have hcall := HP.out (W.alloc (.cells #[.string ⟨#[40, 100, 101, 102, 105, 110, 101, 32, 40, 115, 104, 111, 119, 32, 110, 41, 32, 120, 41]⟩, .string ⟨#[40, 100, 101, 102, 105, 110, 101, 32, 40, 98, 111, 116, 104, 32, 110, 41, 32, 40, 99, 111, 110, 115, 32, 120, 32, 121, 41, 41]⟩, .string ⟨#[40, 100, 101, 102, 105, 110, 101, 32, 40, 102, 32, 110, 41, 32, 40, 112, 32, 110, 32, 110, 41, 41]⟩, .string ⟨#[40, 100, 101, 102, 105, 110, 101, 32, 40, 107, 101, 101, 112, 32, 110, 41, 32, 40, 98, 101, 103, 105, 110, 32, 40, 115, 101, 116, 33, 32, 121, 32, 40, 99, 111, 110, 115, 32, 40, 112, 32, 110, 32, 120, 41, 32, 121, 41, 41, 32, 110, 41, 41]⟩] 9))
      go_fit hcall
      clear hcall HP
      rintro e w3 ⟨rfl, hw3⟩
      rw [hw3, hj4]
      clear hw3 w3
      have hcs : j4 = 0 ∨ j4 = 1 ∨ j4 = 2 ∨ j4 = 3 := by omega
      rcases hcs with rfl | rfl | rfl | rfl
      · go_wp2_with (at_builtin; go_must (refine wpList_act rfl 74 82 rfl (Nat.le_trans hBW (by first | (simp; done) | (simp; omega))) rfl (HO2.out _ (((Below.refl _ _).alloc (Nat.le_refl _) _).alloc (by simp) _)) (by omega) rfl (one5_at _ (by simp) _ _ _ _ _ (by simp [Value.oneCell'])) ?_; intro vL wL hbL hO5))
        have hbF := hbW.trans (Below.trans ((((Below.refl _ _).alloc (Nat.le_refl _) _).alloc (by simp) _).mono hBW) hbL)
        go_wp2_with fail
        go_roundw
        case rel => exact ⟨k + 1, by push_cast; rfl, by omega, by omega, hO5, hbF⟩
        case measure => simp [intOf] <;> omega
      · go_wp2_with (at_builtin; go_must (refine wpList_act rfl 74 82 rfl (Nat.le_trans hBW (by first | (simp; done) | (simp; omega))) rfl (HO2.out _ (((Below.refl _ _).alloc (Nat.le_refl _) _).alloc (by simp) _)) (by omega) rfl (one5_at _ (by simp) _ _ _ _ _ (by simp [Value.oneCell'])) ?_; intro vL wL hbL hO5))
        have hbF := hbW.trans (Below.trans ((((Below.refl _ _).alloc (Nat.le_refl _) _).alloc (by simp) _).mono hBW) hbL)
        go_wp2_with fail
        go_roundw
        case rel => exact ⟨k + 1, by push_cast; rfl, by omega, by omega, hO5, hbF⟩
        case measure => simp [intOf] <;> omega
      · go_wp2_with (at_builtin; go_must (refine wpList_act rfl 74 82 rfl (Nat.le_trans hBW (by first | (simp; done) | (simp; omega))) rfl (HO2.out _ (((Below.refl _ _).alloc (Nat.le_refl _) _).alloc (by simp) _)) (by omega) rfl (one5_at _ (by simp) _ _ _ _ _ (by simp [Value.oneCell'])) ?_; intro vL wL hbL hO5))
        have hbF := hbW.trans (Below.trans ((((Below.refl _ _).alloc (Nat.le_refl _) _).alloc (by simp) _).mono hBW) hbL)
        go_wp2_with fail
        go_roundw
        case rel => exact ⟨k + 1, by push_cast; rfl, by omega, by omega, hO5, hbF⟩
        case measure => simp [intOf] <;> omega
      · go_wp2_with (at_builtin; go_must (refine wpList_act rfl 74 82 rfl (Nat.le_trans hBW (by first | (simp; done) | (simp; omega))) rfl (HO2.out _ (((Below.refl _ _).alloc (Nat.le_refl _) _).alloc (by simp) _)) (by omega) rfl (one5_at _ (by simp) _ _ _ _ _ (by simp [Value.oneCell'])) ?_; intro vL wL hbL hO5))
        have hbF := hbW.trans (Below.trans ((((Below.refl _ _).alloc (Nat.le_refl _) _).alloc (by simp) _).mono hBW) hbL)
        go_wp2_with fail
        go_roundw
        case rel => exact ⟨k + 1, by push_cast; rfl, by omega, by omega, hO5, hbF⟩
        case measure => simp [intOf] <;> omega
    have hn0 : ¬ (j : Int) = 0 := by omega
    have hn1 : ¬ (j : Int) = 1 := by omega
    have hn2 : ¬ (j : Int) = 2 := by omega
    go_wp2_with fail
    refine Late.wp_region_invL 18 (SA u6.ownBlock W 17) (RA 17 W.heap.size) (fun i v w' => match i with
      | 0 => v = u6
      | 1 => Strs W.heap.size 6 #[.string ⟨#[102]⟩, .string ⟨#[103]⟩, .string ⟨#[104]⟩, .string ⟨#[115, 104, 111, 119]⟩, .string ⟨#[98, 111, 116, 104]⟩, .string ⟨#[107, 101, 101, 112]⟩] v w'
      | 2 => v = .pointer (some ⟨wr.heap.size, 1, none⟩)
      | 3 => v = .int .i64 x
      | 4 => ∃ j : Nat, v = .int .i64 j ∧ j < 6
      | 5 => Cel W.heap.size 6 #[.string ⟨#[102]⟩, .string ⟨#[103]⟩, .string ⟨#[104]⟩, .string ⟨#[115, 104, 111, 119]⟩, .string ⟨#[98, 111, 116, 104]⟩, .string ⟨#[107, 101, 101, 112]⟩] v w'
      | 6 => ∃ s, v = .string s
      | 7 => v = .pointer (some ⟨wr.heap.size, 2, none⟩)
      | 8 => v = .int .i64 y
      | 9 => ∃ j : Int, v = .int .i64 j
      | 10 => ∃ j : Int, v = .agg #[.int .i64 1, .int .i64 j, .string ⟨#[]⟩, .slice none 0 0]
      | 11 => ∃ b : Nat, v = .slice (some ⟨b, 0, none⟩) 1 1
      | 12 => v = .pointer (some ⟨wr.heap.size, 3, none⟩)
      | 13 => v = .int .i64 z
      | 14 => ∃ j : Int, v = .int .i64 j
      | 15 => ∃ (s : ByteArray) (b : Nat) (j : Int), v = .agg #[.int .i64 2, .string ⟨#[]⟩, .string s, .slice (some ⟨b, 0, none⟩) 1 1, .int .i64 j]
      | 16 => One5 W.heap.size v w'
      | 17 => Out B (k + 2) v w'
      | _ => True) (by kernel_rfl) (by kernel_rfl) (by kernel_rfl) (SA.init (Below.refl _ _).drew) ?hmono ⟨?o0, ?o1, ?o2, ?o3, ?o4, ?o5, ?o6, ?o7, ?o8, ?o9, ?o10, ?o11, ?o12, ?o13, ?o14, ?o15, ?o16, ?o17, trivial⟩ ?hend
    case o0 =>
      intro dn a w' hdn hS hF K hK
      have h6 : a.tmps[6]? = some u6 := (hF.late 18 _ 6 (Nat.le_refl _) rfl rfl).trans rfl
      rw [if_pos (by kernel_rfl)]
      go_simp
      exact hK _ _ _ rfl (hS.up (by decide) (Below.refl _ _)) (RA.of (by decide) (Below.refl _ _)) rfl
    case o1 =>
      intro dn a w' hdn hS hF K hK
      rw [if_pos (by kernel_rfl)]
      have hsz := hS.old.size
      go_simp
      exact hK _ _ _ rfl (hS.up (by decide) ((Below.refl _ _).alloc (Nat.le_refl _) _)) (RA.of (by decide) ((Below.refl _ _).alloc (Nat.le_refl _) _)) ⟨_, rfl, hsz, heap_alloc_new w' _⟩
    case o2 =>
      intro dn a w' hdn hS hF K hK
      have h8 := hF.out 8 (by kernel_rfl) rfl
      rw [if_pos (by kernel_rfl)]
      go_simp
      exact hK _ _ _ rfl (hS.up (by decide) (Below.refl _ _)) (RA.of (by decide) (Below.refl _ _)) rfl
    case o3 =>
      intro dn a w' hdn hS hF K hK
      obtain ⟨v38, h38, rfl⟩ := hF.val 2 38 (by kernel_rfl) (by kernel_rfl)
      have c0' := (hS.cell hbx hnr).trans c0
      have c1' := (hS.cell hbx hnr).trans c1
      have c2' := (hS.cell hbx hnr).trans c2
      have c3' := (hS.cell hbx hnr).trans c3
      rw [if_pos (by kernel_rfl)]
      go_simp
      exact hK _ _ _ rfl (hS.up (by decide) (Below.refl _ _)) (RA.of (by decide) (Below.refl _ _)) rfl
    case o4 =>
      intro dn a w' hdn hS hF K hK
      obtain ⟨v39, h39, rfl⟩ := hF.val 3 39 (by kernel_rfl) (by kernel_rfl)
      rw [if_pos (by kernel_rfl)]
      go_simp
      refine (picked_any x 6 w' HB.out.2.1.1 HB.out.2.1.2 (by omega) (by omega)).mono ?_
      rintro e w'' ⟨rfl, rfl⟩
      obtain ⟨j, hj, hjl⟩ := pick_ofNat x 6 (by omega)
      exact hK _ _ _ rfl (hS.up (by decide) (Below.refl _ _)) (RA.of (by decide) (Below.refl _ _)) ⟨j, congrArg _ hj, hjl⟩
    case o5 =>
      intro dn a w' hdn hS hF K hK
      obtain ⟨v37, h37, ⟨b37, rfl, hb37a, hb37⟩⟩ := hF.val 1 37 (by kernel_rfl) (by kernel_rfl)
      obtain ⟨v40, h40, ⟨j40, rfl, hj40⟩⟩ := hF.val 4 40 (by kernel_rfl) (by kernel_rfl)
      rw [if_pos (by kernel_rfl)]
      have hj' : (j40 : Int) < 6 := by omega
      go_simp
      exact hK _ _ _ rfl (hS.up (by decide) (Below.refl _ _)) (RA.of (by decide) (Below.refl _ _)) ⟨b37, j40, rfl, hj40, hb37a, hb37⟩
    case o6 =>
      intro dn a w' hdn hS hF K hK
      obtain ⟨v41, h41, ⟨b41, j41, rfl, hj41, hb41a, hb41⟩⟩ := hF.val 5 41 (by kernel_rfl) (by kernel_rfl)
      have c0' := (hS.cell hbx hnr).trans c0
      have c1' := (hS.cell hbx hnr).trans c1
      have c2' := (hS.cell hbx hnr).trans c2
      have c3' := (hS.cell hbx hnr).trans c3
      rw [if_pos (by kernel_rfl)]
      have hcs : j41 = 0 ∨ j41 = 1 ∨ j41 = 2 ∨ j41 = 3 ∨ j41 = 4 ∨ j41 = 5 := by omega
      rcases hcs with rfl | rfl | rfl | rfl | rfl | rfl
      · have hc : w'.cell? ⟨b41, 0, none⟩ = some (.string ⟨#[102]⟩) := by simp [World.cell?, hb41]
        go_simp
        exact hK _ _ _ rfl (hS.up (by decide) (Below.refl _ _)) (RA.of (by decide) (Below.refl _ _)) ⟨_, rfl⟩
      · have hc : w'.cell? ⟨b41, 1, none⟩ = some (.string ⟨#[103]⟩) := by simp [World.cell?, hb41]
        go_simp
        exact hK _ _ _ rfl (hS.up (by decide) (Below.refl _ _)) (RA.of (by decide) (Below.refl _ _)) ⟨_, rfl⟩
      · have hc : w'.cell? ⟨b41, 2, none⟩ = some (.string ⟨#[104]⟩) := by simp [World.cell?, hb41]
        go_simp
        exact hK _ _ _ rfl (hS.up (by decide) (Below.refl _ _)) (RA.of (by decide) (Below.refl _ _)) ⟨_, rfl⟩
      · have hc : w'.cell? ⟨b41, 3, none⟩ = some (.string ⟨#[115, 104, 111, 119]⟩) := by simp [World.cell?, hb41]
        go_simp
        exact hK _ _ _ rfl (hS.up (by decide) (Below.refl _ _)) (RA.of (by decide) (Below.refl _ _)) ⟨_, rfl⟩
      · have hc : w'.cell? ⟨b41, 4, none⟩ = some (.string ⟨#[98, 111, 116, 104]⟩) := by simp [World.cell?, hb41]
        go_simp
        exact hK _ _ _ rfl (hS.up (by decide) (Below.refl _ _)) (RA.of (by decide) (Below.refl _ _)) ⟨_, rfl⟩
      · have hc : w'.cell? ⟨b41, 5, none⟩ = some (.string ⟨#[107, 101, 101, 112]⟩) := by simp [World.cell?, hb41]
        go_simp
        exact hK _ _ _ rfl (hS.up (by decide) (Below.refl _ _)) (RA.of (by decide) (Below.refl _ _)) ⟨_, rfl⟩
    case o7 =>
      intro dn a w' hdn hS hF K hK
      have h8 := hF.out 8 (by kernel_rfl) rfl
      rw [if_pos (by kernel_rfl)]
      go_simp
      exact hK _ _ _ rfl (hS.up (by decide) (Below.refl _ _)) (RA.of (by decide) (Below.refl _ _)) rfl
    case o8 =>
      intro dn a w' hdn hS hF K hK
      obtain ⟨v43, h43, rfl⟩ := hF.val 7 43 (by kernel_rfl) (by kernel_rfl)
      have c0' := (hS.cell hbx hnr).trans c0
      have c1' := (hS.cell hbx hnr).trans c1
      have c2' := (hS.cell hbx hnr).trans c2
      have c3' := (hS.cell hbx hnr).trans c3
      rw [if_pos (by kernel_rfl)]
      go_simp
      exact hK _ _ _ rfl (hS.up (by decide) (Below.refl _ _)) (RA.of (by decide) (Below.refl _ _)) rfl
    case o9 =>
      intro dn a w' hdn hS hF K hK
      obtain ⟨v44, h44, rfl⟩ := hF.val 8 44 (by kernel_rfl) (by kernel_rfl)
      rw [if_pos (by kernel_rfl)]
      go_simp
      refine (picked_any y 12 w' HB.out.2.2.1.1 HB.out.2.2.1.2 (by omega) (by omega)).mono ?_
      rintro e w'' ⟨rfl, rfl⟩
      exact hK _ _ _ rfl (hS.up (by decide) (Below.refl _ _)) (RA.of (by decide) (Below.refl _ _)) ⟨_, rfl⟩
    case o10 =>
      intro dn a w' hdn hS hF K hK
      obtain ⟨v45, h45, ⟨j45, rfl⟩⟩ := hF.val 9 45 (by kernel_rfl) (by kernel_rfl)
      rw [if_pos (by kernel_rfl)]
      go_simp
      exact hK _ _ _ rfl (hS.up (by decide) (Below.refl _ _)) (RA.of (by decide) (Below.refl _ _)) ⟨_, rfl⟩
    case o11 =>
      intro dn a w' hdn hS hF K hK
      obtain ⟨v46, h46, ⟨j46, rfl⟩⟩ := hF.val 10 46 (by kernel_rfl) (by kernel_rfl)
      rw [if_pos (by kernel_rfl)]
      go_simp
      exact hK _ _ _ rfl (hS.up (by decide) ((Below.refl _ _).alloc (Nat.le_refl _) _)) (RA.of (by decide) ((Below.refl _ _).alloc (Nat.le_refl _) _)) ⟨_, rfl⟩
    case o12 =>
      intro dn a w' hdn hS hF K hK
      have h8 := hF.out 8 (by kernel_rfl) rfl
      rw [if_pos (by kernel_rfl)]
      go_simp
      exact hK _ _ _ rfl (hS.up (by decide) (Below.refl _ _)) (RA.of (by decide) (Below.refl _ _)) rfl
    case o13 =>
      intro dn a w' hdn hS hF K hK
      obtain ⟨v48, h48, rfl⟩ := hF.val 12 48 (by kernel_rfl) (by kernel_rfl)
      have c0' := (hS.cell hbx hnr).trans c0
      have c1' := (hS.cell hbx hnr).trans c1
      have c2' := (hS.cell hbx hnr).trans c2
      have c3' := (hS.cell hbx hnr).trans c3
      rw [if_pos (by kernel_rfl)]
      go_simp
      exact hK _ _ _ rfl (hS.up (by decide) (Below.refl _ _)) (RA.of (by decide) (Below.refl _ _)) rfl
    case o14 =>
      intro dn a w' hdn hS hF K hK
      obtain ⟨v49, h49, rfl⟩ := hF.val 13 49 (by kernel_rfl) (by kernel_rfl)
      rw [if_pos (by kernel_rfl)]
      go_simp
      refine (picked_any z 400 w' HB.out.2.2.2.1 HB.out.2.2.2.2 (by omega) (by omega)).mono ?_
      rintro e w'' ⟨rfl, rfl⟩
      exact hK _ _ _ rfl (hS.up (by decide) (Below.refl _ _)) (RA.of (by decide) (Below.refl _ _)) ⟨_, rfl⟩
    case o15 =>
      intro dn a w' hdn hS hF K hK
      obtain ⟨v42, h42, ⟨s42, rfl⟩⟩ := hF.val 6 42 (by kernel_rfl) (by kernel_rfl)
      obtain ⟨v47, h47, ⟨b47, rfl⟩⟩ := hF.val 11 47 (by kernel_rfl) (by kernel_rfl)
      obtain ⟨v50, h50, ⟨j50, rfl⟩⟩ := hF.val 14 50 (by kernel_rfl) (by kernel_rfl)
      rw [if_pos (by kernel_rfl)]
      go_simp
      exact hK _ _ _ rfl (hS.up (by decide) (Below.refl _ _)) (RA.of (by decide) (Below.refl _ _)) ⟨_, _, _, rfl⟩
    case o16 =>
      intro dn a w' hdn hS hF K hK
      obtain ⟨v51, h51, ⟨s51, b51, j51, rfl⟩⟩ := hF.val 15 51 (by kernel_rfl) (by kernel_rfl)
      rw [if_pos (by kernel_rfl)]
      have hsz := hS.old.size
      go_simp
      exact hK _ _ _ rfl (hS.up (by decide) ((Below.refl _ _).alloc (Nat.le_refl _) _)) (RA.of (by decide) ((Below.refl _ _).alloc (Nat.le_refl _) _)) ⟨_, _, rfl, hsz, heap_alloc_new w' _, rfl, by simp [Value.oneCell']⟩
    case o17 =>
      intro dn a w' hdn hS hF K hK
      obtain ⟨v36, h36, rfl⟩ := hF.val 0 36 (by kernel_rfl) (by kernel_rfl)
      obtain ⟨v52, h52, h5⟩ := hF.val 16 52 (by kernel_rfl) (by kernel_rfl)
      rw [if_pos (by kernel_rfl)]
      exact wp_act 36 52 rfl hBW hS (hdn _ (Or.inl rfl)) h36 HO.out (by omega) h52 h5 (fun v' w'' g1 g2 g3 => hK _ _ _ rfl g1 g2 g3)
    case hmono =>
      intro i j v w1 w2 _ _ hne hwt _ hv hR
      by_cases hjq : j = 17
      · subst hjq
        rcases i with _ | _ | _ | _ | _ | _ | _ | _ | _ | _ | _ | _ | _ | _ | _ | _ | _ | _ | i
        all_goals first | exact hv | exact hv.keep hR.keep | exact absurd rfl hne | exact absurd (hwt.symm.trans (by kernel_rfl : _ = true)) (by decide)
      · have hb := hR.bel hjq
        rcases i with _ | _ | _ | _ | _ | _ | _ | _ | _ | _ | _ | _ | _ | _ | _ | _ | _ | _ | i
        all_goals first | exact hv | exact hv.keep (fun k _ hk => hb.block k hk) | exact hv.keep hb
    case hend =>
      intro dn w5 vs _ hS hv
      have hO5 : Out B (k + 2) (vs 17) w5 := hv 17 (by decide)
      clear hv
      simp only [Late.putsL, List.take_succ_cons, List.take_zero, Nat.reduceAdd, Act.put, List.setIfInBounds_toArray, List.set_cons_zero, List.set_cons_succ]
      generalize vs 17 = vL at hO5 ⊢
      change wpOps _ _ _ [18] _ _
      refine Late.wpOps_step rfl rfl (fun K hK => ?_)
      go_simp
      refine hK _ _ ?_
      clear hK
      simp only [wpOps]
      have hbF := hbW.trans (hS.bel hBW hrB)
      go_wp2_with fail
      go_roundw
      case rel => exact ⟨k + 1, by push_cast; rfl, by omega, by omega, hO5, hbF⟩
      case measure => simp [intOf] <;> omega
end Go.Proofs.YtdfmimgjdchafaaGreatDoor
