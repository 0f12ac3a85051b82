/- The bard's expression, cases 8, 9, 10, 11, 12. -/
import Derived.Test.YtdfmimgjdchafaaGreatDoorBSub
import Derived.Deep.Cut
namespace Go.Proofs.YtdfmimgjdchafaaGreatDoor
set_option maxRecDepth 100000
open Go.RowKit
set_option linter.unusedVariables false
set_option linter.unusedSimpArgs false
set_option maxRecDepth 100000 in
set_option maxHeartbeats 4000000 in
theorem expr_c8 {B bb n D M : Nat} (hD : 2 ≤ D) (hM : 20 ≤ M) (hM2 : M ≤ 1000000) (ih : ExprAt B bb n D M) (hn : n ≤ 900) (w : World) (lv : Value) (names : List ByteArray) (d k x y z : Int) (hd0 : 0 < d) (hd : d ≤ n + 1) (hB : B ≤ w.heap.size) (h : Bard w B bb lv names) (hT : TabB w B) (hN : NamesOk names (999 - n))
    (hx_k : i64B k) (hx_x : i64B x) (hx_y : i64B y) (hx_z : i64B z)
    (HN0 : Calls Tryz.prog 31 #[.pointer (some ⟨bb, 0, none⟩)] ((w.alloc (.cells #[.pointer (some ⟨bb, 0, none⟩)] 59)).alloc (.cells #[.int .i64 d] 3)) fun e w' => e = .returned (.agg #[.int .i64 k, .int .i64 x, .int .i64 y, .int .i64 z]) ∧ Bard w' B bb lv names ∧ Kept bb none ((w.alloc (.cells #[.pointer (some ⟨bb, 0, none⟩)] 59)).alloc (.cells #[.int .i64 d] 3)) w') (he : pick k 20 = 8) :
    Calls Tryz.prog 17 #[.pointer (some ⟨bb, 0, none⟩), .int .i64 d] w fun e w' => (∃ v, e = .returned v ∧ InL (Tr (D + 5) (3 * M + 100)) v) ∧ Stp B bb names names w w' := by
  have hlt := h.lt
  generalize hW1 : (w.alloc (.cells #[.pointer (some ⟨bb, 0, none⟩)] 59)).alloc (.cells #[.int .i64 d] 3) = W1 at HN0
  have hbel1 : Below w.heap.size w W1 := by rw [← hW1]; exact ((Below.refl _ _).alloc (Nat.le_refl _) _).alloc (by simp) _
  have hB1 : Bard W1 B bb lv names := h.keep hB hbel1
  have HN := hid HN0
  clear HN0
  have hsz : W1.heap.size = w.heap.size + 2 := by rw [← hW1]; simp
  have b0 : W1.cell? ⟨w.heap.size, 0, none⟩ = some (.pointer (some ⟨bb, 0, none⟩)) := by rw [← hW1, World.cell?_alloc_past _ _ _ (by simp), World.cell?_alloc_at _ _ _ _ rfl]; rfl
  have b1 : W1.cell? ⟨w.heap.size + 1, 0, none⟩ = some (.int .i64 d) := by rw [← hW1, World.cell?_alloc_at _ _ _ _ (by simp)]; rfl
  have hT1 : TabB W1 B := hT.below (hbel1.mono hB)
  have hmf : ∀ (fn : Fn) (first cap : Array Value) (w : World), (Instr.makeFunc fn first cap).run Tryz.prog w = .ok (.func fn first cap) w := fun _ _ _ _ => rfl
  have HNO := hid hN
  have HIH := hid ih
  have HB := hid h
  clear hN ih
  go_enter Tryz.func17, Tryz.ntmps17
  go_wp2_with fail
  have hcall := HN.out
  go_fit hcall
  clear hcall
  rintro e w1 ⟨rfl, hb1, hK1⟩
  have hz1 := hK1.size
  have b0' := (hK1.cell (p := ⟨w.heap.size, 0, none⟩) (by simp only; omega) (by simp only; omega) (by simp)).trans b0
  have b1' := (hK1.cell (p := ⟨w.heap.size + 1, 0, none⟩) (by simp only; omega) (by simp only; omega) (by simp)).trans b1
  have hT2 : TabB w1 B := hT1.below (hK1.below h.own (fun g hg => by cases hg) (by omega))
  have hq0 : w.heap.size < w1.heap.size := by omega
  have hq1 : w.heap.size + 1 < w1.heap.size := by omega
  go_wp2_with fail
  have hO := h.own
  generalize hW2 : w1.alloc (.cells #[.int .i64 k, .int .i64 x, .int .i64 y, .int .i64 z] 46) = W2
  have hbel2 : Below w1.heap.size w1 W2 := by rw [← hW2]; exact (Below.refl _ _).alloc (Nat.le_refl _) _
  have hS12 : Stp B bb names names w W2 := by
    intro l hl
    obtain rfl := h.det hl
    exact ⟨lv, hb1.keep (by omega) hbel2, ((Kept.of_below hbel1 (Nat.le_refl _)).trans (row := lv.ownBlock) (row' := lv.ownBlock) ⟨hK1.os, hK1.tape, hK1.output, hK1.size, fun k hk h1 _ => hK1.block k hk h1 (by simp)⟩ (fun g hg => Or.inl hg)).trans (row' := none) (Kept.of_below hbel2 (Nat.le_refl _)) (by simp), fun g hg => Or.inl hg⟩
  have hB2 : Bard W2 B bb lv names := hb1.keep (by omega) hbel2
  have hrow := fun g hg => (h.row_ge (g := g) hg).2
  have apt : ∀ b, w.heap.size ≤ b → b < W2.heap.size → Apart B bb b W2 := fun b h1 h2 => ⟨h2, by omega, fun l _ k e => by
    obtain rfl := hB2.det k
    have := hrow b e
    omega⟩
  have hz2 : w1.heap.size < W2.heap.size := by rw [← hW2]; simp
  have D0 : Hid (Desk W2 B bb names w.heap.size w1.heap.size d k x y z) := hid
    ⟨⟨lv, hB2⟩, hT2.below (hbel2.mono (by omega)), (hbel2.cell (p := ⟨w.heap.size, 0, none⟩) hq0).trans b0', (hbel2.cell (p := ⟨w.heap.size + 1, 0, none⟩) hq1).trans b1',
      by rw [← hW2, World.cell?_alloc_at _ _ _ _ rfl]; rfl, by rw [← hW2, World.cell?_alloc_at _ _ _ _ rfl]; rfl, by rw [← hW2, World.cell?_alloc_at _ _ _ _ rfl]; rfl, by rw [← hW2, World.cell?_alloc_at _ _ _ _ rfl]; rfl,
      apt _ (by omega) (by omega), apt _ (by omega) (by omega), apt _ (by omega) (by omega), by omega⟩
  have S0 := hid hS12
  have d0 := D0.out.c0
  have d1 := D0.out.c1
  have HP := hid (he ▸ picked_any k 20 W2 hx_k.1 hx_k.2 (by omega) (by omega))
  clear hW1 hW2 HN b0 b1 b0' b1' hT hT1 hT2 hb1 hK1 hbel1 hbel2 hB1 hB2 apt hrow hS12 hq0 hq1 hz1 hsz hlt hz2 he hO
  generalize w.heap.size = p at *
  generalize w1.heap.size = q at *
  have hcall := HP.out
  go_fit hcall
  clear hcall HP
  rintro e w3 ⟨rfl, rfl⟩
  have hU := fun (names : List ByteArray) (w' : World) (hd' : Desk w' B bb names p q d k x y z) (hN' : NamesOk names (1000 - n)) => sub_any HIH.out hd' hd0 hd (by omega) hN'
  have hE := fun (names : List ByteArray) (w' : World) (hd' : Desk w' B bb names p q d k x y z) (hN' : NamesOk names (1000 - n)) => expr_at HIH.out hd' hd0 hd hN'
  have HNO2 : Hid (NamesOk names (1000 - n)) := hid ⟨HNO.out.pos, Nat.le_trans HNO.out.len (by omega), HNO.out.ok⟩
  have hN := HNO.out
  clear hE
  go_upto_region 21 with fail
  refine wp_region_invA (fun _ w' => Desk w' B bb names p q d k x y z ∧ Stp B bb names names w w') (fun _ => Stp B bb names names) (fun i v w' => match i with
    | 0 => ∃ b, v = .slice (some ⟨b, 0, none⟩) 2 2 ∧ RowT B bb b 2 D M w'
    | 1 => v = .pointer (some ⟨q, 1, none⟩)
    | 2 => v = .int .i64 x
    | 3 => ∃ j : Nat, v = .int .i64 j ∧ j < 2
    | 4 => ∃ b j, v = .pointer (some ⟨b, j, none⟩) ∧ j < 2 ∧ RowT B bb b 2 D M w'
    | 5 => InL (Tr D M) v
    | 6 => InL (Cat (One [40]) (Tr D M)) v
    | 7 => InL (Cat (Cat (One [40]) (Tr D M)) (One [32, 40, 112, 32])) v
    | 8 => v = .func (.func 33) #[] #[.pointer (some ⟨p, 0, none⟩), .pointer (some ⟨p + 1, 0, none⟩)]
    | 9 => InL (Tr D M) v
    | 10 => InL (Cat (Cat (Cat (One [40]) (Tr D M)) (One [32, 40, 112, 32])) (Tr D M)) v
    | 11 => InL (Cat (Cat (Cat (Cat (One [40]) (Tr D M)) (One [32, 40, 112, 32])) (Tr D M)) (One [32])) v
    | 12 => v = .func (.func 33) #[] #[.pointer (some ⟨p, 0, none⟩), .pointer (some ⟨p + 1, 0, none⟩)]
    | 13 => InL (Tr D M) v
    | 14 => InL (Cat (Cat (Cat (Cat (Cat (One [40]) (Tr D M)) (One [32, 40, 112, 32])) (Tr D M)) (One [32])) (Tr D M)) v
    | 15 => InL (Cat (Cat (Cat (Cat (Cat (Cat (One [40]) (Tr D M)) (One [32, 40, 112, 32])) (Tr D M)) (One [32])) (Tr D M)) (One [41, 41])) v
    | 16 => InL (Cat (Cat (Cat (Cat (Cat (Cat (One [40]) (Tr D M)) (One [32, 40, 112, 32])) (Tr D M)) (One [32])) (Tr D M)) (One [41, 41])) v
    | _ => True) (by kernel_rfl) (by kernel_rfl) ?hst ?hmono ⟨?o0, ?o1, ?o2, ?o3, ?o4, ?o5, ?o6, ?o7, ?o8, ?o9, ?o10, ?o11, ?o12, ?o13, ?o14, ?o15, ?o16, trivial⟩ ?hend
  case hst => exact ⟨D0.out.step (Stp.of_below D0.out.size (drewN_below _ 1)), S0.out.trans (Stp.of_below D0.out.size (drewN_below _ 1))⟩
  case hmono =>
    intro i j v w1 w2 _ _ _ _ ⟨_, hS⟩ hv hR
    obtain ⟨l, hl⟩ := hS.1.bard
    rcases i with _ | _ | _ | _ | _ | _ | _ | _ | _ | _ | _ | _ | _ | _ | _ | _ | _ | i
    all_goals first | exact hv | (obtain ⟨b, h1, h2⟩ := hv; exact ⟨b, h1, h2.step hR hl⟩) | (obtain ⟨b, j, h1, h2, h3⟩ := hv; exact ⟨b, j, h1, h2, h3.step hR hl⟩)
  case o0 =>
    intro dn a w' _ hS hF K hK
    rw [if_pos (by kernel_rfl)]
    obtain ⟨l, hl⟩ := hS.1.bard
    go_simp
    have hs := Stp.of_below (bb := bb) (names := names) hS.1.size ((Below.refl w'.heap.size w').alloc (Nat.le_refl _) (.cells #[.string ⟨#[112, 45, 97]⟩, .string ⟨#[112, 45, 98]⟩] 9))
    refine hK _ _ _ rfl ⟨hS.1.step hs, hS.2.trans hs⟩ hs ⟨_, rfl, _, ⟨heap_alloc_new w' _, Apart.new hl hS.1.size _⟩, rfl, row_of ⟨word_ok hD hM [112, 45, 97] (by decide +kernel), word_ok hD hM [112, 45, 98] (by decide +kernel), trivial⟩⟩
  case o1 =>
    intro dn a w' _ hS hF K hK
    have h5 := hF.out 5 (by kernel_rfl) rfl
    rw [if_pos (by kernel_rfl)]
    go_simp
    exact hK _ _ _ rfl hS (Stp.refl _ _ _ _) rfl
  case o2 =>
    intro dn a w' _ hS hF K hK
    obtain ⟨v113, h113, rfl⟩ := hF.val 1 113 (by kernel_rfl) (by kernel_rfl)
    have hc := hS.1.c1
    rw [if_pos (by kernel_rfl)]
    go_simp
    exact hK _ _ _ rfl hS (Stp.refl _ _ _ _) rfl
  case o3 =>
    intro dn a w' _ hS hF K hK
    obtain ⟨v114, h114, rfl⟩ := hF.val 2 114 (by kernel_rfl) (by kernel_rfl)
    rw [if_pos (by kernel_rfl)]
    go_simp
    refine (picked_any x 2 w' hx_x.1 hx_x.2 (by omega) (by omega)).mono ?_
    rintro e w'' ⟨rfl, rfl⟩
    obtain ⟨j, hj, hjl⟩ := pick_nat x 2 (by omega)
    rw [hj]
    exact hK _ _ _ rfl hS (Stp.refl _ _ _ _) ⟨j, rfl, by omega⟩
  case o4 =>
    intro dn a w' _ hS hF K hK
    obtain ⟨v112, h112, b112, rfl, hr112⟩ := hF.val 0 112 (by kernel_rfl) (by kernel_rfl)
    obtain ⟨v115, h115, j115, rfl, hj115⟩ := hF.val 3 115 (by kernel_rfl) (by kernel_rfl)
    have hj' : (j115 : Int) < 2 := by omega
    rw [if_pos (by kernel_rfl)]
    go_simp
    exact hK _ _ _ rfl hS (Stp.refl _ _ _ _) ⟨b112, j115, rfl, by omega, hr112⟩
  case o5 =>
    intro dn a w' _ hS hF K hK
    obtain ⟨v116, h116, b116, j116, rfl, hj116, hr116⟩ := hF.val 4 116 (by kernel_rfl) (by kernel_rfl)
    obtain ⟨u, hc, hu⟩ := hr116.cell hj116
    rw [if_pos (by kernel_rfl)]
    go_simp
    exact hK _ _ _ rfl hS (Stp.refl _ _ _ _) hu
  case o6 =>
    intro dn a w' _ hS hF K hK
    obtain ⟨v117, h117, hl117⟩ := hF.val 5 117 (by kernel_rfl) (by kernel_rfl)
    obtain ⟨s117, rfl⟩ := inL_str hl117
    rw [if_pos (by kernel_rfl)]
    go_simp
    have hz0 := (Bnd.one [40]).size (InL.one [40])
    have hz1 := (Bnd.tr D M).size (hl117)
    try simp only [List.length_cons, List.length_nil] at hz0 hz1
    rw [if_neg (by omega)]
    exact hK _ _ _ rfl hS (Stp.refl _ _ _ _) (InL.cat (InL.one [40]) (hl117))
  case o7 =>
    intro dn a w' _ hS hF K hK
    obtain ⟨v118, h118, hl118⟩ := hF.val 6 118 (by kernel_rfl) (by kernel_rfl)
    obtain ⟨s118, rfl⟩ := inL_str hl118
    rw [if_pos (by kernel_rfl)]
    go_simp
    have hz0 := ((Bnd.one [40]).cat (Bnd.tr D M)).size (hl118)
    have hz1 := (Bnd.one [32, 40, 112, 32]).size (InL.one [32, 40, 112, 32])
    try simp only [List.length_cons, List.length_nil] at hz0 hz1
    rw [if_neg (by omega)]
    exact hK _ _ _ rfl hS (Stp.refl _ _ _ _) (InL.cat (hl118) (InL.one [32, 40, 112, 32]))
  case o8 =>
    intro dn a w' _ hS hF K hK
    have h6 := hF.out 6 (by kernel_rfl) rfl
    rw [if_pos (by kernel_rfl)]
    go_simp
    exact hK _ _ _ rfl hS (Stp.refl _ _ _ _) rfl
  case o9 =>
    intro dn a w' _ hS hF K hK
    obtain ⟨v120, h120, rfl⟩ := hF.val 8 120 (by kernel_rfl) (by kernel_rfl)
    rw [if_pos (by kernel_rfl)]
    go_simp
    refine (hU names w' hS.1 HNO2.out).mono ?_
    rintro e w'' ⟨⟨v, rfl, hv⟩, hs⟩
    exact hK _ _ _ rfl ⟨hS.1.step hs, hS.2.trans hs⟩ hs hv
  case o10 =>
    intro dn a w' _ hS hF K hK
    obtain ⟨v119, h119, hl119⟩ := hF.val 7 119 (by kernel_rfl) (by kernel_rfl)
    obtain ⟨s119, rfl⟩ := inL_str hl119
    obtain ⟨v121, h121, hl121⟩ := hF.val 9 121 (by kernel_rfl) (by kernel_rfl)
    obtain ⟨s121, rfl⟩ := inL_str hl121
    rw [if_pos (by kernel_rfl)]
    go_simp
    have hz0 := (((Bnd.one [40]).cat (Bnd.tr D M)).cat (Bnd.one [32, 40, 112, 32])).size (hl119)
    have hz1 := (Bnd.tr D M).size (hl121)
    try simp only [List.length_cons, List.length_nil] at hz0 hz1
    rw [if_neg (by omega)]
    exact hK _ _ _ rfl hS (Stp.refl _ _ _ _) (InL.cat (hl119) (hl121))
  case o11 =>
    intro dn a w' _ hS hF K hK
    obtain ⟨v122, h122, hl122⟩ := hF.val 10 122 (by kernel_rfl) (by kernel_rfl)
    obtain ⟨s122, rfl⟩ := inL_str hl122
    rw [if_pos (by kernel_rfl)]
    go_simp
    have hz0 := ((((Bnd.one [40]).cat (Bnd.tr D M)).cat (Bnd.one [32, 40, 112, 32])).cat (Bnd.tr D M)).size (hl122)
    have hz1 := (Bnd.one [32]).size (InL.one [32])
    try simp only [List.length_cons, List.length_nil] at hz0 hz1
    rw [if_neg (by omega)]
    exact hK _ _ _ rfl hS (Stp.refl _ _ _ _) (InL.cat (hl122) (InL.one [32]))
  case o12 =>
    intro dn a w' _ hS hF K hK
    have h6 := hF.out 6 (by kernel_rfl) rfl
    rw [if_pos (by kernel_rfl)]
    go_simp
    exact hK _ _ _ rfl hS (Stp.refl _ _ _ _) rfl
  case o13 =>
    intro dn a w' _ hS hF K hK
    obtain ⟨v124, h124, rfl⟩ := hF.val 12 124 (by kernel_rfl) (by kernel_rfl)
    rw [if_pos (by kernel_rfl)]
    go_simp
    refine (hU names w' hS.1 HNO2.out).mono ?_
    rintro e w'' ⟨⟨v, rfl, hv⟩, hs⟩
    exact hK _ _ _ rfl ⟨hS.1.step hs, hS.2.trans hs⟩ hs hv
  case o14 =>
    intro dn a w' _ hS hF K hK
    obtain ⟨v123, h123, hl123⟩ := hF.val 11 123 (by kernel_rfl) (by kernel_rfl)
    obtain ⟨s123, rfl⟩ := inL_str hl123
    obtain ⟨v125, h125, hl125⟩ := hF.val 13 125 (by kernel_rfl) (by kernel_rfl)
    obtain ⟨s125, rfl⟩ := inL_str hl125
    rw [if_pos (by kernel_rfl)]
    go_simp
    have hz0 := (((((Bnd.one [40]).cat (Bnd.tr D M)).cat (Bnd.one [32, 40, 112, 32])).cat (Bnd.tr D M)).cat (Bnd.one [32])).size (hl123)
    have hz1 := (Bnd.tr D M).size (hl125)
    try simp only [List.length_cons, List.length_nil] at hz0 hz1
    rw [if_neg (by omega)]
    exact hK _ _ _ rfl hS (Stp.refl _ _ _ _) (InL.cat (hl123) (hl125))
  case o15 =>
    intro dn a w' _ hS hF K hK
    obtain ⟨v126, h126, hl126⟩ := hF.val 14 126 (by kernel_rfl) (by kernel_rfl)
    obtain ⟨s126, rfl⟩ := inL_str hl126
    rw [if_pos (by kernel_rfl)]
    go_simp
    have hz0 := ((((((Bnd.one [40]).cat (Bnd.tr D M)).cat (Bnd.one [32, 40, 112, 32])).cat (Bnd.tr D M)).cat (Bnd.one [32])).cat (Bnd.tr D M)).size (hl126)
    have hz1 := (Bnd.one [41, 41]).size (InL.one [41, 41])
    try simp only [List.length_cons, List.length_nil] at hz0 hz1
    rw [if_neg (by omega)]
    exact hK _ _ _ rfl hS (Stp.refl _ _ _ _) (InL.cat (hl126) (InL.one [41, 41]))
  case o16 =>
    intro dn a w' _ hS hF K hK
    obtain ⟨v127, h127, hl127⟩ := hF.val 15 127 (by kernel_rfl) (by kernel_rfl)
    obtain ⟨s127, rfl⟩ := inL_str hl127
    rw [if_pos (by kernel_rfl)]
    go_simp
    exact hK _ _ _ rfl hS (Stp.refl _ _ _ _) hl127
  case hend =>
    intro dn w' vs hS hv
    have hv16 : InL (Cat (Cat (Cat (Cat (Cat (Cat (One [40]) (Tr D M)) (One [32, 40, 112, 32])) (Tr D M)) (One [32])) (Tr D M)) (One [41, 41])) (vs 16) := hv 16 (by decide)
    clear hv
    simp only [putsL, Nat.reduceAdd, Act.put, List.setIfInBounds_toArray, List.set_cons_zero, List.set_cons_succ]
    generalize vs 16 = vL at hv16 ⊢
    obtain ⟨s, rfl⟩ := inL_str hv16
    go_wp2
    go_ret
    refine ⟨⟨_, rfl, ?_⟩, hS.2⟩
    obtain ⟨_, hl, ⟨_, _, rfl, ⟨_, _, rfl, ⟨_, _, rfl, ⟨_, _, rfl, ⟨_, _, rfl, ⟨_, _, rfl, rfl, ⟨t0, rfl, hok_t0, hdp_t0, hln_t0⟩⟩, rfl⟩, ⟨t1, rfl, hok_t1, hdp_t1, hln_t1⟩⟩, rfl⟩, ⟨t2, rfl, hok_t2, hdp_t2, hln_t2⟩⟩, rfl⟩⟩ := hv16
    rw [hl]
    exact tree_ok (.l [t0, .l [.w [112], t1, t2]]) _ (by simp [Tx.pr, Tx.prs]) (by simp [Tx.fit, Tx.fits, Tx.isL, hok_t0, hok_t1, hok_t2] <;> decide +kernel) (by simp only [Tx.dep, Tx.deps]; omega) (by simp only [List.length_append, List.length_cons, List.length_nil]; omega)
set_option maxRecDepth 100000 in
set_option maxHeartbeats 4000000 in
theorem expr_c9 {B bb n D M : Nat} (hD : 2 ≤ D) (hM : 20 ≤ M) (hM2 : M ≤ 1000000) (ih : ExprAt B bb n D M) (hn : n ≤ 900) (w : World) (lv : Value) (names : List ByteArray) (d k x y z : Int) (hd0 : 0 < d) (hd : d ≤ n + 1) (hB : B ≤ w.heap.size) (h : Bard w B bb lv names) (hT : TabB w B) (hN : NamesOk names (999 - n))
    (hx_k : i64B k) (hx_x : i64B x) (hx_y : i64B y) (hx_z : i64B z)
    (HN0 : Calls Tryz.prog 31 #[.pointer (some ⟨bb, 0, none⟩)] ((w.alloc (.cells #[.pointer (some ⟨bb, 0, none⟩)] 59)).alloc (.cells #[.int .i64 d] 3)) fun e w' => e = .returned (.agg #[.int .i64 k, .int .i64 x, .int .i64 y, .int .i64 z]) ∧ Bard w' B bb lv names ∧ Kept bb none ((w.alloc (.cells #[.pointer (some ⟨bb, 0, none⟩)] 59)).alloc (.cells #[.int .i64 d] 3)) w') (he : pick k 20 = 9) :
    Calls Tryz.prog 17 #[.pointer (some ⟨bb, 0, none⟩), .int .i64 d] w fun e w' => (∃ v, e = .returned v ∧ InL (Tr (D + 5) (3 * M + 100)) v) ∧ Stp B bb names names w w' := by
  have hlt := h.lt
  generalize hW1 : (w.alloc (.cells #[.pointer (some ⟨bb, 0, none⟩)] 59)).alloc (.cells #[.int .i64 d] 3) = W1 at HN0
  have hbel1 : Below w.heap.size w W1 := by rw [← hW1]; exact ((Below.refl _ _).alloc (Nat.le_refl _) _).alloc (by simp) _
  have hB1 : Bard W1 B bb lv names := h.keep hB hbel1
  have HN := hid HN0
  clear HN0
  have hsz : W1.heap.size = w.heap.size + 2 := by rw [← hW1]; simp
  have b0 : W1.cell? ⟨w.heap.size, 0, none⟩ = some (.pointer (some ⟨bb, 0, none⟩)) := by rw [← hW1, World.cell?_alloc_past _ _ _ (by simp), World.cell?_alloc_at _ _ _ _ rfl]; rfl
  have b1 : W1.cell? ⟨w.heap.size + 1, 0, none⟩ = some (.int .i64 d) := by rw [← hW1, World.cell?_alloc_at _ _ _ _ (by simp)]; rfl
  have hT1 : TabB W1 B := hT.below (hbel1.mono hB)
  have hmf : ∀ (fn : Fn) (first cap : Array Value) (w : World), (Instr.makeFunc fn first cap).run Tryz.prog w = .ok (.func fn first cap) w := fun _ _ _ _ => rfl
  have HNO := hid hN
  have HIH := hid ih
  have HB := hid h
  clear hN ih
  go_enter Tryz.func17, Tryz.ntmps17
  go_wp2_with fail
  have hcall := HN.out
  go_fit hcall
  clear hcall
  rintro e w1 ⟨rfl, hb1, hK1⟩
  have hz1 := hK1.size
  have b0' := (hK1.cell (p := ⟨w.heap.size, 0, none⟩) (by simp only; omega) (by simp only; omega) (by simp)).trans b0
  have b1' := (hK1.cell (p := ⟨w.heap.size + 1, 0, none⟩) (by simp only; omega) (by simp only; omega) (by simp)).trans b1
  have hT2 : TabB w1 B := hT1.below (hK1.below h.own (fun g hg => by cases hg) (by omega))
  have hq0 : w.heap.size < w1.heap.size := by omega
  have hq1 : w.heap.size + 1 < w1.heap.size := by omega
  go_wp2_with fail
  have hO := h.own
  generalize hW2 : w1.alloc (.cells #[.int .i64 k, .int .i64 x, .int .i64 y, .int .i64 z] 46) = W2
  have hbel2 : Below w1.heap.size w1 W2 := by rw [← hW2]; exact (Below.refl _ _).alloc (Nat.le_refl _) _
  have hS12 : Stp B bb names names w W2 := by
    intro l hl
    obtain rfl := h.det hl
    exact ⟨lv, hb1.keep (by omega) hbel2, ((Kept.of_below hbel1 (Nat.le_refl _)).trans (row := lv.ownBlock) (row' := lv.ownBlock) ⟨hK1.os, hK1.tape, hK1.output, hK1.size, fun k hk h1 _ => hK1.block k hk h1 (by simp)⟩ (fun g hg => Or.inl hg)).trans (row' := none) (Kept.of_below hbel2 (Nat.le_refl _)) (by simp), fun g hg => Or.inl hg⟩
  have hB2 : Bard W2 B bb lv names := hb1.keep (by omega) hbel2
  have hrow := fun g hg => (h.row_ge (g := g) hg).2
  have apt : ∀ b, w.heap.size ≤ b → b < W2.heap.size → Apart B bb b W2 := fun b h1 h2 => ⟨h2, by omega, fun l _ k e => by
    obtain rfl := hB2.det k
    have := hrow b e
    omega⟩
  have hz2 : w1.heap.size < W2.heap.size := by rw [← hW2]; simp
  have D0 : Hid (Desk W2 B bb names w.heap.size w1.heap.size d k x y z) := hid
    ⟨⟨lv, hB2⟩, hT2.below (hbel2.mono (by omega)), (hbel2.cell (p := ⟨w.heap.size, 0, none⟩) hq0).trans b0', (hbel2.cell (p := ⟨w.heap.size + 1, 0, none⟩) hq1).trans b1',
      by rw [← hW2, World.cell?_alloc_at _ _ _ _ rfl]; rfl, by rw [← hW2, World.cell?_alloc_at _ _ _ _ rfl]; rfl, by rw [← hW2, World.cell?_alloc_at _ _ _ _ rfl]; rfl, by rw [← hW2, World.cell?_alloc_at _ _ _ _ rfl]; rfl,
      apt _ (by omega) (by omega), apt _ (by omega) (by omega), apt _ (by omega) (by omega), by omega⟩
  have S0 := hid hS12
  have d0 := D0.out.c0
  have d1 := D0.out.c1
  have HP := hid (he ▸ picked_any k 20 W2 hx_k.1 hx_k.2 (by omega) (by omega))
  clear hW1 hW2 HN b0 b1 b0' b1' hT hT1 hT2 hb1 hK1 hbel1 hbel2 hB1 hB2 apt hrow hS12 hq0 hq1 hz1 hsz hlt hz2 he hO
  generalize w.heap.size = p at *
  generalize w1.heap.size = q at *
  have hcall := HP.out
  go_fit hcall
  clear hcall HP
  rintro e w3 ⟨rfl, rfl⟩
  have hU := fun (names : List ByteArray) (w' : World) (hd' : Desk w' B bb names p q d k x y z) (hN' : NamesOk names (1000 - n)) => sub_any HIH.out hd' hd0 hd (by omega) hN'
  have hE := fun (names : List ByteArray) (w' : World) (hd' : Desk w' B bb names p q d k x y z) (hN' : NamesOk names (1000 - n)) => expr_at HIH.out hd' hd0 hd hN'
  have HNO2 : Hid (NamesOk names (1000 - n)) := hid ⟨HNO.out.pos, Nat.le_trans HNO.out.len (by omega), HNO.out.ok⟩
  have hN := HNO.out
  clear hE
  go_upto_region 23 with fail
  refine wp_region_invA (fun _ w' => Desk w' B bb names p q d k x y z ∧ Stp B bb names names w w') (fun _ => Stp B bb names names) (fun i v w' => match i with
    | 0 => ∃ b, v = .slice (some ⟨b, 0, none⟩) 2 2 ∧ RowT B bb b 2 D M w'
    | 1 => v = .pointer (some ⟨q, 1, none⟩)
    | 2 => v = .int .i64 x
    | 3 => ∃ j : Nat, v = .int .i64 j ∧ j < 2
    | 4 => ∃ b j, v = .pointer (some ⟨b, j, none⟩) ∧ j < 2 ∧ RowT B bb b 2 D M w'
    | 5 => InL (Tr D M) v
    | 6 => InL (Cat (One [40]) (Tr D M)) v
    | 7 => InL (Cat (Cat (One [40]) (Tr D M)) (One [32])) v
    | 8 => v = .pointer (some ⟨bb, 0, none⟩)
    | 9 => v = .pointer (some ⟨q, 2, none⟩)
    | 10 => v = .int .i64 y
    | 11 => InL (Tr D M) v
    | 12 => ∃ b, v = .slice (some ⟨b, 0, none⟩) 3 3 ∧ RowT B bb b 3 D M w'
    | 13 => v = .pointer (some ⟨q, 3, none⟩)
    | 14 => v = .int .i64 z
    | 15 => ∃ j : Nat, v = .int .i64 j ∧ j < 3
    | 16 => ∃ b j, v = .pointer (some ⟨b, j, none⟩) ∧ j < 3 ∧ RowT B bb b 3 D M w'
    | 17 => InL (Tr D M) v
    | 18 => InL (Cat (Cat (Cat (One [40]) (Tr D M)) (One [32])) (Tr D M)) v
    | 19 => InL (Cat (Cat (Cat (Cat (One [40]) (Tr D M)) (One [32])) (Tr D M)) (One [41])) v
    | 20 => InL (Cat (Cat (Cat (Cat (One [40]) (Tr D M)) (One [32])) (Tr D M)) (One [41])) v
    | _ => True) (by kernel_rfl) (by kernel_rfl) ?hst ?hmono ⟨?o0, ?o1, ?o2, ?o3, ?o4, ?o5, ?o6, ?o7, ?o8, ?o9, ?o10, ?o11, ?o12, ?o13, ?o14, ?o15, ?o16, ?o17, ?o18, ?o19, ?o20, trivial⟩ ?hend
  case hst => exact ⟨D0.out.step (Stp.of_below D0.out.size (drewN_below _ 1)), S0.out.trans (Stp.of_below D0.out.size (drewN_below _ 1))⟩
  case hmono =>
    intro i j v w1 w2 _ _ _ _ ⟨_, hS⟩ hv hR
    obtain ⟨l, hl⟩ := hS.1.bard
    rcases i with _ | _ | _ | _ | _ | _ | _ | _ | _ | _ | _ | _ | _ | _ | _ | _ | _ | _ | _ | _ | _ | i
    all_goals first | exact hv | (obtain ⟨b, h1, h2⟩ := hv; exact ⟨b, h1, h2.step hR hl⟩) | (obtain ⟨b, j, h1, h2, h3⟩ := hv; exact ⟨b, j, h1, h2, h3.step hR hl⟩)
  case o0 =>
    intro dn a w' _ hS hF K hK
    rw [if_pos (by kernel_rfl)]
    obtain ⟨l, hl⟩ := hS.1.bard
    go_simp
    have hs := Stp.of_below (bb := bb) (names := names) hS.1.size ((Below.refl w'.heap.size w').alloc (Nat.le_refl _) (.cells #[.string ⟨#[112, 45, 97]⟩, .string ⟨#[112, 45, 98]⟩] 9))
    refine hK _ _ _ rfl ⟨hS.1.step hs, hS.2.trans hs⟩ hs ⟨_, rfl, _, ⟨heap_alloc_new w' _, Apart.new hl hS.1.size _⟩, rfl, row_of ⟨word_ok hD hM [112, 45, 97] (by decide +kernel), word_ok hD hM [112, 45, 98] (by decide +kernel), trivial⟩⟩
  case o1 =>
    intro dn a w' _ hS hF K hK
    have h5 := hF.out 5 (by kernel_rfl) rfl
    rw [if_pos (by kernel_rfl)]
    go_simp
    exact hK _ _ _ rfl hS (Stp.refl _ _ _ _) rfl
  case o2 =>
    intro dn a w' _ hS hF K hK
    obtain ⟨v131, h131, rfl⟩ := hF.val 1 131 (by kernel_rfl) (by kernel_rfl)
    have hc := hS.1.c1
    rw [if_pos (by kernel_rfl)]
    go_simp
    exact hK _ _ _ rfl hS (Stp.refl _ _ _ _) rfl
  case o3 =>
    intro dn a w' _ hS hF K hK
    obtain ⟨v132, h132, rfl⟩ := hF.val 2 132 (by kernel_rfl) (by kernel_rfl)
    rw [if_pos (by kernel_rfl)]
    go_simp
    refine (picked_any x 2 w' hx_x.1 hx_x.2 (by omega) (by omega)).mono ?_
    rintro e w'' ⟨rfl, rfl⟩
    obtain ⟨j, hj, hjl⟩ := pick_nat x 2 (by omega)
    rw [hj]
    exact hK _ _ _ rfl hS (Stp.refl _ _ _ _) ⟨j, rfl, by omega⟩
  case o4 =>
    intro dn a w' _ hS hF K hK
    obtain ⟨v130, h130, b130, rfl, hr130⟩ := hF.val 0 130 (by kernel_rfl) (by kernel_rfl)
    obtain ⟨v133, h133, j133, rfl, hj133⟩ := hF.val 3 133 (by kernel_rfl) (by kernel_rfl)
    have hj' : (j133 : Int) < 2 := by omega
    rw [if_pos (by kernel_rfl)]
    go_simp
    exact hK _ _ _ rfl hS (Stp.refl _ _ _ _) ⟨b130, j133, rfl, by omega, hr130⟩
  case o5 =>
    intro dn a w' _ hS hF K hK
    obtain ⟨v134, h134, b134, j134, rfl, hj134, hr134⟩ := hF.val 4 134 (by kernel_rfl) (by kernel_rfl)
    obtain ⟨u, hc, hu⟩ := hr134.cell hj134
    rw [if_pos (by kernel_rfl)]
    go_simp
    exact hK _ _ _ rfl hS (Stp.refl _ _ _ _) hu
  case o6 =>
    intro dn a w' _ hS hF K hK
    obtain ⟨v135, h135, hl135⟩ := hF.val 5 135 (by kernel_rfl) (by kernel_rfl)
    obtain ⟨s135, rfl⟩ := inL_str hl135
    rw [if_pos (by kernel_rfl)]
    go_simp
    have hz0 := (Bnd.one [40]).size (InL.one [40])
    have hz1 := (Bnd.tr D M).size (hl135)
    try simp only [List.length_cons, List.length_nil] at hz0 hz1
    rw [if_neg (by omega)]
    exact hK _ _ _ rfl hS (Stp.refl _ _ _ _) (InL.cat (InL.one [40]) (hl135))
  case o7 =>
    intro dn a w' _ hS hF K hK
    obtain ⟨v136, h136, hl136⟩ := hF.val 6 136 (by kernel_rfl) (by kernel_rfl)
    obtain ⟨s136, rfl⟩ := inL_str hl136
    rw [if_pos (by kernel_rfl)]
    go_simp
    have hz0 := ((Bnd.one [40]).cat (Bnd.tr D M)).size (hl136)
    have hz1 := (Bnd.one [32]).size (InL.one [32])
    try simp only [List.length_cons, List.length_nil] at hz0 hz1
    rw [if_neg (by omega)]
    exact hK _ _ _ rfl hS (Stp.refl _ _ _ _) (InL.cat (hl136) (InL.one [32]))
  case o8 =>
    intro dn a w' _ hS hF K hK
    have h2 := hF.out 2 (by kernel_rfl) rfl
    have hc := hS.1.box
    rw [if_pos (by kernel_rfl)]
    go_simp
    exact hK _ _ _ rfl hS (Stp.refl _ _ _ _) rfl
  case o9 =>
    intro dn a w' _ hS hF K hK
    have h5 := hF.out 5 (by kernel_rfl) rfl
    rw [if_pos (by kernel_rfl)]
    go_simp
    exact hK _ _ _ rfl hS (Stp.refl _ _ _ _) rfl
  case o10 =>
    intro dn a w' _ hS hF K hK
    obtain ⟨v139, h139, rfl⟩ := hF.val 9 139 (by kernel_rfl) (by kernel_rfl)
    have hc := hS.1.c2
    rw [if_pos (by kernel_rfl)]
    go_simp
    exact hK _ _ _ rfl hS (Stp.refl _ _ _ _) rfl
  case o11 =>
    intro dn a w' _ hS hF K hK
    obtain ⟨v138, h138, rfl⟩ := hF.val 8 138 (by kernel_rfl) (by kernel_rfl)
    obtain ⟨v140, h140, rfl⟩ := hF.val 10 140 (by kernel_rfl) (by kernel_rfl)
    rw [if_pos (by kernel_rfl)]
    obtain ⟨l, hl⟩ := hS.1.bard
    go_simp
    refine (local_any w' B bb l names y hl hN.pos (Nat.le_trans hN.len (by omega)) hx_y).mono ?_
    rintro e w'' ⟨⟨nm, hnm, rfl⟩, m, rfl⟩
    have hs := Stp.of_below (bb := bb) (names := names) hS.1.size (drewN_below w' m)
    exact hK _ _ _ rfl ⟨hS.1.step hs, hS.2.trans hs⟩ hs ((hN.ok nm hnm).tr hD hM)
  case o12 =>
    intro dn a w' _ hS hF K hK
    obtain ⟨v141, h141, hl141⟩ := hF.val 11 141 (by kernel_rfl) (by kernel_rfl)
    obtain ⟨s141, rfl⟩ := inL_str hl141
    rw [if_pos (by kernel_rfl)]
    obtain ⟨l, hl⟩ := hS.1.bard
    go_simp
    have hs := Stp.of_below (bb := bb) (names := names) hS.1.size ((Below.refl w'.heap.size w').alloc (Nat.le_refl _) (.cells #[.string ⟨#[120]⟩, .string ⟨#[121]⟩, .string s141] 9))
    refine hK _ _ _ rfl ⟨hS.1.step hs, hS.2.trans hs⟩ hs ⟨_, rfl, _, ⟨heap_alloc_new w' _, Apart.new hl hS.1.size _⟩, rfl, row_of ⟨word_ok hD hM [120] (by decide +kernel), word_ok hD hM [121] (by decide +kernel), hl141, trivial⟩⟩
  case o13 =>
    intro dn a w' _ hS hF K hK
    have h5 := hF.out 5 (by kernel_rfl) rfl
    rw [if_pos (by kernel_rfl)]
    go_simp
    exact hK _ _ _ rfl hS (Stp.refl _ _ _ _) rfl
  case o14 =>
    intro dn a w' _ hS hF K hK
    obtain ⟨v143, h143, rfl⟩ := hF.val 13 143 (by kernel_rfl) (by kernel_rfl)
    have hc := hS.1.c3
    rw [if_pos (by kernel_rfl)]
    go_simp
    exact hK _ _ _ rfl hS (Stp.refl _ _ _ _) rfl
  case o15 =>
    intro dn a w' _ hS hF K hK
    obtain ⟨v144, h144, rfl⟩ := hF.val 14 144 (by kernel_rfl) (by kernel_rfl)
    rw [if_pos (by kernel_rfl)]
    go_simp
    refine (picked_any z 3 w' hx_z.1 hx_z.2 (by omega) (by omega)).mono ?_
    rintro e w'' ⟨rfl, rfl⟩
    obtain ⟨j, hj, hjl⟩ := pick_nat z 3 (by omega)
    rw [hj]
    exact hK _ _ _ rfl hS (Stp.refl _ _ _ _) ⟨j, rfl, by omega⟩
  case o16 =>
    intro dn a w' _ hS hF K hK
    obtain ⟨v142, h142, b142, rfl, hr142⟩ := hF.val 12 142 (by kernel_rfl) (by kernel_rfl)
    obtain ⟨v145, h145, j145, rfl, hj145⟩ := hF.val 15 145 (by kernel_rfl) (by kernel_rfl)
    have hj' : (j145 : Int) < 3 := by omega
    rw [if_pos (by kernel_rfl)]
    go_simp
    exact hK _ _ _ rfl hS (Stp.refl _ _ _ _) ⟨b142, j145, rfl, by omega, hr142⟩
  case o17 =>
    intro dn a w' _ hS hF K hK
    obtain ⟨v146, h146, b146, j146, rfl, hj146, hr146⟩ := hF.val 16 146 (by kernel_rfl) (by kernel_rfl)
    obtain ⟨u, hc, hu⟩ := hr146.cell hj146
    rw [if_pos (by kernel_rfl)]
    go_simp
    exact hK _ _ _ rfl hS (Stp.refl _ _ _ _) hu
  case o18 =>
    intro dn a w' _ hS hF K hK
    obtain ⟨v137, h137, hl137⟩ := hF.val 7 137 (by kernel_rfl) (by kernel_rfl)
    obtain ⟨s137, rfl⟩ := inL_str hl137
    obtain ⟨v147, h147, hl147⟩ := hF.val 17 147 (by kernel_rfl) (by kernel_rfl)
    obtain ⟨s147, rfl⟩ := inL_str hl147
    rw [if_pos (by kernel_rfl)]
    go_simp
    have hz0 := (((Bnd.one [40]).cat (Bnd.tr D M)).cat (Bnd.one [32])).size (hl137)
    have hz1 := (Bnd.tr D M).size (hl147)
    try simp only [List.length_cons, List.length_nil] at hz0 hz1
    rw [if_neg (by omega)]
    exact hK _ _ _ rfl hS (Stp.refl _ _ _ _) (InL.cat (hl137) (hl147))
  case o19 =>
    intro dn a w' _ hS hF K hK
    obtain ⟨v148, h148, hl148⟩ := hF.val 18 148 (by kernel_rfl) (by kernel_rfl)
    obtain ⟨s148, rfl⟩ := inL_str hl148
    rw [if_pos (by kernel_rfl)]
    go_simp
    have hz0 := ((((Bnd.one [40]).cat (Bnd.tr D M)).cat (Bnd.one [32])).cat (Bnd.tr D M)).size (hl148)
    have hz1 := (Bnd.one [41]).size (InL.one [41])
    try simp only [List.length_cons, List.length_nil] at hz0 hz1
    rw [if_neg (by omega)]
    exact hK _ _ _ rfl hS (Stp.refl _ _ _ _) (InL.cat (hl148) (InL.one [41]))
  case o20 =>
    intro dn a w' _ hS hF K hK
    obtain ⟨v149, h149, hl149⟩ := hF.val 19 149 (by kernel_rfl) (by kernel_rfl)
    obtain ⟨s149, rfl⟩ := inL_str hl149
    rw [if_pos (by kernel_rfl)]
    go_simp
    exact hK _ _ _ rfl hS (Stp.refl _ _ _ _) hl149
  case hend =>
    intro dn w' vs hS hv
    have hv20 : InL (Cat (Cat (Cat (Cat (One [40]) (Tr D M)) (One [32])) (Tr D M)) (One [41])) (vs 20) := hv 20 (by decide)
    clear hv
    simp only [putsL, Nat.reduceAdd, Act.put, List.setIfInBounds_toArray, List.set_cons_zero, List.set_cons_succ]
    generalize vs 20 = vL at hv20 ⊢
    obtain ⟨s, rfl⟩ := inL_str hv20
    go_wp2
    go_ret
    refine ⟨⟨_, rfl, ?_⟩, hS.2⟩
    obtain ⟨_, hl, ⟨_, _, rfl, ⟨_, _, rfl, ⟨_, _, rfl, ⟨_, _, rfl, rfl, ⟨t0, rfl, hok_t0, hdp_t0, hln_t0⟩⟩, rfl⟩, ⟨t1, rfl, hok_t1, hdp_t1, hln_t1⟩⟩, rfl⟩⟩ := hv20
    rw [hl]
    exact tree_ok (.l [t0, t1]) _ (by simp [Tx.pr, Tx.prs]) (by simp [Tx.fit, Tx.fits, Tx.isL, hok_t0, hok_t1] <;> decide +kernel) (by simp only [Tx.dep, Tx.deps]; omega) (by simp only [List.length_append, List.length_cons, List.length_nil]; omega)
set_option maxRecDepth 100000 in
set_option maxHeartbeats 4000000 in
theorem expr_c10 {B bb n D M : Nat} (hD : 2 ≤ D) (hM : 20 ≤ M) (hM2 : M ≤ 1000000) (ih : ExprAt B bb n D M) (hn : n ≤ 900) (w : World) (lv : Value) (names : List ByteArray) (d k x y z : Int) (hd0 : 0 < d) (hd : d ≤ n + 1) (hB : B ≤ w.heap.size) (h : Bard w B bb lv names) (hT : TabB w B) (hN : NamesOk names (999 - n))
    (hx_k : i64B k) (hx_x : i64B x) (hx_y : i64B y) (hx_z : i64B z)
    (HN0 : Calls Tryz.prog 31 #[.pointer (some ⟨bb, 0, none⟩)] ((w.alloc (.cells #[.pointer (some ⟨bb, 0, none⟩)] 59)).alloc (.cells #[.int .i64 d] 3)) fun e w' => e = .returned (.agg #[.int .i64 k, .int .i64 x, .int .i64 y, .int .i64 z]) ∧ Bard w' B bb lv names ∧ Kept bb none ((w.alloc (.cells #[.pointer (some ⟨bb, 0, none⟩)] 59)).alloc (.cells #[.int .i64 d] 3)) w') (he : pick k 20 = 10) :
    Calls Tryz.prog 17 #[.pointer (some ⟨bb, 0, none⟩), .int .i64 d] w fun e w' => (∃ v, e = .returned v ∧ InL (Tr (D + 5) (3 * M + 100)) v) ∧ Stp B bb names names w w' := by
  have hlt := h.lt
  generalize hW1 : (w.alloc (.cells #[.pointer (some ⟨bb, 0, none⟩)] 59)).alloc (.cells #[.int .i64 d] 3) = W1 at HN0
  have hbel1 : Below w.heap.size w W1 := by rw [← hW1]; exact ((Below.refl _ _).alloc (Nat.le_refl _) _).alloc (by simp) _
  have hB1 : Bard W1 B bb lv names := h.keep hB hbel1
  have HN := hid HN0
  clear HN0
  have hsz : W1.heap.size = w.heap.size + 2 := by rw [← hW1]; simp
  have b0 : W1.cell? ⟨w.heap.size, 0, none⟩ = some (.pointer (some ⟨bb, 0, none⟩)) := by rw [← hW1, World.cell?_alloc_past _ _ _ (by simp), World.cell?_alloc_at _ _ _ _ rfl]; rfl
  have b1 : W1.cell? ⟨w.heap.size + 1, 0, none⟩ = some (.int .i64 d) := by rw [← hW1, World.cell?_alloc_at _ _ _ _ (by simp)]; rfl
  have hT1 : TabB W1 B := hT.below (hbel1.mono hB)
  have hmf : ∀ (fn : Fn) (first cap : Array Value) (w : World), (Instr.makeFunc fn first cap).run Tryz.prog w = .ok (.func fn first cap) w := fun _ _ _ _ => rfl
  have HNO := hid hN
  have HIH := hid ih
  have HB := hid h
  clear hN ih
  go_enter Tryz.func17, Tryz.ntmps17
  go_wp2_with fail
  have hcall := HN.out
  go_fit hcall
  clear hcall
  rintro e w1 ⟨rfl, hb1, hK1⟩
  have hz1 := hK1.size
  have b0' := (hK1.cell (p := ⟨w.heap.size, 0, none⟩) (by simp only; omega) (by simp only; omega) (by simp)).trans b0
  have b1' := (hK1.cell (p := ⟨w.heap.size + 1, 0, none⟩) (by simp only; omega) (by simp only; omega) (by simp)).trans b1
  have hT2 : TabB w1 B := hT1.below (hK1.below h.own (fun g hg => by cases hg) (by omega))
  have hq0 : w.heap.size < w1.heap.size := by omega
  have hq1 : w.heap.size + 1 < w1.heap.size := by omega
  go_wp2_with fail
  have hO := h.own
  generalize hW2 : w1.alloc (.cells #[.int .i64 k, .int .i64 x, .int .i64 y, .int .i64 z] 46) = W2
  have hbel2 : Below w1.heap.size w1 W2 := by rw [← hW2]; exact (Below.refl _ _).alloc (Nat.le_refl _) _
  have hS12 : Stp B bb names names w W2 := by
    intro l hl
    obtain rfl := h.det hl
    exact ⟨lv, hb1.keep (by omega) hbel2, ((Kept.of_below hbel1 (Nat.le_refl _)).trans (row := lv.ownBlock) (row' := lv.ownBlock) ⟨hK1.os, hK1.tape, hK1.output, hK1.size, fun k hk h1 _ => hK1.block k hk h1 (by simp)⟩ (fun g hg => Or.inl hg)).trans (row' := none) (Kept.of_below hbel2 (Nat.le_refl _)) (by simp), fun g hg => Or.inl hg⟩
  have hB2 : Bard W2 B bb lv names := hb1.keep (by omega) hbel2
  have hrow := fun g hg => (h.row_ge (g := g) hg).2
  have apt : ∀ b, w.heap.size ≤ b → b < W2.heap.size → Apart B bb b W2 := fun b h1 h2 => ⟨h2, by omega, fun l _ k e => by
    obtain rfl := hB2.det k
    have := hrow b e
    omega⟩
  have hz2 : w1.heap.size < W2.heap.size := by rw [← hW2]; simp
  have D0 : Hid (Desk W2 B bb names w.heap.size w1.heap.size d k x y z) := hid
    ⟨⟨lv, hB2⟩, hT2.below (hbel2.mono (by omega)), (hbel2.cell (p := ⟨w.heap.size, 0, none⟩) hq0).trans b0', (hbel2.cell (p := ⟨w.heap.size + 1, 0, none⟩) hq1).trans b1',
      by rw [← hW2, World.cell?_alloc_at _ _ _ _ rfl]; rfl, by rw [← hW2, World.cell?_alloc_at _ _ _ _ rfl]; rfl, by rw [← hW2, World.cell?_alloc_at _ _ _ _ rfl]; rfl, by rw [← hW2, World.cell?_alloc_at _ _ _ _ rfl]; rfl,
      apt _ (by omega) (by omega), apt _ (by omega) (by omega), apt _ (by omega) (by omega), by omega⟩
  have S0 := hid hS12
  have d0 := D0.out.c0
  have d1 := D0.out.c1
  have HP := hid (he ▸ picked_any k 20 W2 hx_k.1 hx_k.2 (by omega) (by omega))
  clear hW1 hW2 HN b0 b1 b0' b1' hT hT1 hT2 hb1 hK1 hbel1 hbel2 hB1 hB2 apt hrow hS12 hq0 hq1 hz1 hsz hlt hz2 he hO
  generalize w.heap.size = p at *
  generalize w1.heap.size = q at *
  have hcall := HP.out
  go_fit hcall
  clear hcall HP
  rintro e w3 ⟨rfl, rfl⟩
  have hU := fun (names : List ByteArray) (w' : World) (hd' : Desk w' B bb names p q d k x y z) (hN' : NamesOk names (1000 - n)) => sub_any HIH.out hd' hd0 hd (by omega) hN'
  have hE := fun (names : List ByteArray) (w' : World) (hd' : Desk w' B bb names p q d k x y z) (hN' : NamesOk names (1000 - n)) => expr_at HIH.out hd' hd0 hd hN'
  have HNO2 : Hid (NamesOk names (1000 - n)) := hid ⟨HNO.out.pos, Nat.le_trans HNO.out.len (by omega), HNO.out.ok⟩
  have hN := HNO.out
  clear hE
  go_upto_region 25 with fail
  refine wp_region_invA (fun _ w' => Desk w' B bb names p q d k x y z ∧ Stp B bb names names w w') (fun _ => Stp B bb names names) (fun i v w' => match i with
    | 0 => ∃ b, v = .slice (some ⟨b, 0, none⟩) 2 2 ∧ RowT B bb b 2 D M w'
    | 1 => v = .pointer (some ⟨q, 2, none⟩)
    | 2 => v = .int .i64 y
    | 3 => ∃ j : Nat, v = .int .i64 j ∧ j < 2
    | 4 => ∃ b j, v = .pointer (some ⟨b, j, none⟩) ∧ j < 2 ∧ RowT B bb b 2 D M w'
    | 5 => InL (Tr D M) v
    | 6 => InL (Cat (One [40, 112, 45, 97, 33, 32]) (Tr D M)) v
    | 7 => InL (Cat (Cat (One [40, 112, 45, 97, 33, 32]) (Tr D M)) (One [32])) v
    | 8 => v = .func (.func 33) #[] #[.pointer (some ⟨p, 0, none⟩), .pointer (some ⟨p + 1, 0, none⟩)]
    | 9 => InL (Tr D M) v
    | 10 => InL (Cat (Cat (Cat (One [40, 112, 45, 97, 33, 32]) (Tr D M)) (One [32])) (Tr D M)) v
    | 11 => InL (Cat (Cat (Cat (Cat (One [40, 112, 45, 97, 33, 32]) (Tr D M)) (One [32])) (Tr D M)) (One [41])) v
    | 12 => InL (Cat (Cat (Cat (Cat (One [40, 112, 45, 97, 33, 32]) (Tr D M)) (One [32])) (Tr D M)) (One [41])) v
    | _ => True) (by kernel_rfl) (by kernel_rfl) ?hst ?hmono ⟨?o0, ?o1, ?o2, ?o3, ?o4, ?o5, ?o6, ?o7, ?o8, ?o9, ?o10, ?o11, ?o12, trivial⟩ ?hend
  case hst => exact ⟨D0.out.step (Stp.of_below D0.out.size (drewN_below _ 1)), S0.out.trans (Stp.of_below D0.out.size (drewN_below _ 1))⟩
  case hmono =>
    intro i j v w1 w2 _ _ _ _ ⟨_, hS⟩ hv hR
    obtain ⟨l, hl⟩ := hS.1.bard
    rcases i with _ | _ | _ | _ | _ | _ | _ | _ | _ | _ | _ | _ | _ | i
    all_goals first | exact hv | (obtain ⟨b, h1, h2⟩ := hv; exact ⟨b, h1, h2.step hR hl⟩) | (obtain ⟨b, j, h1, h2, h3⟩ := hv; exact ⟨b, j, h1, h2, h3.step hR hl⟩)
  case o0 =>
    intro dn a w' _ hS hF K hK
    rw [if_pos (by kernel_rfl)]
    obtain ⟨l, hl⟩ := hS.1.bard
    go_simp
    have hs := Stp.of_below (bb := bb) (names := names) hS.1.size ((Below.refl w'.heap.size w').alloc (Nat.le_refl _) (.cells #[.string ⟨#[120]⟩, .string ⟨#[121]⟩] 9))
    refine hK _ _ _ rfl ⟨hS.1.step hs, hS.2.trans hs⟩ hs ⟨_, rfl, _, ⟨heap_alloc_new w' _, Apart.new hl hS.1.size _⟩, rfl, row_of ⟨word_ok hD hM [120] (by decide +kernel), word_ok hD hM [121] (by decide +kernel), trivial⟩⟩
  case o1 =>
    intro dn a w' _ hS hF K hK
    have h5 := hF.out 5 (by kernel_rfl) rfl
    rw [if_pos (by kernel_rfl)]
    go_simp
    exact hK _ _ _ rfl hS (Stp.refl _ _ _ _) rfl
  case o2 =>
    intro dn a w' _ hS hF K hK
    obtain ⟨v153, h153, rfl⟩ := hF.val 1 153 (by kernel_rfl) (by kernel_rfl)
    have hc := hS.1.c2
    rw [if_pos (by kernel_rfl)]
    go_simp
    exact hK _ _ _ rfl hS (Stp.refl _ _ _ _) rfl
  case o3 =>
    intro dn a w' _ hS hF K hK
    obtain ⟨v154, h154, rfl⟩ := hF.val 2 154 (by kernel_rfl) (by kernel_rfl)
    rw [if_pos (by kernel_rfl)]
    go_simp
    refine (picked_any y 2 w' hx_y.1 hx_y.2 (by omega) (by omega)).mono ?_
    rintro e w'' ⟨rfl, rfl⟩
    obtain ⟨j, hj, hjl⟩ := pick_nat y 2 (by omega)
    rw [hj]
    exact hK _ _ _ rfl hS (Stp.refl _ _ _ _) ⟨j, rfl, by omega⟩
  case o4 =>
    intro dn a w' _ hS hF K hK
    obtain ⟨v152, h152, b152, rfl, hr152⟩ := hF.val 0 152 (by kernel_rfl) (by kernel_rfl)
    obtain ⟨v155, h155, j155, rfl, hj155⟩ := hF.val 3 155 (by kernel_rfl) (by kernel_rfl)
    have hj' : (j155 : Int) < 2 := by omega
    rw [if_pos (by kernel_rfl)]
    go_simp
    exact hK _ _ _ rfl hS (Stp.refl _ _ _ _) ⟨b152, j155, rfl, by omega, hr152⟩
  case o5 =>
    intro dn a w' _ hS hF K hK
    obtain ⟨v156, h156, b156, j156, rfl, hj156, hr156⟩ := hF.val 4 156 (by kernel_rfl) (by kernel_rfl)
    obtain ⟨u, hc, hu⟩ := hr156.cell hj156
    rw [if_pos (by kernel_rfl)]
    go_simp
    exact hK _ _ _ rfl hS (Stp.refl _ _ _ _) hu
  case o6 =>
    intro dn a w' _ hS hF K hK
    obtain ⟨v157, h157, hl157⟩ := hF.val 5 157 (by kernel_rfl) (by kernel_rfl)
    obtain ⟨s157, rfl⟩ := inL_str hl157
    rw [if_pos (by kernel_rfl)]
    go_simp
    have hz0 := (Bnd.one [40, 112, 45, 97, 33, 32]).size (InL.one [40, 112, 45, 97, 33, 32])
    have hz1 := (Bnd.tr D M).size (hl157)
    try simp only [List.length_cons, List.length_nil] at hz0 hz1
    rw [if_neg (by omega)]
    exact hK _ _ _ rfl hS (Stp.refl _ _ _ _) (InL.cat (InL.one [40, 112, 45, 97, 33, 32]) (hl157))
  case o7 =>
    intro dn a w' _ hS hF K hK
    obtain ⟨v158, h158, hl158⟩ := hF.val 6 158 (by kernel_rfl) (by kernel_rfl)
    obtain ⟨s158, rfl⟩ := inL_str hl158
    rw [if_pos (by kernel_rfl)]
    go_simp
    have hz0 := ((Bnd.one [40, 112, 45, 97, 33, 32]).cat (Bnd.tr D M)).size (hl158)
    have hz1 := (Bnd.one [32]).size (InL.one [32])
    try simp only [List.length_cons, List.length_nil] at hz0 hz1
    rw [if_neg (by omega)]
    exact hK _ _ _ rfl hS (Stp.refl _ _ _ _) (InL.cat (hl158) (InL.one [32]))
  case o8 =>
    intro dn a w' _ hS hF K hK
    have h6 := hF.out 6 (by kernel_rfl) rfl
    rw [if_pos (by kernel_rfl)]
    go_simp
    exact hK _ _ _ rfl hS (Stp.refl _ _ _ _) rfl
  case o9 =>
    intro dn a w' _ hS hF K hK
    obtain ⟨v160, h160, rfl⟩ := hF.val 8 160 (by kernel_rfl) (by kernel_rfl)
    rw [if_pos (by kernel_rfl)]
    go_simp
    refine (hU names w' hS.1 HNO2.out).mono ?_
    rintro e w'' ⟨⟨v, rfl, hv⟩, hs⟩
    exact hK _ _ _ rfl ⟨hS.1.step hs, hS.2.trans hs⟩ hs hv
  case o10 =>
    intro dn a w' _ hS hF K hK
    obtain ⟨v159, h159, hl159⟩ := hF.val 7 159 (by kernel_rfl) (by kernel_rfl)
    obtain ⟨s159, rfl⟩ := inL_str hl159
    obtain ⟨v161, h161, hl161⟩ := hF.val 9 161 (by kernel_rfl) (by kernel_rfl)
    obtain ⟨s161, rfl⟩ := inL_str hl161
    rw [if_pos (by kernel_rfl)]
    go_simp
    have hz0 := (((Bnd.one [40, 112, 45, 97, 33, 32]).cat (Bnd.tr D M)).cat (Bnd.one [32])).size (hl159)
    have hz1 := (Bnd.tr D M).size (hl161)
    try simp only [List.length_cons, List.length_nil] at hz0 hz1
    rw [if_neg (by omega)]
    exact hK _ _ _ rfl hS (Stp.refl _ _ _ _) (InL.cat (hl159) (hl161))
  case o11 =>
    intro dn a w' _ hS hF K hK
    obtain ⟨v162, h162, hl162⟩ := hF.val 10 162 (by kernel_rfl) (by kernel_rfl)
    obtain ⟨s162, rfl⟩ := inL_str hl162
    rw [if_pos (by kernel_rfl)]
    go_simp
    have hz0 := ((((Bnd.one [40, 112, 45, 97, 33, 32]).cat (Bnd.tr D M)).cat (Bnd.one [32])).cat (Bnd.tr D M)).size (hl162)
    have hz1 := (Bnd.one [41]).size (InL.one [41])
    try simp only [List.length_cons, List.length_nil] at hz0 hz1
    rw [if_neg (by omega)]
    exact hK _ _ _ rfl hS (Stp.refl _ _ _ _) (InL.cat (hl162) (InL.one [41]))
  case o12 =>
    intro dn a w' _ hS hF K hK
    obtain ⟨v163, h163, hl163⟩ := hF.val 11 163 (by kernel_rfl) (by kernel_rfl)
    obtain ⟨s163, rfl⟩ := inL_str hl163
    rw [if_pos (by kernel_rfl)]
    go_simp
    exact hK _ _ _ rfl hS (Stp.refl _ _ _ _) hl163
  case hend =>
    intro dn w' vs hS hv
    have hv12 : InL (Cat (Cat (Cat (Cat (One [40, 112, 45, 97, 33, 32]) (Tr D M)) (One [32])) (Tr D M)) (One [41])) (vs 12) := hv 12 (by decide)
    clear hv
    simp only [putsL, Nat.reduceAdd, Act.put, List.setIfInBounds_toArray, List.set_cons_zero, List.set_cons_succ]
    generalize vs 12 = vL at hv12 ⊢
    obtain ⟨s, rfl⟩ := inL_str hv12
    go_wp2
    go_ret
    refine ⟨⟨_, rfl, ?_⟩, hS.2⟩
    obtain ⟨_, hl, ⟨_, _, rfl, ⟨_, _, rfl, ⟨_, _, rfl, ⟨_, _, rfl, rfl, ⟨t0, rfl, hok_t0, hdp_t0, hln_t0⟩⟩, rfl⟩, ⟨t1, rfl, hok_t1, hdp_t1, hln_t1⟩⟩, rfl⟩⟩ := hv12
    rw [hl]
    exact tree_ok (.l [.w [112, 45, 97, 33], t0, t1]) _ (by simp [Tx.pr, Tx.prs]) (by simp [Tx.fit, Tx.fits, Tx.isL, hok_t0, hok_t1] <;> decide +kernel) (by simp only [Tx.dep, Tx.deps]; omega) (by simp only [List.length_append, List.length_cons, List.length_nil]; omega)
set_option maxRecDepth 100000 in
set_option maxHeartbeats 4000000 in
theorem expr_c11 {B bb n D M : Nat} (hD : 2 ≤ D) (hM : 20 ≤ M) (hM2 : M ≤ 1000000) (ih : ExprAt B bb n D M) (hn : n ≤ 900) (w : World) (lv : Value) (names : List ByteArray) (d k x y z : Int) (hd0 : 0 < d) (hd : d ≤ n + 1) (hB : B ≤ w.heap.size) (h : Bard w B bb lv names) (hT : TabB w B) (hN : NamesOk names (999 - n))
    (hx_k : i64B k) (hx_x : i64B x) (hx_y : i64B y) (hx_z : i64B z)
    (HN0 : Calls Tryz.prog 31 #[.pointer (some ⟨bb, 0, none⟩)] ((w.alloc (.cells #[.pointer (some ⟨bb, 0, none⟩)] 59)).alloc (.cells #[.int .i64 d] 3)) fun e w' => e = .returned (.agg #[.int .i64 k, .int .i64 x, .int .i64 y, .int .i64 z]) ∧ Bard w' B bb lv names ∧ Kept bb none ((w.alloc (.cells #[.pointer (some ⟨bb, 0, none⟩)] 59)).alloc (.cells #[.int .i64 d] 3)) w') (he : pick k 20 = 11) :
    Calls Tryz.prog 17 #[.pointer (some ⟨bb, 0, none⟩), .int .i64 d] w fun e w' => (∃ v, e = .returned v ∧ InL (Tr (D + 5) (3 * M + 100)) v) ∧ Stp B bb names names w w' := by
  have hlt := h.lt
  generalize hW1 : (w.alloc (.cells #[.pointer (some ⟨bb, 0, none⟩)] 59)).alloc (.cells #[.int .i64 d] 3) = W1 at HN0
  have hbel1 : Below w.heap.size w W1 := by rw [← hW1]; exact ((Below.refl _ _).alloc (Nat.le_refl _) _).alloc (by simp) _
  have hB1 : Bard W1 B bb lv names := h.keep hB hbel1
  have HN := hid HN0
  clear HN0
  have hsz : W1.heap.size = w.heap.size + 2 := by rw [← hW1]; simp
  have b0 : W1.cell? ⟨w.heap.size, 0, none⟩ = some (.pointer (some ⟨bb, 0, none⟩)) := by rw [← hW1, World.cell?_alloc_past _ _ _ (by simp), World.cell?_alloc_at _ _ _ _ rfl]; rfl
  have b1 : W1.cell? ⟨w.heap.size + 1, 0, none⟩ = some (.int .i64 d) := by rw [← hW1, World.cell?_alloc_at _ _ _ _ (by simp)]; rfl
  have hT1 : TabB W1 B := hT.below (hbel1.mono hB)
  have hmf : ∀ (fn : Fn) (first cap : Array Value) (w : World), (Instr.makeFunc fn first cap).run Tryz.prog w = .ok (.func fn first cap) w := fun _ _ _ _ => rfl
  have HNO := hid hN
  have HIH := hid ih
  have HB := hid h
  clear hN ih
  go_enter Tryz.func17, Tryz.ntmps17
  go_wp2_with fail
  have hcall := HN.out
  go_fit hcall
  clear hcall
  rintro e w1 ⟨rfl, hb1, hK1⟩
  have hz1 := hK1.size
  have b0' := (hK1.cell (p := ⟨w.heap.size, 0, none⟩) (by simp only; omega) (by simp only; omega) (by simp)).trans b0
  have b1' := (hK1.cell (p := ⟨w.heap.size + 1, 0, none⟩) (by simp only; omega) (by simp only; omega) (by simp)).trans b1
  have hT2 : TabB w1 B := hT1.below (hK1.below h.own (fun g hg => by cases hg) (by omega))
  have hq0 : w.heap.size < w1.heap.size := by omega
  have hq1 : w.heap.size + 1 < w1.heap.size := by omega
  go_wp2_with fail
  have hO := h.own
  generalize hW2 : w1.alloc (.cells #[.int .i64 k, .int .i64 x, .int .i64 y, .int .i64 z] 46) = W2
  have hbel2 : Below w1.heap.size w1 W2 := by rw [← hW2]; exact (Below.refl _ _).alloc (Nat.le_refl _) _
  have hS12 : Stp B bb names names w W2 := by
    intro l hl
    obtain rfl := h.det hl
    exact ⟨lv, hb1.keep (by omega) hbel2, ((Kept.of_below hbel1 (Nat.le_refl _)).trans (row := lv.ownBlock) (row' := lv.ownBlock) ⟨hK1.os, hK1.tape, hK1.output, hK1.size, fun k hk h1 _ => hK1.block k hk h1 (by simp)⟩ (fun g hg => Or.inl hg)).trans (row' := none) (Kept.of_below hbel2 (Nat.le_refl _)) (by simp), fun g hg => Or.inl hg⟩
  have hB2 : Bard W2 B bb lv names := hb1.keep (by omega) hbel2
  have hrow := fun g hg => (h.row_ge (g := g) hg).2
  have apt : ∀ b, w.heap.size ≤ b → b < W2.heap.size → Apart B bb b W2 := fun b h1 h2 => ⟨h2, by omega, fun l _ k e => by
    obtain rfl := hB2.det k
    have := hrow b e
    omega⟩
  have hz2 : w1.heap.size < W2.heap.size := by rw [← hW2]; simp
  have D0 : Hid (Desk W2 B bb names w.heap.size w1.heap.size d k x y z) := hid
    ⟨⟨lv, hB2⟩, hT2.below (hbel2.mono (by omega)), (hbel2.cell (p := ⟨w.heap.size, 0, none⟩) hq0).trans b0', (hbel2.cell (p := ⟨w.heap.size + 1, 0, none⟩) hq1).trans b1',
      by rw [← hW2, World.cell?_alloc_at _ _ _ _ rfl]; rfl, by rw [← hW2, World.cell?_alloc_at _ _ _ _ rfl]; rfl, by rw [← hW2, World.cell?_alloc_at _ _ _ _ rfl]; rfl, by rw [← hW2, World.cell?_alloc_at _ _ _ _ rfl]; rfl,
      apt _ (by omega) (by omega), apt _ (by omega) (by omega), apt _ (by omega) (by omega), by omega⟩
  have S0 := hid hS12
  have d0 := D0.out.c0
  have d1 := D0.out.c1
  have HP := hid (he ▸ picked_any k 20 W2 hx_k.1 hx_k.2 (by omega) (by omega))
  clear hW1 hW2 HN b0 b1 b0' b1' hT hT1 hT2 hb1 hK1 hbel1 hbel2 hB1 hB2 apt hrow hS12 hq0 hq1 hz1 hsz hlt hz2 he hO
  generalize w.heap.size = p at *
  generalize w1.heap.size = q at *
  have hcall := HP.out
  go_fit hcall
  clear hcall HP
  rintro e w3 ⟨rfl, rfl⟩
  have hU := fun (names : List ByteArray) (w' : World) (hd' : Desk w' B bb names p q d k x y z) (hN' : NamesOk names (1000 - n)) => sub_any HIH.out hd' hd0 hd (by omega) hN'
  have hE := fun (names : List ByteArray) (w' : World) (hd' : Desk w' B bb names p q d k x y z) (hN' : NamesOk names (1000 - n)) => expr_at HIH.out hd' hd0 hd hN'
  have HNO2 : Hid (NamesOk names (1000 - n)) := hid ⟨HNO.out.pos, Nat.le_trans HNO.out.len (by omega), HNO.out.ok⟩
  have hN := HNO.out
  clear hE
  go_upto_region 28 with fail
  refine wp_region_invA (fun _ w' => Desk w' B bb names p q d k x y z ∧ Stp B bb names names w w') (fun _ => Stp B bb names names) (fun i v w' => match i with
    | 0 => ∃ b, v = .slice (some ⟨b, 0, none⟩) 3 3 ∧ RowT B bb b 3 D M w'
    | 1 => v = .pointer (some ⟨q, 1, none⟩)
    | 2 => v = .int .i64 x
    | 3 => ∃ j : Nat, v = .int .i64 j ∧ j < 3
    | 4 => ∃ b j, v = .pointer (some ⟨b, j, none⟩) ∧ j < 3 ∧ RowT B bb b 3 D M w'
    | 5 => InL (Tr D M) v
    | 6 => InL (Cat (One [40]) (Tr D M)) v
    | 7 => InL (Cat (Cat (One [40]) (Tr D M)) (One [32])) v
    | 8 => v = .func (.func 33) #[] #[.pointer (some ⟨p, 0, none⟩), .pointer (some ⟨p + 1, 0, none⟩)]
    | 9 => InL (Tr D M) v
    | 10 => InL (Cat (Cat (Cat (One [40]) (Tr D M)) (One [32])) (Tr D M)) v
    | 11 => InL (Cat (Cat (Cat (Cat (One [40]) (Tr D M)) (One [32])) (Tr D M)) (One [41])) v
    | 12 => InL (Cat (Cat (Cat (Cat (One [40]) (Tr D M)) (One [32])) (Tr D M)) (One [41])) v
    | _ => True) (by kernel_rfl) (by kernel_rfl) ?hst ?hmono ⟨?o0, ?o1, ?o2, ?o3, ?o4, ?o5, ?o6, ?o7, ?o8, ?o9, ?o10, ?o11, ?o12, trivial⟩ ?hend
  case hst => exact ⟨D0.out.step (Stp.of_below D0.out.size (drewN_below _ 1)), S0.out.trans (Stp.of_below D0.out.size (drewN_below _ 1))⟩
  case hmono =>
    intro i j v w1 w2 _ _ _ _ ⟨_, hS⟩ hv hR
    obtain ⟨l, hl⟩ := hS.1.bard
    rcases i with _ | _ | _ | _ | _ | _ | _ | _ | _ | _ | _ | _ | _ | i
    all_goals first | exact hv | (obtain ⟨b, h1, h2⟩ := hv; exact ⟨b, h1, h2.step hR hl⟩) | (obtain ⟨b, j, h1, h2, h3⟩ := hv; exact ⟨b, j, h1, h2, h3.step hR hl⟩)
  case o0 =>
    intro dn a w' _ hS hF K hK
    rw [if_pos (by kernel_rfl)]
    obtain ⟨l, hl⟩ := hS.1.bard
    go_simp
    have hs := Stp.of_below (bb := bb) (names := names) hS.1.size ((Below.refl w'.heap.size w').alloc (Nat.le_refl _) (.cells #[.string ⟨#[102]⟩, .string ⟨#[103]⟩, .string ⟨#[104]⟩] 9))
    refine hK _ _ _ rfl ⟨hS.1.step hs, hS.2.trans hs⟩ hs ⟨_, rfl, _, ⟨heap_alloc_new w' _, Apart.new hl hS.1.size _⟩, rfl, row_of ⟨word_ok hD hM [102] (by decide +kernel), word_ok hD hM [103] (by decide +kernel), word_ok hD hM [104] (by decide +kernel), trivial⟩⟩
  case o1 =>
    intro dn a w' _ hS hF K hK
    have h5 := hF.out 5 (by kernel_rfl) rfl
    rw [if_pos (by kernel_rfl)]
    go_simp
    exact hK _ _ _ rfl hS (Stp.refl _ _ _ _) rfl
  case o2 =>
    intro dn a w' _ hS hF K hK
    obtain ⟨v168, h168, rfl⟩ := hF.val 1 168 (by kernel_rfl) (by kernel_rfl)
    have hc := hS.1.c1
    rw [if_pos (by kernel_rfl)]
    go_simp
    exact hK _ _ _ rfl hS (Stp.refl _ _ _ _) rfl
  case o3 =>
    intro dn a w' _ hS hF K hK
    obtain ⟨v169, h169, rfl⟩ := hF.val 2 169 (by kernel_rfl) (by kernel_rfl)
    rw [if_pos (by kernel_rfl)]
    go_simp
    refine (picked_any x 3 w' hx_x.1 hx_x.2 (by omega) (by omega)).mono ?_
    rintro e w'' ⟨rfl, rfl⟩
    obtain ⟨j, hj, hjl⟩ := pick_nat x 3 (by omega)
    rw [hj]
    exact hK _ _ _ rfl hS (Stp.refl _ _ _ _) ⟨j, rfl, by omega⟩
  case o4 =>
    intro dn a w' _ hS hF K hK
    obtain ⟨v167, h167, b167, rfl, hr167⟩ := hF.val 0 167 (by kernel_rfl) (by kernel_rfl)
    obtain ⟨v170, h170, j170, rfl, hj170⟩ := hF.val 3 170 (by kernel_rfl) (by kernel_rfl)
    have hj' : (j170 : Int) < 3 := by omega
    rw [if_pos (by kernel_rfl)]
    go_simp
    exact hK _ _ _ rfl hS (Stp.refl _ _ _ _) ⟨b167, j170, rfl, by omega, hr167⟩
  case o5 =>
    intro dn a w' _ hS hF K hK
    obtain ⟨v171, h171, b171, j171, rfl, hj171, hr171⟩ := hF.val 4 171 (by kernel_rfl) (by kernel_rfl)
    obtain ⟨u, hc, hu⟩ := hr171.cell hj171
    rw [if_pos (by kernel_rfl)]
    go_simp
    exact hK _ _ _ rfl hS (Stp.refl _ _ _ _) hu
  case o6 =>
    intro dn a w' _ hS hF K hK
    obtain ⟨v172, h172, hl172⟩ := hF.val 5 172 (by kernel_rfl) (by kernel_rfl)
    obtain ⟨s172, rfl⟩ := inL_str hl172
    rw [if_pos (by kernel_rfl)]
    go_simp
    have hz0 := (Bnd.one [40]).size (InL.one [40])
    have hz1 := (Bnd.tr D M).size (hl172)
    try simp only [List.length_cons, List.length_nil] at hz0 hz1
    rw [if_neg (by omega)]
    exact hK _ _ _ rfl hS (Stp.refl _ _ _ _) (InL.cat (InL.one [40]) (hl172))
  case o7 =>
    intro dn a w' _ hS hF K hK
    obtain ⟨v173, h173, hl173⟩ := hF.val 6 173 (by kernel_rfl) (by kernel_rfl)
    obtain ⟨s173, rfl⟩ := inL_str hl173
    rw [if_pos (by kernel_rfl)]
    go_simp
    have hz0 := ((Bnd.one [40]).cat (Bnd.tr D M)).size (hl173)
    have hz1 := (Bnd.one [32]).size (InL.one [32])
    try simp only [List.length_cons, List.length_nil] at hz0 hz1
    rw [if_neg (by omega)]
    exact hK _ _ _ rfl hS (Stp.refl _ _ _ _) (InL.cat (hl173) (InL.one [32]))
  case o8 =>
    intro dn a w' _ hS hF K hK
    have h6 := hF.out 6 (by kernel_rfl) rfl
    rw [if_pos (by kernel_rfl)]
    go_simp
    exact hK _ _ _ rfl hS (Stp.refl _ _ _ _) rfl
  case o9 =>
    intro dn a w' _ hS hF K hK
    obtain ⟨v175, h175, rfl⟩ := hF.val 8 175 (by kernel_rfl) (by kernel_rfl)
    rw [if_pos (by kernel_rfl)]
    go_simp
    refine (hU names w' hS.1 HNO2.out).mono ?_
    rintro e w'' ⟨⟨v, rfl, hv⟩, hs⟩
    exact hK _ _ _ rfl ⟨hS.1.step hs, hS.2.trans hs⟩ hs hv
  case o10 =>
    intro dn a w' _ hS hF K hK
    obtain ⟨v174, h174, hl174⟩ := hF.val 7 174 (by kernel_rfl) (by kernel_rfl)
    obtain ⟨s174, rfl⟩ := inL_str hl174
    obtain ⟨v176, h176, hl176⟩ := hF.val 9 176 (by kernel_rfl) (by kernel_rfl)
    obtain ⟨s176, rfl⟩ := inL_str hl176
    rw [if_pos (by kernel_rfl)]
    go_simp
    have hz0 := (((Bnd.one [40]).cat (Bnd.tr D M)).cat (Bnd.one [32])).size (hl174)
    have hz1 := (Bnd.tr D M).size (hl176)
    try simp only [List.length_cons, List.length_nil] at hz0 hz1
    rw [if_neg (by omega)]
    exact hK _ _ _ rfl hS (Stp.refl _ _ _ _) (InL.cat (hl174) (hl176))
  case o11 =>
    intro dn a w' _ hS hF K hK
    obtain ⟨v177, h177, hl177⟩ := hF.val 10 177 (by kernel_rfl) (by kernel_rfl)
    obtain ⟨s177, rfl⟩ := inL_str hl177
    rw [if_pos (by kernel_rfl)]
    go_simp
    have hz0 := ((((Bnd.one [40]).cat (Bnd.tr D M)).cat (Bnd.one [32])).cat (Bnd.tr D M)).size (hl177)
    have hz1 := (Bnd.one [41]).size (InL.one [41])
    try simp only [List.length_cons, List.length_nil] at hz0 hz1
    rw [if_neg (by omega)]
    exact hK _ _ _ rfl hS (Stp.refl _ _ _ _) (InL.cat (hl177) (InL.one [41]))
  case o12 =>
    intro dn a w' _ hS hF K hK
    obtain ⟨v178, h178, hl178⟩ := hF.val 11 178 (by kernel_rfl) (by kernel_rfl)
    obtain ⟨s178, rfl⟩ := inL_str hl178
    rw [if_pos (by kernel_rfl)]
    go_simp
    exact hK _ _ _ rfl hS (Stp.refl _ _ _ _) hl178
  case hend =>
    intro dn w' vs hS hv
    have hv12 : InL (Cat (Cat (Cat (Cat (One [40]) (Tr D M)) (One [32])) (Tr D M)) (One [41])) (vs 12) := hv 12 (by decide)
    clear hv
    simp only [putsL, Nat.reduceAdd, Act.put, List.setIfInBounds_toArray, List.set_cons_zero, List.set_cons_succ]
    generalize vs 12 = vL at hv12 ⊢
    obtain ⟨s, rfl⟩ := inL_str hv12
    go_wp2
    go_ret
    refine ⟨⟨_, rfl, ?_⟩, hS.2⟩
    obtain ⟨_, hl, ⟨_, _, rfl, ⟨_, _, rfl, ⟨_, _, rfl, ⟨_, _, rfl, rfl, ⟨t0, rfl, hok_t0, hdp_t0, hln_t0⟩⟩, rfl⟩, ⟨t1, rfl, hok_t1, hdp_t1, hln_t1⟩⟩, rfl⟩⟩ := hv12
    rw [hl]
    exact tree_ok (.l [t0, t1]) _ (by simp [Tx.pr, Tx.prs]) (by simp [Tx.fit, Tx.fits, Tx.isL, hok_t0, hok_t1] <;> decide +kernel) (by simp only [Tx.dep, Tx.deps]; omega) (by simp only [List.length_append, List.length_cons, List.length_nil]; omega)
set_option maxRecDepth 100000 in
set_option maxHeartbeats 4000000 in
theorem expr_c12 {B bb n D M : Nat} (hD : 2 ≤ D) (hM : 20 ≤ M) (hM2 : M ≤ 1000000) (ih : ExprAt B bb n D M) (hn : n ≤ 900) (w : World) (lv : Value) (names : List ByteArray) (d k x y z : Int) (hd0 : 0 < d) (hd : d ≤ n + 1) (hB : B ≤ w.heap.size) (h : Bard w B bb lv names) (hT : TabB w B) (hN : NamesOk names (999 - n))
    (hx_k : i64B k) (hx_x : i64B x) (hx_y : i64B y) (hx_z : i64B z)
    (HN0 : Calls Tryz.prog 31 #[.pointer (some ⟨bb, 0, none⟩)] ((w.alloc (.cells #[.pointer (some ⟨bb, 0, none⟩)] 59)).alloc (.cells #[.int .i64 d] 3)) fun e w' => e = .returned (.agg #[.int .i64 k, .int .i64 x, .int .i64 y, .int .i64 z]) ∧ Bard w' B bb lv names ∧ Kept bb none ((w.alloc (.cells #[.pointer (some ⟨bb, 0, none⟩)] 59)).alloc (.cells #[.int .i64 d] 3)) w') (he : pick k 20 = 12) :
    Calls Tryz.prog 17 #[.pointer (some ⟨bb, 0, none⟩), .int .i64 d] w fun e w' => (∃ v, e = .returned v ∧ InL (Tr (D + 5) (3 * M + 100)) v) ∧ Stp B bb names names w w' := by
  have hlt := h.lt
  generalize hW1 : (w.alloc (.cells #[.pointer (some ⟨bb, 0, none⟩)] 59)).alloc (.cells #[.int .i64 d] 3) = W1 at HN0
  have hbel1 : Below w.heap.size w W1 := by rw [← hW1]; exact ((Below.refl _ _).alloc (Nat.le_refl _) _).alloc (by simp) _
  have hB1 : Bard W1 B bb lv names := h.keep hB hbel1
  have HN := hid HN0
  clear HN0
  have hsz : W1.heap.size = w.heap.size + 2 := by rw [← hW1]; simp
  have b0 : W1.cell? ⟨w.heap.size, 0, none⟩ = some (.pointer (some ⟨bb, 0, none⟩)) := by rw [← hW1, World.cell?_alloc_past _ _ _ (by simp), World.cell?_alloc_at _ _ _ _ rfl]; rfl
  have b1 : W1.cell? ⟨w.heap.size + 1, 0, none⟩ = some (.int .i64 d) := by rw [← hW1, World.cell?_alloc_at _ _ _ _ (by simp)]; rfl
  have hT1 : TabB W1 B := hT.below (hbel1.mono hB)
  have hmf : ∀ (fn : Fn) (first cap : Array Value) (w : World), (Instr.makeFunc fn first cap).run Tryz.prog w = .ok (.func fn first cap) w := fun _ _ _ _ => rfl
  have HNO := hid hN
  have HIH := hid ih
  have HB := hid h
  clear hN ih
  go_enter Tryz.func17, Tryz.ntmps17
  go_wp2_with fail
  have hcall := HN.out
  go_fit hcall
  clear hcall
  rintro e w1 ⟨rfl, hb1, hK1⟩
  have hz1 := hK1.size
  have b0' := (hK1.cell (p := ⟨w.heap.size, 0, none⟩) (by simp only; omega) (by simp only; omega) (by simp)).trans b0
  have b1' := (hK1.cell (p := ⟨w.heap.size + 1, 0, none⟩) (by simp only; omega) (by simp only; omega) (by simp)).trans b1
  have hT2 : TabB w1 B := hT1.below (hK1.below h.own (fun g hg => by cases hg) (by omega))
  have hq0 : w.heap.size < w1.heap.size := by omega
  have hq1 : w.heap.size + 1 < w1.heap.size := by omega
  go_wp2_with fail
  have hO := h.own
  generalize hW2 : w1.alloc (.cells #[.int .i64 k, .int .i64 x, .int .i64 y, .int .i64 z] 46) = W2
  have hbel2 : Below w1.heap.size w1 W2 := by rw [← hW2]; exact (Below.refl _ _).alloc (Nat.le_refl _) _
  have hS12 : Stp B bb names names w W2 := by
    intro l hl
    obtain rfl := h.det hl
    exact ⟨lv, hb1.keep (by omega) hbel2, ((Kept.of_below hbel1 (Nat.le_refl _)).trans (row := lv.ownBlock) (row' := lv.ownBlock) ⟨hK1.os, hK1.tape, hK1.output, hK1.size, fun k hk h1 _ => hK1.block k hk h1 (by simp)⟩ (fun g hg => Or.inl hg)).trans (row' := none) (Kept.of_below hbel2 (Nat.le_refl _)) (by simp), fun g hg => Or.inl hg⟩
  have hB2 : Bard W2 B bb lv names := hb1.keep (by omega) hbel2
  have hrow := fun g hg => (h.row_ge (g := g) hg).2
  have apt : ∀ b, w.heap.size ≤ b → b < W2.heap.size → Apart B bb b W2 := fun b h1 h2 => ⟨h2, by omega, fun l _ k e => by
    obtain rfl := hB2.det k
    have := hrow b e
    omega⟩
  have hz2 : w1.heap.size < W2.heap.size := by rw [← hW2]; simp
  have D0 : Hid (Desk W2 B bb names w.heap.size w1.heap.size d k x y z) := hid
    ⟨⟨lv, hB2⟩, hT2.below (hbel2.mono (by omega)), (hbel2.cell (p := ⟨w.heap.size, 0, none⟩) hq0).trans b0', (hbel2.cell (p := ⟨w.heap.size + 1, 0, none⟩) hq1).trans b1',
      by rw [← hW2, World.cell?_alloc_at _ _ _ _ rfl]; rfl, by rw [← hW2, World.cell?_alloc_at _ _ _ _ rfl]; rfl, by rw [← hW2, World.cell?_alloc_at _ _ _ _ rfl]; rfl, by rw [← hW2, World.cell?_alloc_at _ _ _ _ rfl]; rfl,
      apt _ (by omega) (by omega), apt _ (by omega) (by omega), apt _ (by omega) (by omega), by omega⟩
  have S0 := hid hS12
  have d0 := D0.out.c0
  have d1 := D0.out.c1
  have HP := hid (he ▸ picked_any k 20 W2 hx_k.1 hx_k.2 (by omega) (by omega))
  clear hW1 hW2 HN b0 b1 b0' b1' hT hT1 hT2 hb1 hK1 hbel1 hbel2 hB1 hB2 apt hrow hS12 hq0 hq1 hz1 hsz hlt hz2 he hO
  generalize w.heap.size = p at *
  generalize w1.heap.size = q at *
  have hcall := HP.out
  go_fit hcall
  clear hcall HP
  rintro e w3 ⟨rfl, rfl⟩
  have hU := fun (names : List ByteArray) (w' : World) (hd' : Desk w' B bb names p q d k x y z) (hN' : NamesOk names (1000 - n)) => sub_any HIH.out hd' hd0 hd (by omega) hN'
  have hE := fun (names : List ByteArray) (w' : World) (hd' : Desk w' B bb names p q d k x y z) (hN' : NamesOk names (1000 - n)) => expr_at HIH.out hd' hd0 hd hN'
  have HNO2 : Hid (NamesOk names (1000 - n)) := hid ⟨HNO.out.pos, Nat.le_trans HNO.out.len (by omega), HNO.out.ok⟩
  have hN := HNO.out
  clear hE
  go_upto_region 28 with fail
  refine wp_region_invA (fun _ w' => Desk w' B bb names p q d k x y z ∧ Stp B bb names names w w') (fun _ => Stp B bb names names) (fun i v w' => match i with
    | 0 => ∃ b, v = .slice (some ⟨b, 0, none⟩) 3 3 ∧ RowT B bb b 3 D M w'
    | 1 => v = .pointer (some ⟨q, 1, none⟩)
    | 2 => v = .int .i64 x
    | 3 => ∃ j : Nat, v = .int .i64 j ∧ j < 3
    | 4 => ∃ b j, v = .pointer (some ⟨b, j, none⟩) ∧ j < 3 ∧ RowT B bb b 3 D M w'
    | 5 => InL (Tr D M) v
    | 6 => InL (Cat (One [40]) (Tr D M)) v
    | 7 => InL (Cat (Cat (One [40]) (Tr D M)) (One [32])) v
    | 8 => v = .func (.func 33) #[] #[.pointer (some ⟨p, 0, none⟩), .pointer (some ⟨p + 1, 0, none⟩)]
    | 9 => InL (Tr D M) v
    | 10 => InL (Cat (Cat (Cat (One [40]) (Tr D M)) (One [32])) (Tr D M)) v
    | 11 => InL (Cat (Cat (Cat (Cat (One [40]) (Tr D M)) (One [32])) (Tr D M)) (One [41])) v
    | 12 => InL (Cat (Cat (Cat (Cat (One [40]) (Tr D M)) (One [32])) (Tr D M)) (One [41])) v
    | _ => True) (by kernel_rfl) (by kernel_rfl) ?hst ?hmono ⟨?o0, ?o1, ?o2, ?o3, ?o4, ?o5, ?o6, ?o7, ?o8, ?o9, ?o10, ?o11, ?o12, trivial⟩ ?hend
  case hst => exact ⟨D0.out.step (Stp.of_below D0.out.size (drewN_below _ 1)), S0.out.trans (Stp.of_below D0.out.size (drewN_below _ 1))⟩
  case hmono =>
    intro i j v w1 w2 _ _ _ _ ⟨_, hS⟩ hv hR
    obtain ⟨l, hl⟩ := hS.1.bard
    rcases i with _ | _ | _ | _ | _ | _ | _ | _ | _ | _ | _ | _ | _ | i
    all_goals first | exact hv | (obtain ⟨b, h1, h2⟩ := hv; exact ⟨b, h1, h2.step hR hl⟩) | (obtain ⟨b, j, h1, h2, h3⟩ := hv; exact ⟨b, j, h1, h2, h3.step hR hl⟩)
  case o0 =>
    intro dn a w' _ hS hF K hK
    rw [if_pos (by kernel_rfl)]
    obtain ⟨l, hl⟩ := hS.1.bard
    go_simp
    have hs := Stp.of_below (bb := bb) (names := names) hS.1.size ((Below.refl w'.heap.size w').alloc (Nat.le_refl _) (.cells #[.string ⟨#[102]⟩, .string ⟨#[103]⟩, .string ⟨#[104]⟩] 9))
    refine hK _ _ _ rfl ⟨hS.1.step hs, hS.2.trans hs⟩ hs ⟨_, rfl, _, ⟨heap_alloc_new w' _, Apart.new hl hS.1.size _⟩, rfl, row_of ⟨word_ok hD hM [102] (by decide +kernel), word_ok hD hM [103] (by decide +kernel), word_ok hD hM [104] (by decide +kernel), trivial⟩⟩
  case o1 =>
    intro dn a w' _ hS hF K hK
    have h5 := hF.out 5 (by kernel_rfl) rfl
    rw [if_pos (by kernel_rfl)]
    go_simp
    exact hK _ _ _ rfl hS (Stp.refl _ _ _ _) rfl
  case o2 =>
    intro dn a w' _ hS hF K hK
    obtain ⟨v168, h168, rfl⟩ := hF.val 1 168 (by kernel_rfl) (by kernel_rfl)
    have hc := hS.1.c1
    rw [if_pos (by kernel_rfl)]
    go_simp
    exact hK _ _ _ rfl hS (Stp.refl _ _ _ _) rfl
  case o3 =>
    intro dn a w' _ hS hF K hK
    obtain ⟨v169, h169, rfl⟩ := hF.val 2 169 (by kernel_rfl) (by kernel_rfl)
    rw [if_pos (by kernel_rfl)]
    go_simp
    refine (picked_any x 3 w' hx_x.1 hx_x.2 (by omega) (by omega)).mono ?_
    rintro e w'' ⟨rfl, rfl⟩
    obtain ⟨j, hj, hjl⟩ := pick_nat x 3 (by omega)
    rw [hj]
    exact hK _ _ _ rfl hS (Stp.refl _ _ _ _) ⟨j, rfl, by omega⟩
  case o4 =>
    intro dn a w' _ hS hF K hK
    obtain ⟨v167, h167, b167, rfl, hr167⟩ := hF.val 0 167 (by kernel_rfl) (by kernel_rfl)
    obtain ⟨v170, h170, j170, rfl, hj170⟩ := hF.val 3 170 (by kernel_rfl) (by kernel_rfl)
    have hj' : (j170 : Int) < 3 := by omega
    rw [if_pos (by kernel_rfl)]
    go_simp
    exact hK _ _ _ rfl hS (Stp.refl _ _ _ _) ⟨b167, j170, rfl, by omega, hr167⟩
  case o5 =>
    intro dn a w' _ hS hF K hK
    obtain ⟨v171, h171, b171, j171, rfl, hj171, hr171⟩ := hF.val 4 171 (by kernel_rfl) (by kernel_rfl)
    obtain ⟨u, hc, hu⟩ := hr171.cell hj171
    rw [if_pos (by kernel_rfl)]
    go_simp
    exact hK _ _ _ rfl hS (Stp.refl _ _ _ _) hu
  case o6 =>
    intro dn a w' _ hS hF K hK
    obtain ⟨v172, h172, hl172⟩ := hF.val 5 172 (by kernel_rfl) (by kernel_rfl)
    obtain ⟨s172, rfl⟩ := inL_str hl172
    rw [if_pos (by kernel_rfl)]
    go_simp
    have hz0 := (Bnd.one [40]).size (InL.one [40])
    have hz1 := (Bnd.tr D M).size (hl172)
    try simp only [List.length_cons, List.length_nil] at hz0 hz1
    rw [if_neg (by omega)]
    exact hK _ _ _ rfl hS (Stp.refl _ _ _ _) (InL.cat (InL.one [40]) (hl172))
  case o7 =>
    intro dn a w' _ hS hF K hK
    obtain ⟨v173, h173, hl173⟩ := hF.val 6 173 (by kernel_rfl) (by kernel_rfl)
    obtain ⟨s173, rfl⟩ := inL_str hl173
    rw [if_pos (by kernel_rfl)]
    go_simp
    have hz0 := ((Bnd.one [40]).cat (Bnd.tr D M)).size (hl173)
    have hz1 := (Bnd.one [32]).size (InL.one [32])
    try simp only [List.length_cons, List.length_nil] at hz0 hz1
    rw [if_neg (by omega)]
    exact hK _ _ _ rfl hS (Stp.refl _ _ _ _) (InL.cat (hl173) (InL.one [32]))
  case o8 =>
    intro dn a w' _ hS hF K hK
    have h6 := hF.out 6 (by kernel_rfl) rfl
    rw [if_pos (by kernel_rfl)]
    go_simp
    exact hK _ _ _ rfl hS (Stp.refl _ _ _ _) rfl
  case o9 =>
    intro dn a w' _ hS hF K hK
    obtain ⟨v175, h175, rfl⟩ := hF.val 8 175 (by kernel_rfl) (by kernel_rfl)
    rw [if_pos (by kernel_rfl)]
    go_simp
    refine (hU names w' hS.1 HNO2.out).mono ?_
    rintro e w'' ⟨⟨v, rfl, hv⟩, hs⟩
    exact hK _ _ _ rfl ⟨hS.1.step hs, hS.2.trans hs⟩ hs hv
  case o10 =>
    intro dn a w' _ hS hF K hK
    obtain ⟨v174, h174, hl174⟩ := hF.val 7 174 (by kernel_rfl) (by kernel_rfl)
    obtain ⟨s174, rfl⟩ := inL_str hl174
    obtain ⟨v176, h176, hl176⟩ := hF.val 9 176 (by kernel_rfl) (by kernel_rfl)
    obtain ⟨s176, rfl⟩ := inL_str hl176
    rw [if_pos (by kernel_rfl)]
    go_simp
    have hz0 := (((Bnd.one [40]).cat (Bnd.tr D M)).cat (Bnd.one [32])).size (hl174)
    have hz1 := (Bnd.tr D M).size (hl176)
    try simp only [List.length_cons, List.length_nil] at hz0 hz1
    rw [if_neg (by omega)]
    exact hK _ _ _ rfl hS (Stp.refl _ _ _ _) (InL.cat (hl174) (hl176))
  case o11 =>
    intro dn a w' _ hS hF K hK
    obtain ⟨v177, h177, hl177⟩ := hF.val 10 177 (by kernel_rfl) (by kernel_rfl)
    obtain ⟨s177, rfl⟩ := inL_str hl177
    rw [if_pos (by kernel_rfl)]
    go_simp
    have hz0 := ((((Bnd.one [40]).cat (Bnd.tr D M)).cat (Bnd.one [32])).cat (Bnd.tr D M)).size (hl177)
    have hz1 := (Bnd.one [41]).size (InL.one [41])
    try simp only [List.length_cons, List.length_nil] at hz0 hz1
    rw [if_neg (by omega)]
    exact hK _ _ _ rfl hS (Stp.refl _ _ _ _) (InL.cat (hl177) (InL.one [41]))
  case o12 =>
    intro dn a w' _ hS hF K hK
    obtain ⟨v178, h178, hl178⟩ := hF.val 11 178 (by kernel_rfl) (by kernel_rfl)
    obtain ⟨s178, rfl⟩ := inL_str hl178
    rw [if_pos (by kernel_rfl)]
    go_simp
    exact hK _ _ _ rfl hS (Stp.refl _ _ _ _) hl178
  case hend =>
    intro dn w' vs hS hv
    have hv12 : InL (Cat (Cat (Cat (Cat (One [40]) (Tr D M)) (One [32])) (Tr D M)) (One [41])) (vs 12) := hv 12 (by decide)
    clear hv
    simp only [putsL, Nat.reduceAdd, Act.put, List.setIfInBounds_toArray, List.set_cons_zero, List.set_cons_succ]
    generalize vs 12 = vL at hv12 ⊢
    obtain ⟨s, rfl⟩ := inL_str hv12
    go_wp2
    go_ret
    refine ⟨⟨_, rfl, ?_⟩, hS.2⟩
    obtain ⟨_, hl, ⟨_, _, rfl, ⟨_, _, rfl, ⟨_, _, rfl, ⟨_, _, rfl, rfl, ⟨t0, rfl, hok_t0, hdp_t0, hln_t0⟩⟩, rfl⟩, ⟨t1, rfl, hok_t1, hdp_t1, hln_t1⟩⟩, rfl⟩⟩ := hv12
    rw [hl]
    exact tree_ok (.l [t0, t1]) _ (by simp [Tx.pr, Tx.prs]) (by simp [Tx.fit, Tx.fits, Tx.isL, hok_t0, hok_t1] <;> decide +kernel) (by simp only [Tx.dep, Tx.deps]; omega) (by simp only [List.length_append, List.length_cons, List.length_nil]; omega)
end Go.Proofs.YtdfmimgjdchafaaGreatDoor
