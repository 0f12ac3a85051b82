/- The bard's expression, cases 3, 4, 5, 6, 7. -/
import Derived.Test.YtdfmimgjdchafaaGreatDoorBSub
import Derived.Deep.Cut
namespace Go.Proofs.YtdfmimgjdchafaaGreatDoor
set_option maxRecDepth 100000
open Go.RowKit
set_option linter.unusedVariables false
set_option linter.unusedSimpArgs false
set_option maxRecDepth 100000 in
set_option maxHeartbeats 4000000 in
theorem expr_c3 {B bb n D M : Nat} (hD : 2 ≤ D) (hM : 20 ≤ M) (hM2 : M ≤ 1000000) (ih : ExprAt B bb n D M) (hn : n ≤ 900) (w : World) (lv : Value) (names : List ByteArray) (d k x y z : Int) (hd0 : 0 < d) (hd : d ≤ n + 1) (hB : B ≤ w.heap.size) (h : Bard w B bb lv names) (hT : TabB w B) (hN : NamesOk names (999 - n))
    (hx_k : i64B k) (hx_x : i64B x) (hx_y : i64B y) (hx_z : i64B z)
    (HN0 : Calls Tryz.prog 31 #[.pointer (some ⟨bb, 0, none⟩)] ((w.alloc (.cells #[.pointer (some ⟨bb, 0, none⟩)] 59)).alloc (.cells #[.int .i64 d] 3)) fun e w' => e = .returned (.agg #[.int .i64 k, .int .i64 x, .int .i64 y, .int .i64 z]) ∧ Bard w' B bb lv names ∧ Kept bb none ((w.alloc (.cells #[.pointer (some ⟨bb, 0, none⟩)] 59)).alloc (.cells #[.int .i64 d] 3)) w') (he : pick k 20 = 3) :
    Calls Tryz.prog 17 #[.pointer (some ⟨bb, 0, none⟩), .int .i64 d] w fun e w' => (∃ v, e = .returned v ∧ InL (Tr (D + 5) (3 * M + 100)) v) ∧ Stp B bb names names w w' := by
  have hlt := h.lt
  generalize hW1 : (w.alloc (.cells #[.pointer (some ⟨bb, 0, none⟩)] 59)).alloc (.cells #[.int .i64 d] 3) = W1 at HN0
  have hbel1 : Below w.heap.size w W1 := by rw [← hW1]; exact ((Below.refl _ _).alloc (Nat.le_refl _) _).alloc (by simp) _
  have hB1 : Bard W1 B bb lv names := h.keep hB hbel1
  have HN := hid HN0
  clear HN0
  have hsz : W1.heap.size = w.heap.size + 2 := by rw [← hW1]; simp
  have b0 : W1.cell? ⟨w.heap.size, 0, none⟩ = some (.pointer (some ⟨bb, 0, none⟩)) := by rw [← hW1, World.cell?_alloc_past _ _ _ (by simp), World.cell?_alloc_at _ _ _ _ rfl]; rfl
  have b1 : W1.cell? ⟨w.heap.size + 1, 0, none⟩ = some (.int .i64 d) := by rw [← hW1, World.cell?_alloc_at _ _ _ _ (by simp)]; rfl
  have hT1 : TabB W1 B := hT.below (hbel1.mono hB)
  have hmf : ∀ (fn : Fn) (first cap : Array Value) (w : World), (Instr.makeFunc fn first cap).run Tryz.prog w = .ok (.func fn first cap) w := fun _ _ _ _ => rfl
  have HNO := hid hN
  have HIH := hid ih
  have HB := hid h
  clear hN ih
  go_enter Tryz.func17, Tryz.ntmps17
  go_wp2_with fail
  have hcall := HN.out
  go_fit hcall
  clear hcall
  rintro e w1 ⟨rfl, hb1, hK1⟩
  have hz1 := hK1.size
  have b0' := (hK1.cell (p := ⟨w.heap.size, 0, none⟩) (by simp only; omega) (by simp only; omega) (by simp)).trans b0
  have b1' := (hK1.cell (p := ⟨w.heap.size + 1, 0, none⟩) (by simp only; omega) (by simp only; omega) (by simp)).trans b1
  have hT2 : TabB w1 B := hT1.below (hK1.below h.own (fun g hg => by cases hg) (by omega))
  have hq0 : w.heap.size < w1.heap.size := by omega
  have hq1 : w.heap.size + 1 < w1.heap.size := by omega
  go_wp2_with fail
  have hO := h.own
  generalize hW2 : w1.alloc (.cells #[.int .i64 k, .int .i64 x, .int .i64 y, .int .i64 z] 46) = W2
  have hbel2 : Below w1.heap.size w1 W2 := by rw [← hW2]; exact (Below.refl _ _).alloc (Nat.le_refl _) _
  have hS12 : Stp B bb names names w W2 := by
    intro l hl
    obtain rfl := h.det hl
    exact ⟨lv, hb1.keep (by omega) hbel2, ((Kept.of_below hbel1 (Nat.le_refl _)).trans (row := lv.ownBlock) (row' := lv.ownBlock) ⟨hK1.os, hK1.tape, hK1.output, hK1.size, fun k hk h1 _ => hK1.block k hk h1 (by simp)⟩ (fun g hg => Or.inl hg)).trans (row' := none) (Kept.of_below hbel2 (Nat.le_refl _)) (by simp), fun g hg => Or.inl hg⟩
  have hB2 : Bard W2 B bb lv names := hb1.keep (by omega) hbel2
  have hrow := fun g hg => (h.row_ge (g := g) hg).2
  have apt : ∀ b, w.heap.size ≤ b → b < W2.heap.size → Apart B bb b W2 := fun b h1 h2 => ⟨h2, by omega, fun l _ k e => by
    obtain rfl := hB2.det k
    have := hrow b e
    omega⟩
  have hz2 : w1.heap.size < W2.heap.size := by rw [← hW2]; simp
  have D0 : Hid (Desk W2 B bb names w.heap.size w1.heap.size d k x y z) := hid
    ⟨⟨lv, hB2⟩, hT2.below (hbel2.mono (by omega)), (hbel2.cell (p := ⟨w.heap.size, 0, none⟩) hq0).trans b0', (hbel2.cell (p := ⟨w.heap.size + 1, 0, none⟩) hq1).trans b1',
      by rw [← hW2, World.cell?_alloc_at _ _ _ _ rfl]; rfl, by rw [← hW2, World.cell?_alloc_at _ _ _ _ rfl]; rfl, by rw [← hW2, World.cell?_alloc_at _ _ _ _ rfl]; rfl, by rw [← hW2, World.cell?_alloc_at _ _ _ _ rfl]; rfl,
      apt _ (by omega) (by omega), apt _ (by omega) (by omega), apt _ (by omega) (by omega), by omega⟩
  have S0 := hid hS12
  have d0 := D0.out.c0
  have d1 := D0.out.c1
  have HP := hid (he ▸ picked_any k 20 W2 hx_k.1 hx_k.2 (by omega) (by omega))
  clear hW1 hW2 HN b0 b1 b0' b1' hT hT1 hT2 hb1 hK1 hbel1 hbel2 hB1 hB2 apt hrow hS12 hq0 hq1 hz1 hsz hlt hz2 he hO
  generalize w.heap.size = p at *
  generalize w1.heap.size = q at *
  have hcall := HP.out
  go_fit hcall
  clear hcall HP
  rintro e w3 ⟨rfl, rfl⟩
  have hU := fun (names : List ByteArray) (w' : World) (hd' : Desk w' B bb names p q d k x y z) (hN' : NamesOk names (1000 - n)) => sub_any HIH.out hd' hd0 hd (by omega) hN'
  have hE := fun (names : List ByteArray) (w' : World) (hd' : Desk w' B bb names p q d k x y z) (hN' : NamesOk names (1000 - n)) => expr_at HIH.out hd' hd0 hd hN'
  have HNO2 : Hid (NamesOk names (1000 - n)) := hid ⟨HNO.out.pos, Nat.le_trans HNO.out.len (by omega), HNO.out.ok⟩
  have hN := HNO.out
  clear hE
  go_upto_region 12 with fail
  refine wp_region_invA (fun _ w' => Desk w' B bb names p q d k x y z ∧ Stp B bb names names w w') (fun _ => Stp B bb names names) (fun i v w' => match i with
    | 0 => v = .func (.func 33) #[] #[.pointer (some ⟨p, 0, none⟩), .pointer (some ⟨p + 1, 0, none⟩)]
    | 1 => InL (Tr D M) v
    | 2 => InL (Cat (One [40, 99, 111, 110, 115, 32]) (Tr D M)) v
    | 3 => InL (Cat (Cat (One [40, 99, 111, 110, 115, 32]) (Tr D M)) (One [32])) v
    | 4 => v = .func (.func 33) #[] #[.pointer (some ⟨p, 0, none⟩), .pointer (some ⟨p + 1, 0, none⟩)]
    | 5 => InL (Tr D M) v
    | 6 => InL (Cat (Cat (Cat (One [40, 99, 111, 110, 115, 32]) (Tr D M)) (One [32])) (Tr D M)) v
    | 7 => InL (Cat (Cat (Cat (Cat (One [40, 99, 111, 110, 115, 32]) (Tr D M)) (One [32])) (Tr D M)) (One [41])) v
    | 8 => InL (Cat (Cat (Cat (Cat (One [40, 99, 111, 110, 115, 32]) (Tr D M)) (One [32])) (Tr D M)) (One [41])) v
    | _ => True) (by kernel_rfl) (by kernel_rfl) ?hst ?hmono ⟨?o0, ?o1, ?o2, ?o3, ?o4, ?o5, ?o6, ?o7, ?o8, trivial⟩ ?hend
  case hst => exact ⟨D0.out.step (Stp.of_below D0.out.size (drewN_below _ 0)), S0.out.trans (Stp.of_below D0.out.size (drewN_below _ 0))⟩
  case hmono =>
    intro i j v w1 w2 _ _ _ _ ⟨_, hS⟩ hv hR
    obtain ⟨l, hl⟩ := hS.1.bard
    rcases i with _ | _ | _ | _ | _ | _ | _ | _ | _ | i
    all_goals first | exact hv | (obtain ⟨b, h1, h2⟩ := hv; exact ⟨b, h1, h2.step hR hl⟩) | (obtain ⟨b, j, h1, h2, h3⟩ := hv; exact ⟨b, j, h1, h2, h3.step hR hl⟩)
  case o0 =>
    intro dn a w' _ hS hF K hK
    have h6 := hF.out 6 (by kernel_rfl) rfl
    rw [if_pos (by kernel_rfl)]
    go_simp
    exact hK _ _ _ rfl hS (Stp.refl _ _ _ _) rfl
  case o1 =>
    intro dn a w' _ hS hF K hK
    obtain ⟨v71, h71, rfl⟩ := hF.val 0 71 (by kernel_rfl) (by kernel_rfl)
    rw [if_pos (by kernel_rfl)]
    go_simp
    refine (hU names w' hS.1 HNO2.out).mono ?_
    rintro e w'' ⟨⟨v, rfl, hv⟩, hs⟩
    exact hK _ _ _ rfl ⟨hS.1.step hs, hS.2.trans hs⟩ hs hv
  case o2 =>
    intro dn a w' _ hS hF K hK
    obtain ⟨v72, h72, hl72⟩ := hF.val 1 72 (by kernel_rfl) (by kernel_rfl)
    obtain ⟨s72, rfl⟩ := inL_str hl72
    rw [if_pos (by kernel_rfl)]
    go_simp
    have hz0 := (Bnd.one [40, 99, 111, 110, 115, 32]).size (InL.one [40, 99, 111, 110, 115, 32])
    have hz1 := (Bnd.tr D M).size (hl72)
    try simp only [List.length_cons, List.length_nil] at hz0 hz1
    rw [if_neg (by omega)]
    exact hK _ _ _ rfl hS (Stp.refl _ _ _ _) (InL.cat (InL.one [40, 99, 111, 110, 115, 32]) (hl72))
  case o3 =>
    intro dn a w' _ hS hF K hK
    obtain ⟨v73, h73, hl73⟩ := hF.val 2 73 (by kernel_rfl) (by kernel_rfl)
    obtain ⟨s73, rfl⟩ := inL_str hl73
    rw [if_pos (by kernel_rfl)]
    go_simp
    have hz0 := ((Bnd.one [40, 99, 111, 110, 115, 32]).cat (Bnd.tr D M)).size (hl73)
    have hz1 := (Bnd.one [32]).size (InL.one [32])
    try simp only [List.length_cons, List.length_nil] at hz0 hz1
    rw [if_neg (by omega)]
    exact hK _ _ _ rfl hS (Stp.refl _ _ _ _) (InL.cat (hl73) (InL.one [32]))
  case o4 =>
    intro dn a w' _ hS hF K hK
    have h6 := hF.out 6 (by kernel_rfl) rfl
    rw [if_pos (by kernel_rfl)]
    go_simp
    exact hK _ _ _ rfl hS (Stp.refl _ _ _ _) rfl
  case o5 =>
    intro dn a w' _ hS hF K hK
    obtain ⟨v75, h75, rfl⟩ := hF.val 4 75 (by kernel_rfl) (by kernel_rfl)
    rw [if_pos (by kernel_rfl)]
    go_simp
    refine (hU names w' hS.1 HNO2.out).mono ?_
    rintro e w'' ⟨⟨v, rfl, hv⟩, hs⟩
    exact hK _ _ _ rfl ⟨hS.1.step hs, hS.2.trans hs⟩ hs hv
  case o6 =>
    intro dn a w' _ hS hF K hK
    obtain ⟨v74, h74, hl74⟩ := hF.val 3 74 (by kernel_rfl) (by kernel_rfl)
    obtain ⟨s74, rfl⟩ := inL_str hl74
    obtain ⟨v76, h76, hl76⟩ := hF.val 5 76 (by kernel_rfl) (by kernel_rfl)
    obtain ⟨s76, rfl⟩ := inL_str hl76
    rw [if_pos (by kernel_rfl)]
    go_simp
    have hz0 := (((Bnd.one [40, 99, 111, 110, 115, 32]).cat (Bnd.tr D M)).cat (Bnd.one [32])).size (hl74)
    have hz1 := (Bnd.tr D M).size (hl76)
    try simp only [List.length_cons, List.length_nil] at hz0 hz1
    rw [if_neg (by omega)]
    exact hK _ _ _ rfl hS (Stp.refl _ _ _ _) (InL.cat (hl74) (hl76))
  case o7 =>
    intro dn a w' _ hS hF K hK
    obtain ⟨v77, h77, hl77⟩ := hF.val 6 77 (by kernel_rfl) (by kernel_rfl)
    obtain ⟨s77, rfl⟩ := inL_str hl77
    rw [if_pos (by kernel_rfl)]
    go_simp
    have hz0 := ((((Bnd.one [40, 99, 111, 110, 115, 32]).cat (Bnd.tr D M)).cat (Bnd.one [32])).cat (Bnd.tr D M)).size (hl77)
    have hz1 := (Bnd.one [41]).size (InL.one [41])
    try simp only [List.length_cons, List.length_nil] at hz0 hz1
    rw [if_neg (by omega)]
    exact hK _ _ _ rfl hS (Stp.refl _ _ _ _) (InL.cat (hl77) (InL.one [41]))
  case o8 =>
    intro dn a w' _ hS hF K hK
    obtain ⟨v78, h78, hl78⟩ := hF.val 7 78 (by kernel_rfl) (by kernel_rfl)
    obtain ⟨s78, rfl⟩ := inL_str hl78
    rw [if_pos (by kernel_rfl)]
    go_simp
    exact hK _ _ _ rfl hS (Stp.refl _ _ _ _) hl78
  case hend =>
    intro dn w' vs hS hv
    have hv8 : InL (Cat (Cat (Cat (Cat (One [40, 99, 111, 110, 115, 32]) (Tr D M)) (One [32])) (Tr D M)) (One [41])) (vs 8) := hv 8 (by decide)
    clear hv
    simp only [putsL, Nat.reduceAdd, Act.put, List.setIfInBounds_toArray, List.set_cons_zero, List.set_cons_succ]
    generalize vs 8 = vL at hv8 ⊢
    obtain ⟨s, rfl⟩ := inL_str hv8
    go_wp2
    go_ret
    refine ⟨⟨_, rfl, ?_⟩, hS.2⟩
    obtain ⟨_, hl, ⟨_, _, rfl, ⟨_, _, rfl, ⟨_, _, rfl, ⟨_, _, rfl, rfl, ⟨t0, rfl, hok_t0, hdp_t0, hln_t0⟩⟩, rfl⟩, ⟨t1, rfl, hok_t1, hdp_t1, hln_t1⟩⟩, rfl⟩⟩ := hv8
    rw [hl]
    exact tree_ok (.l [.w [99, 111, 110, 115], t0, t1]) _ (by simp [Tx.pr, Tx.prs]) (by simp [Tx.fit, Tx.fits, Tx.isL, hok_t0, hok_t1] <;> decide +kernel) (by simp only [Tx.dep, Tx.deps]; omega) (by simp only [List.length_append, List.length_cons, List.length_nil]; omega)
set_option maxRecDepth 100000 in
set_option maxHeartbeats 4000000 in
theorem expr_c4 {B bb n D M : Nat} (hD : 2 ≤ D) (hM : 20 ≤ M) (hM2 : M ≤ 1000000) (ih : ExprAt B bb n D M) (hn : n ≤ 900) (w : World) (lv : Value) (names : List ByteArray) (d k x y z : Int) (hd0 : 0 < d) (hd : d ≤ n + 1) (hB : B ≤ w.heap.size) (h : Bard w B bb lv names) (hT : TabB w B) (hN : NamesOk names (999 - n))
    (hx_k : i64B k) (hx_x : i64B x) (hx_y : i64B y) (hx_z : i64B z)
    (HN0 : Calls Tryz.prog 31 #[.pointer (some ⟨bb, 0, none⟩)] ((w.alloc (.cells #[.pointer (some ⟨bb, 0, none⟩)] 59)).alloc (.cells #[.int .i64 d] 3)) fun e w' => e = .returned (.agg #[.int .i64 k, .int .i64 x, .int .i64 y, .int .i64 z]) ∧ Bard w' B bb lv names ∧ Kept bb none ((w.alloc (.cells #[.pointer (some ⟨bb, 0, none⟩)] 59)).alloc (.cells #[.int .i64 d] 3)) w') (he : pick k 20 = 4) :
    Calls Tryz.prog 17 #[.pointer (some ⟨bb, 0, none⟩), .int .i64 d] w fun e w' => (∃ v, e = .returned v ∧ InL (Tr (D + 5) (3 * M + 100)) v) ∧ Stp B bb names names w w' := by
  have hlt := h.lt
  generalize hW1 : (w.alloc (.cells #[.pointer (some ⟨bb, 0, none⟩)] 59)).alloc (.cells #[.int .i64 d] 3) = W1 at HN0
  have hbel1 : Below w.heap.size w W1 := by rw [← hW1]; exact ((Below.refl _ _).alloc (Nat.le_refl _) _).alloc (by simp) _
  have hB1 : Bard W1 B bb lv names := h.keep hB hbel1
  have HN := hid HN0
  clear HN0
  have hsz : W1.heap.size = w.heap.size + 2 := by rw [← hW1]; simp
  have b0 : W1.cell? ⟨w.heap.size, 0, none⟩ = some (.pointer (some ⟨bb, 0, none⟩)) := by rw [← hW1, World.cell?_alloc_past _ _ _ (by simp), World.cell?_alloc_at _ _ _ _ rfl]; rfl
  have b1 : W1.cell? ⟨w.heap.size + 1, 0, none⟩ = some (.int .i64 d) := by rw [← hW1, World.cell?_alloc_at _ _ _ _ (by simp)]; rfl
  have hT1 : TabB W1 B := hT.below (hbel1.mono hB)
  have hmf : ∀ (fn : Fn) (first cap : Array Value) (w : World), (Instr.makeFunc fn first cap).run Tryz.prog w = .ok (.func fn first cap) w := fun _ _ _ _ => rfl
  have HNO := hid hN
  have HIH := hid ih
  have HB := hid h
  clear hN ih
  go_enter Tryz.func17, Tryz.ntmps17
  go_wp2_with fail
  have hcall := HN.out
  go_fit hcall
  clear hcall
  rintro e w1 ⟨rfl, hb1, hK1⟩
  have hz1 := hK1.size
  have b0' := (hK1.cell (p := ⟨w.heap.size, 0, none⟩) (by simp only; omega) (by simp only; omega) (by simp)).trans b0
  have b1' := (hK1.cell (p := ⟨w.heap.size + 1, 0, none⟩) (by simp only; omega) (by simp only; omega) (by simp)).trans b1
  have hT2 : TabB w1 B := hT1.below (hK1.below h.own (fun g hg => by cases hg) (by omega))
  have hq0 : w.heap.size < w1.heap.size := by omega
  have hq1 : w.heap.size + 1 < w1.heap.size := by omega
  go_wp2_with fail
  have hO := h.own
  generalize hW2 : w1.alloc (.cells #[.int .i64 k, .int .i64 x, .int .i64 y, .int .i64 z] 46) = W2
  have hbel2 : Below w1.heap.size w1 W2 := by rw [← hW2]; exact (Below.refl _ _).alloc (Nat.le_refl _) _
  have hS12 : Stp B bb names names w W2 := by
    intro l hl
    obtain rfl := h.det hl
    exact ⟨lv, hb1.keep (by omega) hbel2, ((Kept.of_below hbel1 (Nat.le_refl _)).trans (row := lv.ownBlock) (row' := lv.ownBlock) ⟨hK1.os, hK1.tape, hK1.output, hK1.size, fun k hk h1 _ => hK1.block k hk h1 (by simp)⟩ (fun g hg => Or.inl hg)).trans (row' := none) (Kept.of_below hbel2 (Nat.le_refl _)) (by simp), fun g hg => Or.inl hg⟩
  have hB2 : Bard W2 B bb lv names := hb1.keep (by omega) hbel2
  have hrow := fun g hg => (h.row_ge (g := g) hg).2
  have apt : ∀ b, w.heap.size ≤ b → b < W2.heap.size → Apart B bb b W2 := fun b h1 h2 => ⟨h2, by omega, fun l _ k e => by
    obtain rfl := hB2.det k
    have := hrow b e
    omega⟩
  have hz2 : w1.heap.size < W2.heap.size := by rw [← hW2]; simp
  have D0 : Hid (Desk W2 B bb names w.heap.size w1.heap.size d k x y z) := hid
    ⟨⟨lv, hB2⟩, hT2.below (hbel2.mono (by omega)), (hbel2.cell (p := ⟨w.heap.size, 0, none⟩) hq0).trans b0', (hbel2.cell (p := ⟨w.heap.size + 1, 0, none⟩) hq1).trans b1',
      by rw [← hW2, World.cell?_alloc_at _ _ _ _ rfl]; rfl, by rw [← hW2, World.cell?_alloc_at _ _ _ _ rfl]; rfl, by rw [← hW2, World.cell?_alloc_at _ _ _ _ rfl]; rfl, by rw [← hW2, World.cell?_alloc_at _ _ _ _ rfl]; rfl,
      apt _ (by omega) (by omega), apt _ (by omega) (by omega), apt _ (by omega) (by omega), by omega⟩
  have S0 := hid hS12
  have d0 := D0.out.c0
  have d1 := D0.out.c1
  have HP := hid (he ▸ picked_any k 20 W2 hx_k.1 hx_k.2 (by omega) (by omega))
  clear hW1 hW2 HN b0 b1 b0' b1' hT hT1 hT2 hb1 hK1 hbel1 hbel2 hB1 hB2 apt hrow hS12 hq0 hq1 hz1 hsz hlt hz2 he hO
  generalize w.heap.size = p at *
  generalize w1.heap.size = q at *
  have hcall := HP.out
  go_fit hcall
  clear hcall HP
  rintro e w3 ⟨rfl, rfl⟩
  have hU := fun (names : List ByteArray) (w' : World) (hd' : Desk w' B bb names p q d k x y z) (hN' : NamesOk names (1000 - n)) => sub_any HIH.out hd' hd0 hd (by omega) hN'
  have hE := fun (names : List ByteArray) (w' : World) (hd' : Desk w' B bb names p q d k x y z) (hN' : NamesOk names (1000 - n)) => expr_at HIH.out hd' hd0 hd hN'
  have HNO2 : Hid (NamesOk names (1000 - n)) := hid ⟨HNO.out.pos, Nat.le_trans HNO.out.len (by omega), HNO.out.ok⟩
  have hN := HNO.out
  clear hE
  go_upto_region 14 with fail
  refine wp_region_invA (fun _ w' => Desk w' B bb names p q d k x y z ∧ Stp B bb names names w w') (fun _ => Stp B bb names names) (fun i v w' => match i with
    | 0 => v = .func (.func 33) #[] #[.pointer (some ⟨p, 0, none⟩), .pointer (some ⟨p + 1, 0, none⟩)]
    | 1 => InL (Tr D M) v
    | 2 => InL (Cat (One [40, 99, 97, 114, 32, 40, 99, 111, 110, 115, 32]) (Tr D M)) v
    | 3 => InL (Cat (Cat (One [40, 99, 97, 114, 32, 40, 99, 111, 110, 115, 32]) (Tr D M)) (One [32, 49, 41, 41])) v
    | 4 => InL (Cat (Cat (One [40, 99, 97, 114, 32, 40, 99, 111, 110, 115, 32]) (Tr D M)) (One [32, 49, 41, 41])) v
    | _ => True) (by kernel_rfl) (by kernel_rfl) ?hst ?hmono ⟨?o0, ?o1, ?o2, ?o3, ?o4, trivial⟩ ?hend
  case hst => exact ⟨D0.out.step (Stp.of_below D0.out.size (drewN_below _ 0)), S0.out.trans (Stp.of_below D0.out.size (drewN_below _ 0))⟩
  case hmono =>
    intro i j v w1 w2 _ _ _ _ ⟨_, hS⟩ hv hR
    obtain ⟨l, hl⟩ := hS.1.bard
    rcases i with _ | _ | _ | _ | _ | i
    all_goals first | exact hv | (obtain ⟨b, h1, h2⟩ := hv; exact ⟨b, h1, h2.step hR hl⟩) | (obtain ⟨b, j, h1, h2, h3⟩ := hv; exact ⟨b, j, h1, h2, h3.step hR hl⟩)
  case o0 =>
    intro dn a w' _ hS hF K hK
    have h6 := hF.out 6 (by kernel_rfl) rfl
    rw [if_pos (by kernel_rfl)]
    go_simp
    exact hK _ _ _ rfl hS (Stp.refl _ _ _ _) rfl
  case o1 =>
    intro dn a w' _ hS hF K hK
    obtain ⟨v81, h81, rfl⟩ := hF.val 0 81 (by kernel_rfl) (by kernel_rfl)
    rw [if_pos (by kernel_rfl)]
    go_simp
    refine (hU names w' hS.1 HNO2.out).mono ?_
    rintro e w'' ⟨⟨v, rfl, hv⟩, hs⟩
    exact hK _ _ _ rfl ⟨hS.1.step hs, hS.2.trans hs⟩ hs hv
  case o2 =>
    intro dn a w' _ hS hF K hK
    obtain ⟨v82, h82, hl82⟩ := hF.val 1 82 (by kernel_rfl) (by kernel_rfl)
    obtain ⟨s82, rfl⟩ := inL_str hl82
    rw [if_pos (by kernel_rfl)]
    go_simp
    have hz0 := (Bnd.one [40, 99, 97, 114, 32, 40, 99, 111, 110, 115, 32]).size (InL.one [40, 99, 97, 114, 32, 40, 99, 111, 110, 115, 32])
    have hz1 := (Bnd.tr D M).size (hl82)
    try simp only [List.length_cons, List.length_nil] at hz0 hz1
    rw [if_neg (by omega)]
    exact hK _ _ _ rfl hS (Stp.refl _ _ _ _) (InL.cat (InL.one [40, 99, 97, 114, 32, 40, 99, 111, 110, 115, 32]) (hl82))
  case o3 =>
    intro dn a w' _ hS hF K hK
    obtain ⟨v83, h83, hl83⟩ := hF.val 2 83 (by kernel_rfl) (by kernel_rfl)
    obtain ⟨s83, rfl⟩ := inL_str hl83
    rw [if_pos (by kernel_rfl)]
    go_simp
    have hz0 := ((Bnd.one [40, 99, 97, 114, 32, 40, 99, 111, 110, 115, 32]).cat (Bnd.tr D M)).size (hl83)
    have hz1 := (Bnd.one [32, 49, 41, 41]).size (InL.one [32, 49, 41, 41])
    try simp only [List.length_cons, List.length_nil] at hz0 hz1
    rw [if_neg (by omega)]
    exact hK _ _ _ rfl hS (Stp.refl _ _ _ _) (InL.cat (hl83) (InL.one [32, 49, 41, 41]))
  case o4 =>
    intro dn a w' _ hS hF K hK
    obtain ⟨v84, h84, hl84⟩ := hF.val 3 84 (by kernel_rfl) (by kernel_rfl)
    obtain ⟨s84, rfl⟩ := inL_str hl84
    rw [if_pos (by kernel_rfl)]
    go_simp
    exact hK _ _ _ rfl hS (Stp.refl _ _ _ _) hl84
  case hend =>
    intro dn w' vs hS hv
    have hv4 : InL (Cat (Cat (One [40, 99, 97, 114, 32, 40, 99, 111, 110, 115, 32]) (Tr D M)) (One [32, 49, 41, 41])) (vs 4) := hv 4 (by decide)
    clear hv
    simp only [putsL, Nat.reduceAdd, Act.put, List.setIfInBounds_toArray, List.set_cons_zero, List.set_cons_succ]
    generalize vs 4 = vL at hv4 ⊢
    obtain ⟨s, rfl⟩ := inL_str hv4
    go_wp2
    go_ret
    refine ⟨⟨_, rfl, ?_⟩, hS.2⟩
    obtain ⟨_, hl, ⟨_, _, rfl, ⟨_, _, rfl, rfl, ⟨t0, rfl, hok_t0, hdp_t0, hln_t0⟩⟩, rfl⟩⟩ := hv4
    rw [hl]
    exact tree_ok (.l [.w [99, 97, 114], .l [.w [99, 111, 110, 115], t0, .w [49]]]) _ (by simp [Tx.pr, Tx.prs]) (by simp [Tx.fit, Tx.fits, Tx.isL, hok_t0] <;> decide +kernel) (by simp only [Tx.dep, Tx.deps]; omega) (by simp only [List.length_append, List.length_cons, List.length_nil]; omega)
set_option maxRecDepth 100000 in
set_option maxHeartbeats 4000000 in
theorem expr_c5 {B bb n D M : Nat} (hD : 2 ≤ D) (hM : 20 ≤ M) (hM2 : M ≤ 1000000) (ih : ExprAt B bb n D M) (hn : n ≤ 900) (w : World) (lv : Value) (names : List ByteArray) (d k x y z : Int) (hd0 : 0 < d) (hd : d ≤ n + 1) (hB : B ≤ w.heap.size) (h : Bard w B bb lv names) (hT : TabB w B) (hN : NamesOk names (999 - n))
    (hx_k : i64B k) (hx_x : i64B x) (hx_y : i64B y) (hx_z : i64B z)
    (HN0 : Calls Tryz.prog 31 #[.pointer (some ⟨bb, 0, none⟩)] ((w.alloc (.cells #[.pointer (some ⟨bb, 0, none⟩)] 59)).alloc (.cells #[.int .i64 d] 3)) fun e w' => e = .returned (.agg #[.int .i64 k, .int .i64 x, .int .i64 y, .int .i64 z]) ∧ Bard w' B bb lv names ∧ Kept bb none ((w.alloc (.cells #[.pointer (some ⟨bb, 0, none⟩)] 59)).alloc (.cells #[.int .i64 d] 3)) w') (he : pick k 20 = 5) :
    Calls Tryz.prog 17 #[.pointer (some ⟨bb, 0, none⟩), .int .i64 d] w fun e w' => (∃ v, e = .returned v ∧ InL (Tr (D + 5) (3 * M + 100)) v) ∧ Stp B bb names names w w' := by
  have hlt := h.lt
  generalize hW1 : (w.alloc (.cells #[.pointer (some ⟨bb, 0, none⟩)] 59)).alloc (.cells #[.int .i64 d] 3) = W1 at HN0
  have hbel1 : Below w.heap.size w W1 := by rw [← hW1]; exact ((Below.refl _ _).alloc (Nat.le_refl _) _).alloc (by simp) _
  have hB1 : Bard W1 B bb lv names := h.keep hB hbel1
  have HN := hid HN0
  clear HN0
  have hsz : W1.heap.size = w.heap.size + 2 := by rw [← hW1]; simp
  have b0 : W1.cell? ⟨w.heap.size, 0, none⟩ = some (.pointer (some ⟨bb, 0, none⟩)) := by rw [← hW1, World.cell?_alloc_past _ _ _ (by simp), World.cell?_alloc_at _ _ _ _ rfl]; rfl
  have b1 : W1.cell? ⟨w.heap.size + 1, 0, none⟩ = some (.int .i64 d) := by rw [← hW1, World.cell?_alloc_at _ _ _ _ (by simp)]; rfl
  have hT1 : TabB W1 B := hT.below (hbel1.mono hB)
  have hmf : ∀ (fn : Fn) (first cap : Array Value) (w : World), (Instr.makeFunc fn first cap).run Tryz.prog w = .ok (.func fn first cap) w := fun _ _ _ _ => rfl
  have HNO := hid hN
  have HIH := hid ih
  have HB := hid h
  clear hN ih
  go_enter Tryz.func17, Tryz.ntmps17
  go_wp2_with fail
  have hcall := HN.out
  go_fit hcall
  clear hcall
  rintro e w1 ⟨rfl, hb1, hK1⟩
  have hz1 := hK1.size
  have b0' := (hK1.cell (p := ⟨w.heap.size, 0, none⟩) (by simp only; omega) (by simp only; omega) (by simp)).trans b0
  have b1' := (hK1.cell (p := ⟨w.heap.size + 1, 0, none⟩) (by simp only; omega) (by simp only; omega) (by simp)).trans b1
  have hT2 : TabB w1 B := hT1.below (hK1.below h.own (fun g hg => by cases hg) (by omega))
  have hq0 : w.heap.size < w1.heap.size := by omega
  have hq1 : w.heap.size + 1 < w1.heap.size := by omega
  go_wp2_with fail
  have hO := h.own
  generalize hW2 : w1.alloc (.cells #[.int .i64 k, .int .i64 x, .int .i64 y, .int .i64 z] 46) = W2
  have hbel2 : Below w1.heap.size w1 W2 := by rw [← hW2]; exact (Below.refl _ _).alloc (Nat.le_refl _) _
  have hS12 : Stp B bb names names w W2 := by
    intro l hl
    obtain rfl := h.det hl
    exact ⟨lv, hb1.keep (by omega) hbel2, ((Kept.of_below hbel1 (Nat.le_refl _)).trans (row := lv.ownBlock) (row' := lv.ownBlock) ⟨hK1.os, hK1.tape, hK1.output, hK1.size, fun k hk h1 _ => hK1.block k hk h1 (by simp)⟩ (fun g hg => Or.inl hg)).trans (row' := none) (Kept.of_below hbel2 (Nat.le_refl _)) (by simp), fun g hg => Or.inl hg⟩
  have hB2 : Bard W2 B bb lv names := hb1.keep (by omega) hbel2
  have hrow := fun g hg => (h.row_ge (g := g) hg).2
  have apt : ∀ b, w.heap.size ≤ b → b < W2.heap.size → Apart B bb b W2 := fun b h1 h2 => ⟨h2, by omega, fun l _ k e => by
    obtain rfl := hB2.det k
    have := hrow b e
    omega⟩
  have hz2 : w1.heap.size < W2.heap.size := by rw [← hW2]; simp
  have D0 : Hid (Desk W2 B bb names w.heap.size w1.heap.size d k x y z) := hid
    ⟨⟨lv, hB2⟩, hT2.below (hbel2.mono (by omega)), (hbel2.cell (p := ⟨w.heap.size, 0, none⟩) hq0).trans b0', (hbel2.cell (p := ⟨w.heap.size + 1, 0, none⟩) hq1).trans b1',
      by rw [← hW2, World.cell?_alloc_at _ _ _ _ rfl]; rfl, by rw [← hW2, World.cell?_alloc_at _ _ _ _ rfl]; rfl, by rw [← hW2, World.cell?_alloc_at _ _ _ _ rfl]; rfl, by rw [← hW2, World.cell?_alloc_at _ _ _ _ rfl]; rfl,
      apt _ (by omega) (by omega), apt _ (by omega) (by omega), apt _ (by omega) (by omega), by omega⟩
  have S0 := hid hS12
  have d0 := D0.out.c0
  have d1 := D0.out.c1
  have HP := hid (he ▸ picked_any k 20 W2 hx_k.1 hx_k.2 (by omega) (by omega))
  clear hW1 hW2 HN b0 b1 b0' b1' hT hT1 hT2 hb1 hK1 hbel1 hbel2 hB1 hB2 apt hrow hS12 hq0 hq1 hz1 hsz hlt hz2 he hO
  generalize w.heap.size = p at *
  generalize w1.heap.size = q at *
  have hcall := HP.out
  go_fit hcall
  clear hcall HP
  rintro e w3 ⟨rfl, rfl⟩
  have hU := fun (names : List ByteArray) (w' : World) (hd' : Desk w' B bb names p q d k x y z) (hN' : NamesOk names (1000 - n)) => sub_any HIH.out hd' hd0 hd (by omega) hN'
  have hE := fun (names : List ByteArray) (w' : World) (hd' : Desk w' B bb names p q d k x y z) (hN' : NamesOk names (1000 - n)) => expr_at HIH.out hd' hd0 hd hN'
  have HNO2 : Hid (NamesOk names (1000 - n)) := hid ⟨HNO.out.pos, Nat.le_trans HNO.out.len (by omega), HNO.out.ok⟩
  have hN := HNO.out
  clear hE
  go_upto_region 16 with fail
  refine wp_region_invA (fun _ w' => Desk w' B bb names p q d k x y z ∧ Stp B bb names names w w') (fun _ => Stp B bb names names) (fun i v w' => match i with
    | 0 => ∃ b, v = .slice (some ⟨b, 0, none⟩) 5 5 ∧ RowT B bb b 5 D M w'
    | 1 => v = .pointer (some ⟨q, 1, none⟩)
    | 2 => v = .int .i64 x
    | 3 => ∃ j : Nat, v = .int .i64 j ∧ j < 5
    | 4 => ∃ b j, v = .pointer (some ⟨b, j, none⟩) ∧ j < 5 ∧ RowT B bb b 5 D M w'
    | 5 => InL (Tr D M) v
    | 6 => InL (Cat (One [40]) (Tr D M)) v
    | 7 => InL (Cat (Cat (One [40]) (Tr D M)) (One [32])) v
    | 8 => v = .func (.func 33) #[] #[.pointer (some ⟨p, 0, none⟩), .pointer (some ⟨p + 1, 0, none⟩)]
    | 9 => InL (Tr D M) v
    | 10 => InL (Cat (Cat (Cat (One [40]) (Tr D M)) (One [32])) (Tr D M)) v
    | 11 => InL (Cat (Cat (Cat (Cat (One [40]) (Tr D M)) (One [32])) (Tr D M)) (One [41])) v
    | 12 => InL (Cat (Cat (Cat (Cat (One [40]) (Tr D M)) (One [32])) (Tr D M)) (One [41])) v
    | _ => True) (by kernel_rfl) (by kernel_rfl) ?hst ?hmono ⟨?o0, ?o1, ?o2, ?o3, ?o4, ?o5, ?o6, ?o7, ?o8, ?o9, ?o10, ?o11, ?o12, trivial⟩ ?hend
  case hst => exact ⟨D0.out.step (Stp.of_below D0.out.size (drewN_below _ 1)), S0.out.trans (Stp.of_below D0.out.size (drewN_below _ 1))⟩
  case hmono =>
    intro i j v w1 w2 _ _ _ _ ⟨_, hS⟩ hv hR
    obtain ⟨l, hl⟩ := hS.1.bard
    rcases i with _ | _ | _ | _ | _ | _ | _ | _ | _ | _ | _ | _ | _ | i
    all_goals first | exact hv | (obtain ⟨b, h1, h2⟩ := hv; exact ⟨b, h1, h2.step hR hl⟩) | (obtain ⟨b, j, h1, h2, h3⟩ := hv; exact ⟨b, j, h1, h2, h3.step hR hl⟩)
  case o0 =>
    intro dn a w' _ hS hF K hK
    rw [if_pos (by kernel_rfl)]
    obtain ⟨l, hl⟩ := hS.1.bard
    go_simp
    have hs := Stp.of_below (bb := bb) (names := names) hS.1.size ((Below.refl w'.heap.size w').alloc (Nat.le_refl _) (.cells #[.string ⟨#[110, 117, 108, 108, 63]⟩, .string ⟨#[112, 97, 105, 114, 63]⟩, .string ⟨#[110, 111, 116]⟩, .string ⟨#[112, 63]⟩, .string ⟨#[99, 100, 114]⟩] 9))
    refine hK _ _ _ rfl ⟨hS.1.step hs, hS.2.trans hs⟩ hs ⟨_, rfl, _, ⟨heap_alloc_new w' _, Apart.new hl hS.1.size _⟩, rfl, row_of ⟨word_ok hD hM [110, 117, 108, 108, 63] (by decide +kernel), word_ok hD hM [112, 97, 105, 114, 63] (by decide +kernel), word_ok hD hM [110, 111, 116] (by decide +kernel), word_ok hD hM [112, 63] (by decide +kernel), word_ok hD hM [99, 100, 114] (by decide +kernel), trivial⟩⟩
  case o1 =>
    intro dn a w' _ hS hF K hK
    have h5 := hF.out 5 (by kernel_rfl) rfl
    rw [if_pos (by kernel_rfl)]
    go_simp
    exact hK _ _ _ rfl hS (Stp.refl _ _ _ _) rfl
  case o2 =>
    intro dn a w' _ hS hF K hK
    obtain ⟨v88, h88, rfl⟩ := hF.val 1 88 (by kernel_rfl) (by kernel_rfl)
    have hc := hS.1.c1
    rw [if_pos (by kernel_rfl)]
    go_simp
    exact hK _ _ _ rfl hS (Stp.refl _ _ _ _) rfl
  case o3 =>
    intro dn a w' _ hS hF K hK
    obtain ⟨v89, h89, rfl⟩ := hF.val 2 89 (by kernel_rfl) (by kernel_rfl)
    rw [if_pos (by kernel_rfl)]
    go_simp
    refine (picked_any x 5 w' hx_x.1 hx_x.2 (by omega) (by omega)).mono ?_
    rintro e w'' ⟨rfl, rfl⟩
    obtain ⟨j, hj, hjl⟩ := pick_nat x 5 (by omega)
    rw [hj]
    exact hK _ _ _ rfl hS (Stp.refl _ _ _ _) ⟨j, rfl, by omega⟩
  case o4 =>
    intro dn a w' _ hS hF K hK
    obtain ⟨v87, h87, b87, rfl, hr87⟩ := hF.val 0 87 (by kernel_rfl) (by kernel_rfl)
    obtain ⟨v90, h90, j90, rfl, hj90⟩ := hF.val 3 90 (by kernel_rfl) (by kernel_rfl)
    have hj' : (j90 : Int) < 5 := by omega
    rw [if_pos (by kernel_rfl)]
    go_simp
    exact hK _ _ _ rfl hS (Stp.refl _ _ _ _) ⟨b87, j90, rfl, by omega, hr87⟩
  case o5 =>
    intro dn a w' _ hS hF K hK
    obtain ⟨v91, h91, b91, j91, rfl, hj91, hr91⟩ := hF.val 4 91 (by kernel_rfl) (by kernel_rfl)
    obtain ⟨u, hc, hu⟩ := hr91.cell hj91
    rw [if_pos (by kernel_rfl)]
    go_simp
    exact hK _ _ _ rfl hS (Stp.refl _ _ _ _) hu
  case o6 =>
    intro dn a w' _ hS hF K hK
    obtain ⟨v92, h92, hl92⟩ := hF.val 5 92 (by kernel_rfl) (by kernel_rfl)
    obtain ⟨s92, rfl⟩ := inL_str hl92
    rw [if_pos (by kernel_rfl)]
    go_simp
    have hz0 := (Bnd.one [40]).size (InL.one [40])
    have hz1 := (Bnd.tr D M).size (hl92)
    try simp only [List.length_cons, List.length_nil] at hz0 hz1
    rw [if_neg (by omega)]
    exact hK _ _ _ rfl hS (Stp.refl _ _ _ _) (InL.cat (InL.one [40]) (hl92))
  case o7 =>
    intro dn a w' _ hS hF K hK
    obtain ⟨v93, h93, hl93⟩ := hF.val 6 93 (by kernel_rfl) (by kernel_rfl)
    obtain ⟨s93, rfl⟩ := inL_str hl93
    rw [if_pos (by kernel_rfl)]
    go_simp
    have hz0 := ((Bnd.one [40]).cat (Bnd.tr D M)).size (hl93)
    have hz1 := (Bnd.one [32]).size (InL.one [32])
    try simp only [List.length_cons, List.length_nil] at hz0 hz1
    rw [if_neg (by omega)]
    exact hK _ _ _ rfl hS (Stp.refl _ _ _ _) (InL.cat (hl93) (InL.one [32]))
  case o8 =>
    intro dn a w' _ hS hF K hK
    have h6 := hF.out 6 (by kernel_rfl) rfl
    rw [if_pos (by kernel_rfl)]
    go_simp
    exact hK _ _ _ rfl hS (Stp.refl _ _ _ _) rfl
  case o9 =>
    intro dn a w' _ hS hF K hK
    obtain ⟨v95, h95, rfl⟩ := hF.val 8 95 (by kernel_rfl) (by kernel_rfl)
    rw [if_pos (by kernel_rfl)]
    go_simp
    refine (hU names w' hS.1 HNO2.out).mono ?_
    rintro e w'' ⟨⟨v, rfl, hv⟩, hs⟩
    exact hK _ _ _ rfl ⟨hS.1.step hs, hS.2.trans hs⟩ hs hv
  case o10 =>
    intro dn a w' _ hS hF K hK
    obtain ⟨v94, h94, hl94⟩ := hF.val 7 94 (by kernel_rfl) (by kernel_rfl)
    obtain ⟨s94, rfl⟩ := inL_str hl94
    obtain ⟨v96, h96, hl96⟩ := hF.val 9 96 (by kernel_rfl) (by kernel_rfl)
    obtain ⟨s96, rfl⟩ := inL_str hl96
    rw [if_pos (by kernel_rfl)]
    go_simp
    have hz0 := (((Bnd.one [40]).cat (Bnd.tr D M)).cat (Bnd.one [32])).size (hl94)
    have hz1 := (Bnd.tr D M).size (hl96)
    try simp only [List.length_cons, List.length_nil] at hz0 hz1
    rw [if_neg (by omega)]
    exact hK _ _ _ rfl hS (Stp.refl _ _ _ _) (InL.cat (hl94) (hl96))
  case o11 =>
    intro dn a w' _ hS hF K hK
    obtain ⟨v97, h97, hl97⟩ := hF.val 10 97 (by kernel_rfl) (by kernel_rfl)
    obtain ⟨s97, rfl⟩ := inL_str hl97
    rw [if_pos (by kernel_rfl)]
    go_simp
    have hz0 := ((((Bnd.one [40]).cat (Bnd.tr D M)).cat (Bnd.one [32])).cat (Bnd.tr D M)).size (hl97)
    have hz1 := (Bnd.one [41]).size (InL.one [41])
    try simp only [List.length_cons, List.length_nil] at hz0 hz1
    rw [if_neg (by omega)]
    exact hK _ _ _ rfl hS (Stp.refl _ _ _ _) (InL.cat (hl97) (InL.one [41]))
  case o12 =>
    intro dn a w' _ hS hF K hK
    obtain ⟨v98, h98, hl98⟩ := hF.val 11 98 (by kernel_rfl) (by kernel_rfl)
    obtain ⟨s98, rfl⟩ := inL_str hl98
    rw [if_pos (by kernel_rfl)]
    go_simp
    exact hK _ _ _ rfl hS (Stp.refl _ _ _ _) hl98
  case hend =>
    intro dn w' vs hS hv
    have hv12 : InL (Cat (Cat (Cat (Cat (One [40]) (Tr D M)) (One [32])) (Tr D M)) (One [41])) (vs 12) := hv 12 (by decide)
    clear hv
    simp only [putsL, Nat.reduceAdd, Act.put, List.setIfInBounds_toArray, List.set_cons_zero, List.set_cons_succ]
    generalize vs 12 = vL at hv12 ⊢
    obtain ⟨s, rfl⟩ := inL_str hv12
    go_wp2
    go_ret
    refine ⟨⟨_, rfl, ?_⟩, hS.2⟩
    obtain ⟨_, hl, ⟨_, _, rfl, ⟨_, _, rfl, ⟨_, _, rfl, ⟨_, _, rfl, rfl, ⟨t0, rfl, hok_t0, hdp_t0, hln_t0⟩⟩, rfl⟩, ⟨t1, rfl, hok_t1, hdp_t1, hln_t1⟩⟩, rfl⟩⟩ := hv12
    rw [hl]
    exact tree_ok (.l [t0, t1]) _ (by simp [Tx.pr, Tx.prs]) (by simp [Tx.fit, Tx.fits, Tx.isL, hok_t0, hok_t1] <;> decide +kernel) (by simp only [Tx.dep, Tx.deps]; omega) (by simp only [List.length_append, List.length_cons, List.length_nil]; omega)
set_option maxRecDepth 100000 in
set_option maxHeartbeats 4000000 in
theorem expr_c6 {B bb n D M : Nat} (hD : 2 ≤ D) (hM : 20 ≤ M) (hM2 : M ≤ 1000000) (ih : ExprAt B bb n D M) (hn : n ≤ 900) (w : World) (lv : Value) (names : List ByteArray) (d k x y z : Int) (hd0 : 0 < d) (hd : d ≤ n + 1) (hB : B ≤ w.heap.size) (h : Bard w B bb lv names) (hT : TabB w B) (hN : NamesOk names (999 - n))
    (hx_k : i64B k) (hx_x : i64B x) (hx_y : i64B y) (hx_z : i64B z)
    (HN0 : Calls Tryz.prog 31 #[.pointer (some ⟨bb, 0, none⟩)] ((w.alloc (.cells #[.pointer (some ⟨bb, 0, none⟩)] 59)).alloc (.cells #[.int .i64 d] 3)) fun e w' => e = .returned (.agg #[.int .i64 k, .int .i64 x, .int .i64 y, .int .i64 z]) ∧ Bard w' B bb lv names ∧ Kept bb none ((w.alloc (.cells #[.pointer (some ⟨bb, 0, none⟩)] 59)).alloc (.cells #[.int .i64 d] 3)) w') (he : pick k 20 = 6) :
    Calls Tryz.prog 17 #[.pointer (some ⟨bb, 0, none⟩), .int .i64 d] w fun e w' => (∃ v, e = .returned v ∧ InL (Tr (D + 5) (3 * M + 100)) v) ∧ Stp B bb names names w w' := by
  have hlt := h.lt
  generalize hW1 : (w.alloc (.cells #[.pointer (some ⟨bb, 0, none⟩)] 59)).alloc (.cells #[.int .i64 d] 3) = W1 at HN0
  have hbel1 : Below w.heap.size w W1 := by rw [← hW1]; exact ((Below.refl _ _).alloc (Nat.le_refl _) _).alloc (by simp) _
  have hB1 : Bard W1 B bb lv names := h.keep hB hbel1
  have HN := hid HN0
  clear HN0
  have hsz : W1.heap.size = w.heap.size + 2 := by rw [← hW1]; simp
  have b0 : W1.cell? ⟨w.heap.size, 0, none⟩ = some (.pointer (some ⟨bb, 0, none⟩)) := by rw [← hW1, World.cell?_alloc_past _ _ _ (by simp), World.cell?_alloc_at _ _ _ _ rfl]; rfl
  have b1 : W1.cell? ⟨w.heap.size + 1, 0, none⟩ = some (.int .i64 d) := by rw [← hW1, World.cell?_alloc_at _ _ _ _ (by simp)]; rfl
  have hT1 : TabB W1 B := hT.below (hbel1.mono hB)
  have hmf : ∀ (fn : Fn) (first cap : Array Value) (w : World), (Instr.makeFunc fn first cap).run Tryz.prog w = .ok (.func fn first cap) w := fun _ _ _ _ => rfl
  have HNO := hid hN
  have HIH := hid ih
  have HB := hid h
  clear hN ih
  go_enter Tryz.func17, Tryz.ntmps17
  go_wp2_with fail
  have hcall := HN.out
  go_fit hcall
  clear hcall
  rintro e w1 ⟨rfl, hb1, hK1⟩
  have hz1 := hK1.size
  have b0' := (hK1.cell (p := ⟨w.heap.size, 0, none⟩) (by simp only; omega) (by simp only; omega) (by simp)).trans b0
  have b1' := (hK1.cell (p := ⟨w.heap.size + 1, 0, none⟩) (by simp only; omega) (by simp only; omega) (by simp)).trans b1
  have hT2 : TabB w1 B := hT1.below (hK1.below h.own (fun g hg => by cases hg) (by omega))
  have hq0 : w.heap.size < w1.heap.size := by omega
  have hq1 : w.heap.size + 1 < w1.heap.size := by omega
  go_wp2_with fail
  have hO := h.own
  generalize hW2 : w1.alloc (.cells #[.int .i64 k, .int .i64 x, .int .i64 y, .int .i64 z] 46) = W2
  have hbel2 : Below w1.heap.size w1 W2 := by rw [← hW2]; exact (Below.refl _ _).alloc (Nat.le_refl _) _
  have hS12 : Stp B bb names names w W2 := by
    intro l hl
    obtain rfl := h.det hl
    exact ⟨lv, hb1.keep (by omega) hbel2, ((Kept.of_below hbel1 (Nat.le_refl _)).trans (row := lv.ownBlock) (row' := lv.ownBlock) ⟨hK1.os, hK1.tape, hK1.output, hK1.size, fun k hk h1 _ => hK1.block k hk h1 (by simp)⟩ (fun g hg => Or.inl hg)).trans (row' := none) (Kept.of_below hbel2 (Nat.le_refl _)) (by simp), fun g hg => Or.inl hg⟩
  have hB2 : Bard W2 B bb lv names := hb1.keep (by omega) hbel2
  have hrow := fun g hg => (h.row_ge (g := g) hg).2
  have apt : ∀ b, w.heap.size ≤ b → b < W2.heap.size → Apart B bb b W2 := fun b h1 h2 => ⟨h2, by omega, fun l _ k e => by
    obtain rfl := hB2.det k
    have := hrow b e
    omega⟩
  have hz2 : w1.heap.size < W2.heap.size := by rw [← hW2]; simp
  have D0 : Hid (Desk W2 B bb names w.heap.size w1.heap.size d k x y z) := hid
    ⟨⟨lv, hB2⟩, hT2.below (hbel2.mono (by omega)), (hbel2.cell (p := ⟨w.heap.size, 0, none⟩) hq0).trans b0', (hbel2.cell (p := ⟨w.heap.size + 1, 0, none⟩) hq1).trans b1',
      by rw [← hW2, World.cell?_alloc_at _ _ _ _ rfl]; rfl, by rw [← hW2, World.cell?_alloc_at _ _ _ _ rfl]; rfl, by rw [← hW2, World.cell?_alloc_at _ _ _ _ rfl]; rfl, by rw [← hW2, World.cell?_alloc_at _ _ _ _ rfl]; rfl,
      apt _ (by omega) (by omega), apt _ (by omega) (by omega), apt _ (by omega) (by omega), by omega⟩
  have S0 := hid hS12
  have d0 := D0.out.c0
  have d1 := D0.out.c1
  have HP := hid (he ▸ picked_any k 20 W2 hx_k.1 hx_k.2 (by omega) (by omega))
  clear hW1 hW2 HN b0 b1 b0' b1' hT hT1 hT2 hb1 hK1 hbel1 hbel2 hB1 hB2 apt hrow hS12 hq0 hq1 hz1 hsz hlt hz2 he hO
  generalize w.heap.size = p at *
  generalize w1.heap.size = q at *
  have hcall := HP.out
  go_fit hcall
  clear hcall HP
  rintro e w3 ⟨rfl, rfl⟩
  have hU := fun (names : List ByteArray) (w' : World) (hd' : Desk w' B bb names p q d k x y z) (hN' : NamesOk names (1000 - n)) => sub_any HIH.out hd' hd0 hd (by omega) hN'
  have hE := fun (names : List ByteArray) (w' : World) (hd' : Desk w' B bb names p q d k x y z) (hN' : NamesOk names (1000 - n)) => expr_at HIH.out hd' hd0 hd hN'
  have HNO2 : Hid (NamesOk names (1000 - n)) := hid ⟨HNO.out.pos, Nat.le_trans HNO.out.len (by omega), HNO.out.ok⟩
  have hN := HNO.out
  clear hE
  go_upto_region 19 with fail
  refine wp_region_invA (fun _ w' => Desk w' B bb names p q d k x y z ∧ Stp B bb names names w w') (fun _ => Stp B bb names names) (fun i v w' => match i with
    | 0 => v = .func (.func 33) #[] #[.pointer (some ⟨p, 0, none⟩), .pointer (some ⟨p + 1, 0, none⟩)]
    | 1 => InL (Tr D M) v
    | 2 => InL (Cat (One [40, 112, 32]) (Tr D M)) v
    | 3 => InL (Cat (Cat (One [40, 112, 32]) (Tr D M)) (One [32])) v
    | 4 => v = .func (.func 33) #[] #[.pointer (some ⟨p, 0, none⟩), .pointer (some ⟨p + 1, 0, none⟩)]
    | 5 => InL (Tr D M) v
    | 6 => InL (Cat (Cat (Cat (One [40, 112, 32]) (Tr D M)) (One [32])) (Tr D M)) v
    | 7 => InL (Cat (Cat (Cat (Cat (One [40, 112, 32]) (Tr D M)) (One [32])) (Tr D M)) (One [41])) v
    | 8 => InL (Cat (Cat (Cat (Cat (One [40, 112, 32]) (Tr D M)) (One [32])) (Tr D M)) (One [41])) v
    | _ => True) (by kernel_rfl) (by kernel_rfl) ?hst ?hmono ⟨?o0, ?o1, ?o2, ?o3, ?o4, ?o5, ?o6, ?o7, ?o8, trivial⟩ ?hend
  case hst => exact ⟨D0.out.step (Stp.of_below D0.out.size (drewN_below _ 0)), S0.out.trans (Stp.of_below D0.out.size (drewN_below _ 0))⟩
  case hmono =>
    intro i j v w1 w2 _ _ _ _ ⟨_, hS⟩ hv hR
    obtain ⟨l, hl⟩ := hS.1.bard
    rcases i with _ | _ | _ | _ | _ | _ | _ | _ | _ | i
    all_goals first | exact hv | (obtain ⟨b, h1, h2⟩ := hv; exact ⟨b, h1, h2.step hR hl⟩) | (obtain ⟨b, j, h1, h2, h3⟩ := hv; exact ⟨b, j, h1, h2, h3.step hR hl⟩)
  case o0 =>
    intro dn a w' _ hS hF K hK
    have h6 := hF.out 6 (by kernel_rfl) rfl
    rw [if_pos (by kernel_rfl)]
    go_simp
    exact hK _ _ _ rfl hS (Stp.refl _ _ _ _) rfl
  case o1 =>
    intro dn a w' _ hS hF K hK
    obtain ⟨v102, h102, rfl⟩ := hF.val 0 102 (by kernel_rfl) (by kernel_rfl)
    rw [if_pos (by kernel_rfl)]
    go_simp
    refine (hU names w' hS.1 HNO2.out).mono ?_
    rintro e w'' ⟨⟨v, rfl, hv⟩, hs⟩
    exact hK _ _ _ rfl ⟨hS.1.step hs, hS.2.trans hs⟩ hs hv
  case o2 =>
    intro dn a w' _ hS hF K hK
    obtain ⟨v103, h103, hl103⟩ := hF.val 1 103 (by kernel_rfl) (by kernel_rfl)
    obtain ⟨s103, rfl⟩ := inL_str hl103
    rw [if_pos (by kernel_rfl)]
    go_simp
    have hz0 := (Bnd.one [40, 112, 32]).size (InL.one [40, 112, 32])
    have hz1 := (Bnd.tr D M).size (hl103)
    try simp only [List.length_cons, List.length_nil] at hz0 hz1
    rw [if_neg (by omega)]
    exact hK _ _ _ rfl hS (Stp.refl _ _ _ _) (InL.cat (InL.one [40, 112, 32]) (hl103))
  case o3 =>
    intro dn a w' _ hS hF K hK
    obtain ⟨v104, h104, hl104⟩ := hF.val 2 104 (by kernel_rfl) (by kernel_rfl)
    obtain ⟨s104, rfl⟩ := inL_str hl104
    rw [if_pos (by kernel_rfl)]
    go_simp
    have hz0 := ((Bnd.one [40, 112, 32]).cat (Bnd.tr D M)).size (hl104)
    have hz1 := (Bnd.one [32]).size (InL.one [32])
    try simp only [List.length_cons, List.length_nil] at hz0 hz1
    rw [if_neg (by omega)]
    exact hK _ _ _ rfl hS (Stp.refl _ _ _ _) (InL.cat (hl104) (InL.one [32]))
  case o4 =>
    intro dn a w' _ hS hF K hK
    have h6 := hF.out 6 (by kernel_rfl) rfl
    rw [if_pos (by kernel_rfl)]
    go_simp
    exact hK _ _ _ rfl hS (Stp.refl _ _ _ _) rfl
  case o5 =>
    intro dn a w' _ hS hF K hK
    obtain ⟨v106, h106, rfl⟩ := hF.val 4 106 (by kernel_rfl) (by kernel_rfl)
    rw [if_pos (by kernel_rfl)]
    go_simp
    refine (hU names w' hS.1 HNO2.out).mono ?_
    rintro e w'' ⟨⟨v, rfl, hv⟩, hs⟩
    exact hK _ _ _ rfl ⟨hS.1.step hs, hS.2.trans hs⟩ hs hv
  case o6 =>
    intro dn a w' _ hS hF K hK
    obtain ⟨v105, h105, hl105⟩ := hF.val 3 105 (by kernel_rfl) (by kernel_rfl)
    obtain ⟨s105, rfl⟩ := inL_str hl105
    obtain ⟨v107, h107, hl107⟩ := hF.val 5 107 (by kernel_rfl) (by kernel_rfl)
    obtain ⟨s107, rfl⟩ := inL_str hl107
    rw [if_pos (by kernel_rfl)]
    go_simp
    have hz0 := (((Bnd.one [40, 112, 32]).cat (Bnd.tr D M)).cat (Bnd.one [32])).size (hl105)
    have hz1 := (Bnd.tr D M).size (hl107)
    try simp only [List.length_cons, List.length_nil] at hz0 hz1
    rw [if_neg (by omega)]
    exact hK _ _ _ rfl hS (Stp.refl _ _ _ _) (InL.cat (hl105) (hl107))
  case o7 =>
    intro dn a w' _ hS hF K hK
    obtain ⟨v108, h108, hl108⟩ := hF.val 6 108 (by kernel_rfl) (by kernel_rfl)
    obtain ⟨s108, rfl⟩ := inL_str hl108
    rw [if_pos (by kernel_rfl)]
    go_simp
    have hz0 := ((((Bnd.one [40, 112, 32]).cat (Bnd.tr D M)).cat (Bnd.one [32])).cat (Bnd.tr D M)).size (hl108)
    have hz1 := (Bnd.one [41]).size (InL.one [41])
    try simp only [List.length_cons, List.length_nil] at hz0 hz1
    rw [if_neg (by omega)]
    exact hK _ _ _ rfl hS (Stp.refl _ _ _ _) (InL.cat (hl108) (InL.one [41]))
  case o8 =>
    intro dn a w' _ hS hF K hK
    obtain ⟨v109, h109, hl109⟩ := hF.val 7 109 (by kernel_rfl) (by kernel_rfl)
    obtain ⟨s109, rfl⟩ := inL_str hl109
    rw [if_pos (by kernel_rfl)]
    go_simp
    exact hK _ _ _ rfl hS (Stp.refl _ _ _ _) hl109
  case hend =>
    intro dn w' vs hS hv
    have hv8 : InL (Cat (Cat (Cat (Cat (One [40, 112, 32]) (Tr D M)) (One [32])) (Tr D M)) (One [41])) (vs 8) := hv 8 (by decide)
    clear hv
    simp only [putsL, Nat.reduceAdd, Act.put, List.setIfInBounds_toArray, List.set_cons_zero, List.set_cons_succ]
    generalize vs 8 = vL at hv8 ⊢
    obtain ⟨s, rfl⟩ := inL_str hv8
    go_wp2
    go_ret
    refine ⟨⟨_, rfl, ?_⟩, hS.2⟩
    obtain ⟨_, hl, ⟨_, _, rfl, ⟨_, _, rfl, ⟨_, _, rfl, ⟨_, _, rfl, rfl, ⟨t0, rfl, hok_t0, hdp_t0, hln_t0⟩⟩, rfl⟩, ⟨t1, rfl, hok_t1, hdp_t1, hln_t1⟩⟩, rfl⟩⟩ := hv8
    rw [hl]
    exact tree_ok (.l [.w [112], t0, t1]) _ (by simp [Tx.pr, Tx.prs]) (by simp [Tx.fit, Tx.fits, Tx.isL, hok_t0, hok_t1] <;> decide +kernel) (by simp only [Tx.dep, Tx.deps]; omega) (by simp only [List.length_append, List.length_cons, List.length_nil]; omega)
set_option maxRecDepth 100000 in
set_option maxHeartbeats 4000000 in
theorem expr_c7 {B bb n D M : Nat} (hD : 2 ≤ D) (hM : 20 ≤ M) (hM2 : M ≤ 1000000) (ih : ExprAt B bb n D M) (hn : n ≤ 900) (w : World) (lv : Value) (names : List ByteArray) (d k x y z : Int) (hd0 : 0 < d) (hd : d ≤ n + 1) (hB : B ≤ w.heap.size) (h : Bard w B bb lv names) (hT : TabB w B) (hN : NamesOk names (999 - n))
    (hx_k : i64B k) (hx_x : i64B x) (hx_y : i64B y) (hx_z : i64B z)
    (HN0 : Calls Tryz.prog 31 #[.pointer (some ⟨bb, 0, none⟩)] ((w.alloc (.cells #[.pointer (some ⟨bb, 0, none⟩)] 59)).alloc (.cells #[.int .i64 d] 3)) fun e w' => e = .returned (.agg #[.int .i64 k, .int .i64 x, .int .i64 y, .int .i64 z]) ∧ Bard w' B bb lv names ∧ Kept bb none ((w.alloc (.cells #[.pointer (some ⟨bb, 0, none⟩)] 59)).alloc (.cells #[.int .i64 d] 3)) w') (he : pick k 20 = 7) :
    Calls Tryz.prog 17 #[.pointer (some ⟨bb, 0, none⟩), .int .i64 d] w fun e w' => (∃ v, e = .returned v ∧ InL (Tr (D + 5) (3 * M + 100)) v) ∧ Stp B bb names names w w' := by
  have hlt := h.lt
  generalize hW1 : (w.alloc (.cells #[.pointer (some ⟨bb, 0, none⟩)] 59)).alloc (.cells #[.int .i64 d] 3) = W1 at HN0
  have hbel1 : Below w.heap.size w W1 := by rw [← hW1]; exact ((Below.refl _ _).alloc (Nat.le_refl _) _).alloc (by simp) _
  have hB1 : Bard W1 B bb lv names := h.keep hB hbel1
  have HN := hid HN0
  clear HN0
  have hsz : W1.heap.size = w.heap.size + 2 := by rw [← hW1]; simp
  have b0 : W1.cell? ⟨w.heap.size, 0, none⟩ = some (.pointer (some ⟨bb, 0, none⟩)) := by rw [← hW1, World.cell?_alloc_past _ _ _ (by simp), World.cell?_alloc_at _ _ _ _ rfl]; rfl
  have b1 : W1.cell? ⟨w.heap.size + 1, 0, none⟩ = some (.int .i64 d) := by rw [← hW1, World.cell?_alloc_at _ _ _ _ (by simp)]; rfl
  have hT1 : TabB W1 B := hT.below (hbel1.mono hB)
  have hmf : ∀ (fn : Fn) (first cap : Array Value) (w : World), (Instr.makeFunc fn first cap).run Tryz.prog w = .ok (.func fn first cap) w := fun _ _ _ _ => rfl
  have HNO := hid hN
  have HIH := hid ih
  have HB := hid h
  clear hN ih
  go_enter Tryz.func17, Tryz.ntmps17
  go_wp2_with fail
  have hcall := HN.out
  go_fit hcall
  clear hcall
  rintro e w1 ⟨rfl, hb1, hK1⟩
  have hz1 := hK1.size
  have b0' := (hK1.cell (p := ⟨w.heap.size, 0, none⟩) (by simp only; omega) (by simp only; omega) (by simp)).trans b0
  have b1' := (hK1.cell (p := ⟨w.heap.size + 1, 0, none⟩) (by simp only; omega) (by simp only; omega) (by simp)).trans b1
  have hT2 : TabB w1 B := hT1.below (hK1.below h.own (fun g hg => by cases hg) (by omega))
  have hq0 : w.heap.size < w1.heap.size := by omega
  have hq1 : w.heap.size + 1 < w1.heap.size := by omega
  go_wp2_with fail
  have hO := h.own
  generalize hW2 : w1.alloc (.cells #[.int .i64 k, .int .i64 x, .int .i64 y, .int .i64 z] 46) = W2
  have hbel2 : Below w1.heap.size w1 W2 := by rw [← hW2]; exact (Below.refl _ _).alloc (Nat.le_refl _) _
  have hS12 : Stp B bb names names w W2 := by
    intro l hl
    obtain rfl := h.det hl
    exact ⟨lv, hb1.keep (by omega) hbel2, ((Kept.of_below hbel1 (Nat.le_refl _)).trans (row := lv.ownBlock) (row' := lv.ownBlock) ⟨hK1.os, hK1.tape, hK1.output, hK1.size, fun k hk h1 _ => hK1.block k hk h1 (by simp)⟩ (fun g hg => Or.inl hg)).trans (row' := none) (Kept.of_below hbel2 (Nat.le_refl _)) (by simp), fun g hg => Or.inl hg⟩
  have hB2 : Bard W2 B bb lv names := hb1.keep (by omega) hbel2
  have hrow := fun g hg => (h.row_ge (g := g) hg).2
  have apt : ∀ b, w.heap.size ≤ b → b < W2.heap.size → Apart B bb b W2 := fun b h1 h2 => ⟨h2, by omega, fun l _ k e => by
    obtain rfl := hB2.det k
    have := hrow b e
    omega⟩
  have hz2 : w1.heap.size < W2.heap.size := by rw [← hW2]; simp
  have D0 : Hid (Desk W2 B bb names w.heap.size w1.heap.size d k x y z) := hid
    ⟨⟨lv, hB2⟩, hT2.below (hbel2.mono (by omega)), (hbel2.cell (p := ⟨w.heap.size, 0, none⟩) hq0).trans b0', (hbel2.cell (p := ⟨w.heap.size + 1, 0, none⟩) hq1).trans b1',
      by rw [← hW2, World.cell?_alloc_at _ _ _ _ rfl]; rfl, by rw [← hW2, World.cell?_alloc_at _ _ _ _ rfl]; rfl, by rw [← hW2, World.cell?_alloc_at _ _ _ _ rfl]; rfl, by rw [← hW2, World.cell?_alloc_at _ _ _ _ rfl]; rfl,
      apt _ (by omega) (by omega), apt _ (by omega) (by omega), apt _ (by omega) (by omega), by omega⟩
  have S0 := hid hS12
  have d0 := D0.out.c0
  have d1 := D0.out.c1
  have HP := hid (he ▸ picked_any k 20 W2 hx_k.1 hx_k.2 (by omega) (by omega))
  clear hW1 hW2 HN b0 b1 b0' b1' hT hT1 hT2 hb1 hK1 hbel1 hbel2 hB1 hB2 apt hrow hS12 hq0 hq1 hz1 hsz hlt hz2 he hO
  generalize w.heap.size = p at *
  generalize w1.heap.size = q at *
  have hcall := HP.out
  go_fit hcall
  clear hcall HP
  rintro e w3 ⟨rfl, rfl⟩
  have hU := fun (names : List ByteArray) (w' : World) (hd' : Desk w' B bb names p q d k x y z) (hN' : NamesOk names (1000 - n)) => sub_any HIH.out hd' hd0 hd (by omega) hN'
  have hE := fun (names : List ByteArray) (w' : World) (hd' : Desk w' B bb names p q d k x y z) (hN' : NamesOk names (1000 - n)) => expr_at HIH.out hd' hd0 hd hN'
  have HNO2 : Hid (NamesOk names (1000 - n)) := hid ⟨HNO.out.pos, Nat.le_trans HNO.out.len (by omega), HNO.out.ok⟩
  have hN := HNO.out
  clear hE
  go_upto_region 19 with fail
  refine wp_region_invA (fun _ w' => Desk w' B bb names p q d k x y z ∧ Stp B bb names names w w') (fun _ => Stp B bb names names) (fun i v w' => match i with
    | 0 => v = .func (.func 33) #[] #[.pointer (some ⟨p, 0, none⟩), .pointer (some ⟨p + 1, 0, none⟩)]
    | 1 => InL (Tr D M) v
    | 2 => InL (Cat (One [40, 112, 32]) (Tr D M)) v
    | 3 => InL (Cat (Cat (One [40, 112, 32]) (Tr D M)) (One [32])) v
    | 4 => v = .func (.func 33) #[] #[.pointer (some ⟨p, 0, none⟩), .pointer (some ⟨p + 1, 0, none⟩)]
    | 5 => InL (Tr D M) v
    | 6 => InL (Cat (Cat (Cat (One [40, 112, 32]) (Tr D M)) (One [32])) (Tr D M)) v
    | 7 => InL (Cat (Cat (Cat (Cat (One [40, 112, 32]) (Tr D M)) (One [32])) (Tr D M)) (One [41])) v
    | 8 => InL (Cat (Cat (Cat (Cat (One [40, 112, 32]) (Tr D M)) (One [32])) (Tr D M)) (One [41])) v
    | _ => True) (by kernel_rfl) (by kernel_rfl) ?hst ?hmono ⟨?o0, ?o1, ?o2, ?o3, ?o4, ?o5, ?o6, ?o7, ?o8, trivial⟩ ?hend
  case hst => exact ⟨D0.out.step (Stp.of_below D0.out.size (drewN_below _ 0)), S0.out.trans (Stp.of_below D0.out.size (drewN_below _ 0))⟩
  case hmono =>
    intro i j v w1 w2 _ _ _ _ ⟨_, hS⟩ hv hR
    obtain ⟨l, hl⟩ := hS.1.bard
    rcases i with _ | _ | _ | _ | _ | _ | _ | _ | _ | i
    all_goals first | exact hv | (obtain ⟨b, h1, h2⟩ := hv; exact ⟨b, h1, h2.step hR hl⟩) | (obtain ⟨b, j, h1, h2, h3⟩ := hv; exact ⟨b, j, h1, h2, h3.step hR hl⟩)
  case o0 =>
    intro dn a w' _ hS hF K hK
    have h6 := hF.out 6 (by kernel_rfl) rfl
    rw [if_pos (by kernel_rfl)]
    go_simp
    exact hK _ _ _ rfl hS (Stp.refl _ _ _ _) rfl
  case o1 =>
    intro dn a w' _ hS hF K hK
    obtain ⟨v102, h102, rfl⟩ := hF.val 0 102 (by kernel_rfl) (by kernel_rfl)
    rw [if_pos (by kernel_rfl)]
    go_simp
    refine (hU names w' hS.1 HNO2.out).mono ?_
    rintro e w'' ⟨⟨v, rfl, hv⟩, hs⟩
    exact hK _ _ _ rfl ⟨hS.1.step hs, hS.2.trans hs⟩ hs hv
  case o2 =>
    intro dn a w' _ hS hF K hK
    obtain ⟨v103, h103, hl103⟩ := hF.val 1 103 (by kernel_rfl) (by kernel_rfl)
    obtain ⟨s103, rfl⟩ := inL_str hl103
    rw [if_pos (by kernel_rfl)]
    go_simp
    have hz0 := (Bnd.one [40, 112, 32]).size (InL.one [40, 112, 32])
    have hz1 := (Bnd.tr D M).size (hl103)
    try simp only [List.length_cons, List.length_nil] at hz0 hz1
    rw [if_neg (by omega)]
    exact hK _ _ _ rfl hS (Stp.refl _ _ _ _) (InL.cat (InL.one [40, 112, 32]) (hl103))
  case o3 =>
    intro dn a w' _ hS hF K hK
    obtain ⟨v104, h104, hl104⟩ := hF.val 2 104 (by kernel_rfl) (by kernel_rfl)
    obtain ⟨s104, rfl⟩ := inL_str hl104
    rw [if_pos (by kernel_rfl)]
    go_simp
    have hz0 := ((Bnd.one [40, 112, 32]).cat (Bnd.tr D M)).size (hl104)
    have hz1 := (Bnd.one [32]).size (InL.one [32])
    try simp only [List.length_cons, List.length_nil] at hz0 hz1
    rw [if_neg (by omega)]
    exact hK _ _ _ rfl hS (Stp.refl _ _ _ _) (InL.cat (hl104) (InL.one [32]))
  case o4 =>
    intro dn a w' _ hS hF K hK
    have h6 := hF.out 6 (by kernel_rfl) rfl
    rw [if_pos (by kernel_rfl)]
    go_simp
    exact hK _ _ _ rfl hS (Stp.refl _ _ _ _) rfl
  case o5 =>
    intro dn a w' _ hS hF K hK
    obtain ⟨v106, h106, rfl⟩ := hF.val 4 106 (by kernel_rfl) (by kernel_rfl)
    rw [if_pos (by kernel_rfl)]
    go_simp
    refine (hU names w' hS.1 HNO2.out).mono ?_
    rintro e w'' ⟨⟨v, rfl, hv⟩, hs⟩
    exact hK _ _ _ rfl ⟨hS.1.step hs, hS.2.trans hs⟩ hs hv
  case o6 =>
    intro dn a w' _ hS hF K hK
    obtain ⟨v105, h105, hl105⟩ := hF.val 3 105 (by kernel_rfl) (by kernel_rfl)
    obtain ⟨s105, rfl⟩ := inL_str hl105
    obtain ⟨v107, h107, hl107⟩ := hF.val 5 107 (by kernel_rfl) (by kernel_rfl)
    obtain ⟨s107, rfl⟩ := inL_str hl107
    rw [if_pos (by kernel_rfl)]
    go_simp
    have hz0 := (((Bnd.one [40, 112, 32]).cat (Bnd.tr D M)).cat (Bnd.one [32])).size (hl105)
    have hz1 := (Bnd.tr D M).size (hl107)
    try simp only [List.length_cons, List.length_nil] at hz0 hz1
    rw [if_neg (by omega)]
    exact hK _ _ _ rfl hS (Stp.refl _ _ _ _) (InL.cat (hl105) (hl107))
  case o7 =>
    intro dn a w' _ hS hF K hK
    obtain ⟨v108, h108, hl108⟩ := hF.val 6 108 (by kernel_rfl) (by kernel_rfl)
    obtain ⟨s108, rfl⟩ := inL_str hl108
    rw [if_pos (by kernel_rfl)]
    go_simp
    have hz0 := ((((Bnd.one [40, 112, 32]).cat (Bnd.tr D M)).cat (Bnd.one [32])).cat (Bnd.tr D M)).size (hl108)
    have hz1 := (Bnd.one [41]).size (InL.one [41])
    try simp only [List.length_cons, List.length_nil] at hz0 hz1
    rw [if_neg (by omega)]
    exact hK _ _ _ rfl hS (Stp.refl _ _ _ _) (InL.cat (hl108) (InL.one [41]))
  case o8 =>
    intro dn a w' _ hS hF K hK
    obtain ⟨v109, h109, hl109⟩ := hF.val 7 109 (by kernel_rfl) (by kernel_rfl)
    obtain ⟨s109, rfl⟩ := inL_str hl109
    rw [if_pos (by kernel_rfl)]
    go_simp
    exact hK _ _ _ rfl hS (Stp.refl _ _ _ _) hl109
  case hend =>
    intro dn w' vs hS hv
    have hv8 : InL (Cat (Cat (Cat (Cat (One [40, 112, 32]) (Tr D M)) (One [32])) (Tr D M)) (One [41])) (vs 8) := hv 8 (by decide)
    clear hv
    simp only [putsL, Nat.reduceAdd, Act.put, List.setIfInBounds_toArray, List.set_cons_zero, List.set_cons_succ]
    generalize vs 8 = vL at hv8 ⊢
    obtain ⟨s, rfl⟩ := inL_str hv8
    go_wp2
    go_ret
    refine ⟨⟨_, rfl, ?_⟩, hS.2⟩
    obtain ⟨_, hl, ⟨_, _, rfl, ⟨_, _, rfl, ⟨_, _, rfl, ⟨_, _, rfl, rfl, ⟨t0, rfl, hok_t0, hdp_t0, hln_t0⟩⟩, rfl⟩, ⟨t1, rfl, hok_t1, hdp_t1, hln_t1⟩⟩, rfl⟩⟩ := hv8
    rw [hl]
    exact tree_ok (.l [.w [112], t0, t1]) _ (by simp [Tx.pr, Tx.prs]) (by simp [Tx.fit, Tx.fits, Tx.isL, hok_t0, hok_t1] <;> decide +kernel) (by simp only [Tx.dep, Tx.deps]; omega) (by simp only [List.length_append, List.length_cons, List.length_nil]; omega)
end Go.Proofs.YtdfmimgjdchafaaGreatDoor
