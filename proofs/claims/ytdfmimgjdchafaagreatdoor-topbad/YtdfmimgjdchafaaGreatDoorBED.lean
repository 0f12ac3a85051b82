/- The bard's expression, cases 15, 16, 17, 19. -/
import Derived.Test.YtdfmimgjdchafaaGreatDoorBSub
import Derived.Deep.Cut
namespace Go.Proofs.YtdfmimgjdchafaaGreatDoor
set_option maxRecDepth 100000
open Go.RowKit
set_option linter.unusedVariables false
set_option linter.unusedSimpArgs false
set_option maxRecDepth 100000 in
set_option maxHeartbeats 4000000 in
theorem expr_c15 {B bb n D M : Nat} (hD : 2 ≤ D) (hM : 20 ≤ M) (hM2 : M ≤ 1000000) (ih : ExprAt B bb n D M) (hn : n ≤ 900) (w : World) (lv : Value) (names : List ByteArray) (d k x y z : Int) (hd0 : 0 < d) (hd : d ≤ n + 1) (hB : B ≤ w.heap.size) (h : Bard w B bb lv names) (hT : TabB w B) (hN : NamesOk names (999 - n))
    (hx_k : i64B k) (hx_x : i64B x) (hx_y : i64B y) (hx_z : i64B z)
    (HN0 : Calls Tryz.prog 31 #[.pointer (some ⟨bb, 0, none⟩)] ((w.alloc (.cells #[.pointer (some ⟨bb, 0, none⟩)] 59)).alloc (.cells #[.int .i64 d] 3)) fun e w' => e = .returned (.agg #[.int .i64 k, .int .i64 x, .int .i64 y, .int .i64 z]) ∧ Bard w' B bb lv names ∧ Kept bb none ((w.alloc (.cells #[.pointer (some ⟨bb, 0, none⟩)] 59)).alloc (.cells #[.int .i64 d] 3)) w') (he : pick k 20 = 15) :
    Calls Tryz.prog 17 #[.pointer (some ⟨bb, 0, none⟩), .int .i64 d] w fun e w' => (∃ v, e = .returned v ∧ InL (Tr (D + 5) (3 * M + 100)) v) ∧ Stp B bb names names w w' := by
  have hlt := h.lt
  generalize hW1 : (w.alloc (.cells #[.pointer (some ⟨bb, 0, none⟩)] 59)).alloc (.cells #[.int .i64 d] 3) = W1 at HN0
  have hbel1 : Below w.heap.size w W1 := by rw [← hW1]; exact ((Below.refl _ _).alloc (Nat.le_refl _) _).alloc (by simp) _
  have hB1 : Bard W1 B bb lv names := h.keep hB hbel1
  have HN := hid HN0
  clear HN0
  have hsz : W1.heap.size = w.heap.size + 2 := by rw [← hW1]; simp
  have b0 : W1.cell? ⟨w.heap.size, 0, none⟩ = some (.pointer (some ⟨bb, 0, none⟩)) := by rw [← hW1, World.cell?_alloc_past _ _ _ (by simp), World.cell?_alloc_at _ _ _ _ rfl]; rfl
  have b1 : W1.cell? ⟨w.heap.size + 1, 0, none⟩ = some (.int .i64 d) := by rw [← hW1, World.cell?_alloc_at _ _ _ _ (by simp)]; rfl
  have hT1 : TabB W1 B := hT.below (hbel1.mono hB)
  have hmf : ∀ (fn : Fn) (first cap : Array Value) (w : World), (Instr.makeFunc fn first cap).run Tryz.prog w = .ok (.func fn first cap) w := fun _ _ _ _ => rfl
  have HNO := hid hN
  have HIH := hid ih
  have HB := hid h
  clear hN ih
  go_enter Tryz.func17, Tryz.ntmps17
  go_wp2_with fail
  have hcall := HN.out
  go_fit hcall
  clear hcall
  rintro e w1 ⟨rfl, hb1, hK1⟩
  have hz1 := hK1.size
  have b0' := (hK1.cell (p := ⟨w.heap.size, 0, none⟩) (by simp only; omega) (by simp only; omega) (by simp)).trans b0
  have b1' := (hK1.cell (p := ⟨w.heap.size + 1, 0, none⟩) (by simp only; omega) (by simp only; omega) (by simp)).trans b1
  have hT2 : TabB w1 B := hT1.below (hK1.below h.own (fun g hg => by cases hg) (by omega))
  have hq0 : w.heap.size < w1.heap.size := by omega
  have hq1 : w.heap.size + 1 < w1.heap.size := by omega
  go_wp2_with fail
  have hO := h.own
  generalize hW2 : w1.alloc (.cells #[.int .i64 k, .int .i64 x, .int .i64 y, .int .i64 z] 46) = W2
  have hbel2 : Below w1.heap.size w1 W2 := by rw [← hW2]; exact (Below.refl _ _).alloc (Nat.le_refl _) _
  have hS12 : Stp B bb names names w W2 := by
    intro l hl
    obtain rfl := h.det hl
    exact ⟨lv, hb1.keep (by omega) hbel2, ((Kept.of_below hbel1 (Nat.le_refl _)).trans (row := lv.ownBlock) (row' := lv.ownBlock) ⟨hK1.os, hK1.tape, hK1.output, hK1.size, fun k hk h1 _ => hK1.block k hk h1 (by simp)⟩ (fun g hg => Or.inl hg)).trans (row' := none) (Kept.of_below hbel2 (Nat.le_refl _)) (by simp), fun g hg => Or.inl hg⟩
  have hB2 : Bard W2 B bb lv names := hb1.keep (by omega) hbel2
  have hrow := fun g hg => (h.row_ge (g := g) hg).2
  have apt : ∀ b, w.heap.size ≤ b → b < W2.heap.size → Apart B bb b W2 := fun b h1 h2 => ⟨h2, by omega, fun l _ k e => by
    obtain rfl := hB2.det k
    have := hrow b e
    omega⟩
  have hz2 : w1.heap.size < W2.heap.size := by rw [← hW2]; simp
  have D0 : Hid (Desk W2 B bb names w.heap.size w1.heap.size d k x y z) := hid
    ⟨⟨lv, hB2⟩, hT2.below (hbel2.mono (by omega)), (hbel2.cell (p := ⟨w.heap.size, 0, none⟩) hq0).trans b0', (hbel2.cell (p := ⟨w.heap.size + 1, 0, none⟩) hq1).trans b1',
      by rw [← hW2, World.cell?_alloc_at _ _ _ _ rfl]; rfl, by rw [← hW2, World.cell?_alloc_at _ _ _ _ rfl]; rfl, by rw [← hW2, World.cell?_alloc_at _ _ _ _ rfl]; rfl, by rw [← hW2, World.cell?_alloc_at _ _ _ _ rfl]; rfl,
      apt _ (by omega) (by omega), apt _ (by omega) (by omega), apt _ (by omega) (by omega), by omega⟩
  have S0 := hid hS12
  have d0 := D0.out.c0
  have d1 := D0.out.c1
  have HP := hid (he ▸ picked_any k 20 W2 hx_k.1 hx_k.2 (by omega) (by omega))
  clear hW1 hW2 HN b0 b1 b0' b1' hT hT1 hT2 hb1 hK1 hbel1 hbel2 hB1 hB2 apt hrow hS12 hq0 hq1 hz1 hsz hlt hz2 he hO
  generalize w.heap.size = p at *
  generalize w1.heap.size = q at *
  have hcall := HP.out
  go_fit hcall
  clear hcall HP
  rintro e w3 ⟨rfl, rfl⟩
  have hU := fun (names : List ByteArray) (w' : World) (hd' : Desk w' B bb names p q d k x y z) (hN' : NamesOk names (1000 - n)) => sub_any HIH.out hd' hd0 hd (by omega) hN'
  have hE := fun (names : List ByteArray) (w' : World) (hd' : Desk w' B bb names p q d k x y z) (hN' : NamesOk names (1000 - n)) => expr_at HIH.out hd' hd0 hd hN'
  have HNO2 : Hid (NamesOk names (1000 - n)) := hid ⟨HNO.out.pos, Nat.le_trans HNO.out.len (by omega), HNO.out.ok⟩
  have hN := HNO.out
  clear hE
  go_upto_region 43 with fail
  refine wp_region_invA (fun _ w' => Desk w' B bb names p q d k x y z ∧ Stp B bb names names w w') (fun _ => Stp B bb names names) (fun i v w' => match i with
    | 0 => v = .func (.func 33) #[] #[.pointer (some ⟨p, 0, none⟩), .pointer (some ⟨p + 1, 0, none⟩)]
    | 1 => InL (Tr D M) v
    | 2 => InL (Cat (One [40, 98, 101, 103, 105, 110, 32]) (Tr D M)) v
    | 3 => InL (Cat (Cat (One [40, 98, 101, 103, 105, 110, 32]) (Tr D M)) (One [32])) v
    | 4 => v = .func (.func 33) #[] #[.pointer (some ⟨p, 0, none⟩), .pointer (some ⟨p + 1, 0, none⟩)]
    | 5 => InL (Tr D M) v
    | 6 => InL (Cat (Cat (Cat (One [40, 98, 101, 103, 105, 110, 32]) (Tr D M)) (One [32])) (Tr D M)) v
    | 7 => InL (Cat (Cat (Cat (Cat (One [40, 98, 101, 103, 105, 110, 32]) (Tr D M)) (One [32])) (Tr D M)) (One [41])) v
    | 8 => InL (Cat (Cat (Cat (Cat (One [40, 98, 101, 103, 105, 110, 32]) (Tr D M)) (One [32])) (Tr D M)) (One [41])) v
    | _ => True) (by kernel_rfl) (by kernel_rfl) ?hst ?hmono ⟨?o0, ?o1, ?o2, ?o3, ?o4, ?o5, ?o6, ?o7, ?o8, trivial⟩ ?hend
  case hst => exact ⟨D0.out.step (Stp.of_below D0.out.size (drewN_below _ 0)), S0.out.trans (Stp.of_below D0.out.size (drewN_below _ 0))⟩
  case hmono =>
    intro i j v w1 w2 _ _ _ _ ⟨_, hS⟩ hv hR
    obtain ⟨l, hl⟩ := hS.1.bard
    rcases i with _ | _ | _ | _ | _ | _ | _ | _ | _ | i
    all_goals first | exact hv | (obtain ⟨b, h1, h2⟩ := hv; exact ⟨b, h1, h2.step hR hl⟩) | (obtain ⟨b, j, h1, h2, h3⟩ := hv; exact ⟨b, j, h1, h2, h3.step hR hl⟩)
  case o0 =>
    intro dn a w' _ hS hF K hK
    have h6 := hF.out 6 (by kernel_rfl) rfl
    rw [if_pos (by kernel_rfl)]
    go_simp
    exact hK _ _ _ rfl hS (Stp.refl _ _ _ _) rfl
  case o1 =>
    intro dn a w' _ hS hF K hK
    obtain ⟨v275, h275, rfl⟩ := hF.val 0 275 (by kernel_rfl) (by kernel_rfl)
    rw [if_pos (by kernel_rfl)]
    go_simp
    refine (hU names w' hS.1 HNO2.out).mono ?_
    rintro e w'' ⟨⟨v, rfl, hv⟩, hs⟩
    exact hK _ _ _ rfl ⟨hS.1.step hs, hS.2.trans hs⟩ hs hv
  case o2 =>
    intro dn a w' _ hS hF K hK
    obtain ⟨v276, h276, hl276⟩ := hF.val 1 276 (by kernel_rfl) (by kernel_rfl)
    obtain ⟨s276, rfl⟩ := inL_str hl276
    rw [if_pos (by kernel_rfl)]
    go_simp
    have hz0 := (Bnd.one [40, 98, 101, 103, 105, 110, 32]).size (InL.one [40, 98, 101, 103, 105, 110, 32])
    have hz1 := (Bnd.tr D M).size (hl276)
    try simp only [List.length_cons, List.length_nil] at hz0 hz1
    rw [if_neg (by omega)]
    exact hK _ _ _ rfl hS (Stp.refl _ _ _ _) (InL.cat (InL.one [40, 98, 101, 103, 105, 110, 32]) (hl276))
  case o3 =>
    intro dn a w' _ hS hF K hK
    obtain ⟨v277, h277, hl277⟩ := hF.val 2 277 (by kernel_rfl) (by kernel_rfl)
    obtain ⟨s277, rfl⟩ := inL_str hl277
    rw [if_pos (by kernel_rfl)]
    go_simp
    have hz0 := ((Bnd.one [40, 98, 101, 103, 105, 110, 32]).cat (Bnd.tr D M)).size (hl277)
    have hz1 := (Bnd.one [32]).size (InL.one [32])
    try simp only [List.length_cons, List.length_nil] at hz0 hz1
    rw [if_neg (by omega)]
    exact hK _ _ _ rfl hS (Stp.refl _ _ _ _) (InL.cat (hl277) (InL.one [32]))
  case o4 =>
    intro dn a w' _ hS hF K hK
    have h6 := hF.out 6 (by kernel_rfl) rfl
    rw [if_pos (by kernel_rfl)]
    go_simp
    exact hK _ _ _ rfl hS (Stp.refl _ _ _ _) rfl
  case o5 =>
    intro dn a w' _ hS hF K hK
    obtain ⟨v279, h279, rfl⟩ := hF.val 4 279 (by kernel_rfl) (by kernel_rfl)
    rw [if_pos (by kernel_rfl)]
    go_simp
    refine (hU names w' hS.1 HNO2.out).mono ?_
    rintro e w'' ⟨⟨v, rfl, hv⟩, hs⟩
    exact hK _ _ _ rfl ⟨hS.1.step hs, hS.2.trans hs⟩ hs hv
  case o6 =>
    intro dn a w' _ hS hF K hK
    obtain ⟨v278, h278, hl278⟩ := hF.val 3 278 (by kernel_rfl) (by kernel_rfl)
    obtain ⟨s278, rfl⟩ := inL_str hl278
    obtain ⟨v280, h280, hl280⟩ := hF.val 5 280 (by kernel_rfl) (by kernel_rfl)
    obtain ⟨s280, rfl⟩ := inL_str hl280
    rw [if_pos (by kernel_rfl)]
    go_simp
    have hz0 := (((Bnd.one [40, 98, 101, 103, 105, 110, 32]).cat (Bnd.tr D M)).cat (Bnd.one [32])).size (hl278)
    have hz1 := (Bnd.tr D M).size (hl280)
    try simp only [List.length_cons, List.length_nil] at hz0 hz1
    rw [if_neg (by omega)]
    exact hK _ _ _ rfl hS (Stp.refl _ _ _ _) (InL.cat (hl278) (hl280))
  case o7 =>
    intro dn a w' _ hS hF K hK
    obtain ⟨v281, h281, hl281⟩ := hF.val 6 281 (by kernel_rfl) (by kernel_rfl)
    obtain ⟨s281, rfl⟩ := inL_str hl281
    rw [if_pos (by kernel_rfl)]
    go_simp
    have hz0 := ((((Bnd.one [40, 98, 101, 103, 105, 110, 32]).cat (Bnd.tr D M)).cat (Bnd.one [32])).cat (Bnd.tr D M)).size (hl281)
    have hz1 := (Bnd.one [41]).size (InL.one [41])
    try simp only [List.length_cons, List.length_nil] at hz0 hz1
    rw [if_neg (by omega)]
    exact hK _ _ _ rfl hS (Stp.refl _ _ _ _) (InL.cat (hl281) (InL.one [41]))
  case o8 =>
    intro dn a w' _ hS hF K hK
    obtain ⟨v282, h282, hl282⟩ := hF.val 7 282 (by kernel_rfl) (by kernel_rfl)
    obtain ⟨s282, rfl⟩ := inL_str hl282
    rw [if_pos (by kernel_rfl)]
    go_simp
    exact hK _ _ _ rfl hS (Stp.refl _ _ _ _) hl282
  case hend =>
    intro dn w' vs hS hv
    have hv8 : InL (Cat (Cat (Cat (Cat (One [40, 98, 101, 103, 105, 110, 32]) (Tr D M)) (One [32])) (Tr D M)) (One [41])) (vs 8) := hv 8 (by decide)
    clear hv
    simp only [putsL, Nat.reduceAdd, Act.put, List.setIfInBounds_toArray, List.set_cons_zero, List.set_cons_succ]
    generalize vs 8 = vL at hv8 ⊢
    obtain ⟨s, rfl⟩ := inL_str hv8
    go_wp2
    go_ret
    refine ⟨⟨_, rfl, ?_⟩, hS.2⟩
    obtain ⟨_, hl, ⟨_, _, rfl, ⟨_, _, rfl, ⟨_, _, rfl, ⟨_, _, rfl, rfl, ⟨t0, rfl, hok_t0, hdp_t0, hln_t0⟩⟩, rfl⟩, ⟨t1, rfl, hok_t1, hdp_t1, hln_t1⟩⟩, rfl⟩⟩ := hv8
    rw [hl]
    exact tree_ok (.l [.w [98, 101, 103, 105, 110], t0, t1]) _ (by simp [Tx.pr, Tx.prs]) (by simp [Tx.fit, Tx.fits, Tx.isL, hok_t0, hok_t1] <;> decide +kernel) (by simp only [Tx.dep, Tx.deps]; omega) (by simp only [List.length_append, List.length_cons, List.length_nil]; omega)
set_option maxRecDepth 100000 in
set_option maxHeartbeats 4000000 in
theorem expr_c16 {B bb n D M : Nat} (hD : 2 ≤ D) (hM : 20 ≤ M) (hM2 : M ≤ 1000000) (ih : ExprAt B bb n D M) (hn : n ≤ 900) (w : World) (lv : Value) (names : List ByteArray) (d k x y z : Int) (hd0 : 0 < d) (hd : d ≤ n + 1) (hB : B ≤ w.heap.size) (h : Bard w B bb lv names) (hT : TabB w B) (hN : NamesOk names (999 - n))
    (hx_k : i64B k) (hx_x : i64B x) (hx_y : i64B y) (hx_z : i64B z)
    (HN0 : Calls Tryz.prog 31 #[.pointer (some ⟨bb, 0, none⟩)] ((w.alloc (.cells #[.pointer (some ⟨bb, 0, none⟩)] 59)).alloc (.cells #[.int .i64 d] 3)) fun e w' => e = .returned (.agg #[.int .i64 k, .int .i64 x, .int .i64 y, .int .i64 z]) ∧ Bard w' B bb lv names ∧ Kept bb none ((w.alloc (.cells #[.pointer (some ⟨bb, 0, none⟩)] 59)).alloc (.cells #[.int .i64 d] 3)) w') (he : pick k 20 = 16) :
    Calls Tryz.prog 17 #[.pointer (some ⟨bb, 0, none⟩), .int .i64 d] w fun e w' => (∃ v, e = .returned v ∧ InL (Tr (D + 5) (3 * M + 100)) v) ∧ Stp B bb names names w w' := by
  have hlt := h.lt
  generalize hW1 : (w.alloc (.cells #[.pointer (some ⟨bb, 0, none⟩)] 59)).alloc (.cells #[.int .i64 d] 3) = W1 at HN0
  have hbel1 : Below w.heap.size w W1 := by rw [← hW1]; exact ((Below.refl _ _).alloc (Nat.le_refl _) _).alloc (by simp) _
  have hB1 : Bard W1 B bb lv names := h.keep hB hbel1
  have HN := hid HN0
  clear HN0
  have hsz : W1.heap.size = w.heap.size + 2 := by rw [← hW1]; simp
  have b0 : W1.cell? ⟨w.heap.size, 0, none⟩ = some (.pointer (some ⟨bb, 0, none⟩)) := by rw [← hW1, World.cell?_alloc_past _ _ _ (by simp), World.cell?_alloc_at _ _ _ _ rfl]; rfl
  have b1 : W1.cell? ⟨w.heap.size + 1, 0, none⟩ = some (.int .i64 d) := by rw [← hW1, World.cell?_alloc_at _ _ _ _ (by simp)]; rfl
  have hT1 : TabB W1 B := hT.below (hbel1.mono hB)
  have hmf : ∀ (fn : Fn) (first cap : Array Value) (w : World), (Instr.makeFunc fn first cap).run Tryz.prog w = .ok (.func fn first cap) w := fun _ _ _ _ => rfl
  have HNO := hid hN
  have HIH := hid ih
  have HB := hid h
  clear hN ih
  go_enter Tryz.func17, Tryz.ntmps17
  go_wp2_with fail
  have hcall := HN.out
  go_fit hcall
  clear hcall
  rintro e w1 ⟨rfl, hb1, hK1⟩
  have hz1 := hK1.size
  have b0' := (hK1.cell (p := ⟨w.heap.size, 0, none⟩) (by simp only; omega) (by simp only; omega) (by simp)).trans b0
  have b1' := (hK1.cell (p := ⟨w.heap.size + 1, 0, none⟩) (by simp only; omega) (by simp only; omega) (by simp)).trans b1
  have hT2 : TabB w1 B := hT1.below (hK1.below h.own (fun g hg => by cases hg) (by omega))
  have hq0 : w.heap.size < w1.heap.size := by omega
  have hq1 : w.heap.size + 1 < w1.heap.size := by omega
  go_wp2_with fail
  have hO := h.own
  generalize hW2 : w1.alloc (.cells #[.int .i64 k, .int .i64 x, .int .i64 y, .int .i64 z] 46) = W2
  have hbel2 : Below w1.heap.size w1 W2 := by rw [← hW2]; exact (Below.refl _ _).alloc (Nat.le_refl _) _
  have hS12 : Stp B bb names names w W2 := by
    intro l hl
    obtain rfl := h.det hl
    exact ⟨lv, hb1.keep (by omega) hbel2, ((Kept.of_below hbel1 (Nat.le_refl _)).trans (row := lv.ownBlock) (row' := lv.ownBlock) ⟨hK1.os, hK1.tape, hK1.output, hK1.size, fun k hk h1 _ => hK1.block k hk h1 (by simp)⟩ (fun g hg => Or.inl hg)).trans (row' := none) (Kept.of_below hbel2 (Nat.le_refl _)) (by simp), fun g hg => Or.inl hg⟩
  have hB2 : Bard W2 B bb lv names := hb1.keep (by omega) hbel2
  have hrow := fun g hg => (h.row_ge (g := g) hg).2
  have apt : ∀ b, w.heap.size ≤ b → b < W2.heap.size → Apart B bb b W2 := fun b h1 h2 => ⟨h2, by omega, fun l _ k e => by
    obtain rfl := hB2.det k
    have := hrow b e
    omega⟩
  have hz2 : w1.heap.size < W2.heap.size := by rw [← hW2]; simp
  have D0 : Hid (Desk W2 B bb names w.heap.size w1.heap.size d k x y z) := hid
    ⟨⟨lv, hB2⟩, hT2.below (hbel2.mono (by omega)), (hbel2.cell (p := ⟨w.heap.size, 0, none⟩) hq0).trans b0', (hbel2.cell (p := ⟨w.heap.size + 1, 0, none⟩) hq1).trans b1',
      by rw [← hW2, World.cell?_alloc_at _ _ _ _ rfl]; rfl, by rw [← hW2, World.cell?_alloc_at _ _ _ _ rfl]; rfl, by rw [← hW2, World.cell?_alloc_at _ _ _ _ rfl]; rfl, by rw [← hW2, World.cell?_alloc_at _ _ _ _ rfl]; rfl,
      apt _ (by omega) (by omega), apt _ (by omega) (by omega), apt _ (by omega) (by omega), by omega⟩
  have S0 := hid hS12
  have d0 := D0.out.c0
  have d1 := D0.out.c1
  have HP := hid (he ▸ picked_any k 20 W2 hx_k.1 hx_k.2 (by omega) (by omega))
  clear hW1 hW2 HN b0 b1 b0' b1' hT hT1 hT2 hb1 hK1 hbel1 hbel2 hB1 hB2 apt hrow hS12 hq0 hq1 hz1 hsz hlt hz2 he hO
  generalize w.heap.size = p at *
  generalize w1.heap.size = q at *
  have hcall := HP.out
  go_fit hcall
  clear hcall HP
  rintro e w3 ⟨rfl, rfl⟩
  have hU := fun (names : List ByteArray) (w' : World) (hd' : Desk w' B bb names p q d k x y z) (hN' : NamesOk names (1000 - n)) => sub_any HIH.out hd' hd0 hd (by omega) hN'
  have hE := fun (names : List ByteArray) (w' : World) (hd' : Desk w' B bb names p q d k x y z) (hN' : NamesOk names (1000 - n)) => expr_at HIH.out hd' hd0 hd hN'
  have HNO2 : Hid (NamesOk names (1000 - n)) := hid ⟨HNO.out.pos, Nat.le_trans HNO.out.len (by omega), HNO.out.ok⟩
  have hN := HNO.out
  clear hE
  obtain ⟨l0, hl0⟩ := D0.out.bard
  obtain ⟨g0, cap0, rfl, hc1, hc2, _⟩ := names_cell hl0.row HNO.out.pos
  obtain ⟨_, ⟨ra0, rn0, rc0, dd0, hb0, _⟩, _⟩ := hl0
  obtain ⟨_, c10, _, _⟩ := cell3 hb0
  have hbx := D0.out.box
  have hpos : (0 : Int) < names.length := by have := HNO.out.pos; omega
  clear hb0
  go_upto_region 46 with fail
  refine wp_region_invA (fun _ w' => Desk w' B bb names p q d k x y z ∧ Stp B bb names names w w') (fun _ => Stp B bb names names) (fun i v w' => match i with
    | 0 => v = .pointer (some ⟨bb, 0, none⟩)
    | 1 => v = .pointer (some ⟨q, 1, none⟩)
    | 2 => v = .int .i64 x
    | 3 => InL (Tr D M) v
    | 4 => InL (Cat (One [40, 98, 101, 103, 105, 110, 32, 40, 115, 101, 116, 33, 32]) (Tr D M)) v
    | 5 => InL (Cat (Cat (One [40, 98, 101, 103, 105, 110, 32, 40, 115, 101, 116, 33, 32]) (Tr D M)) (One [32])) v
    | 6 => v = .func (.func 33) #[] #[.pointer (some ⟨p, 0, none⟩), .pointer (some ⟨p + 1, 0, none⟩)]
    | 7 => InL (Tr D M) v
    | 8 => InL (Cat (Cat (Cat (One [40, 98, 101, 103, 105, 110, 32, 40, 115, 101, 116, 33, 32]) (Tr D M)) (One [32])) (Tr D M)) v
    | 9 => InL (Cat (Cat (Cat (Cat (One [40, 98, 101, 103, 105, 110, 32, 40, 115, 101, 116, 33, 32]) (Tr D M)) (One [32])) (Tr D M)) (One [41, 32])) v
    | 10 => v = .pointer (some ⟨bb, 0, none⟩)
    | 11 => v = .pointer (some ⟨q, 2, none⟩)
    | 12 => v = .int .i64 y
    | 13 => InL (Tr D M) v
    | 14 => InL (Cat (Cat (Cat (Cat (Cat (One [40, 98, 101, 103, 105, 110, 32, 40, 115, 101, 116, 33, 32]) (Tr D M)) (One [32])) (Tr D M)) (One [41, 32])) (Tr D M)) v
    | 15 => InL (Cat (Cat (Cat (Cat (Cat (Cat (One [40, 98, 101, 103, 105, 110, 32, 40, 115, 101, 116, 33, 32]) (Tr D M)) (One [32])) (Tr D M)) (One [41, 32])) (Tr D M)) (One [41])) v
    | 16 => InL (Cat (Cat (Cat (Cat (Cat (Cat (One [40, 98, 101, 103, 105, 110, 32, 40, 115, 101, 116, 33, 32]) (Tr D M)) (One [32])) (Tr D M)) (One [41, 32])) (Tr D M)) (One [41])) v
    | _ => True) (by kernel_rfl) (by kernel_rfl) ?hst ?hmono ⟨?o0, ?o1, ?o2, ?o3, ?o4, ?o5, ?o6, ?o7, ?o8, ?o9, ?o10, ?o11, ?o12, ?o13, ?o14, ?o15, ?o16, trivial⟩ ?hend
  case hst => exact ⟨D0.out.step (Stp.of_below D0.out.size (drewN_below _ 1)), S0.out.trans (Stp.of_below D0.out.size (drewN_below _ 1))⟩
  case hmono =>
    intro i j v w1 w2 _ _ _ _ ⟨_, hS⟩ hv hR
    obtain ⟨l, hl⟩ := hS.1.bard
    rcases i with _ | _ | _ | _ | _ | _ | _ | _ | _ | _ | _ | _ | _ | _ | _ | _ | _ | i
    all_goals first | exact hv | (obtain ⟨b, h1, h2⟩ := hv; exact ⟨b, h1, h2.step hR hl⟩) | (obtain ⟨b, j, h1, h2, h3⟩ := hv; exact ⟨b, j, h1, h2, h3.step hR hl⟩)
  case o0 =>
    intro dn a w' _ hS hF K hK
    have h2 := hF.out 2 (by kernel_rfl) rfl
    have hc := hS.1.box
    rw [if_pos (by kernel_rfl)]
    go_simp
    exact hK _ _ _ rfl hS (Stp.refl _ _ _ _) rfl
  case o1 =>
    intro dn a w' _ hS hF K hK
    have h5 := hF.out 5 (by kernel_rfl) rfl
    rw [if_pos (by kernel_rfl)]
    go_simp
    exact hK _ _ _ rfl hS (Stp.refl _ _ _ _) rfl
  case o2 =>
    intro dn a w' _ hS hF K hK
    obtain ⟨v292, h292, rfl⟩ := hF.val 1 292 (by kernel_rfl) (by kernel_rfl)
    have hc := hS.1.c1
    rw [if_pos (by kernel_rfl)]
    go_simp
    exact hK _ _ _ rfl hS (Stp.refl _ _ _ _) rfl
  case o3 =>
    intro dn a w' _ hS hF K hK
    obtain ⟨v291, h291, rfl⟩ := hF.val 0 291 (by kernel_rfl) (by kernel_rfl)
    obtain ⟨v293, h293, rfl⟩ := hF.val 2 293 (by kernel_rfl) (by kernel_rfl)
    rw [if_pos (by kernel_rfl)]
    obtain ⟨l, hl⟩ := hS.1.bard
    go_simp
    refine (local_any w' B bb l names x hl hN.pos (Nat.le_trans hN.len (by omega)) hx_x).mono ?_
    rintro e w'' ⟨⟨nm, hnm, rfl⟩, m, rfl⟩
    have hs := Stp.of_below (bb := bb) (names := names) hS.1.size (drewN_below w' m)
    exact hK _ _ _ rfl ⟨hS.1.step hs, hS.2.trans hs⟩ hs ((hN.ok nm hnm).tr hD hM)
  case o4 =>
    intro dn a w' _ hS hF K hK
    obtain ⟨v294, h294, hl294⟩ := hF.val 3 294 (by kernel_rfl) (by kernel_rfl)
    obtain ⟨s294, rfl⟩ := inL_str hl294
    rw [if_pos (by kernel_rfl)]
    go_simp
    have hz0 := (Bnd.one [40, 98, 101, 103, 105, 110, 32, 40, 115, 101, 116, 33, 32]).size (InL.one [40, 98, 101, 103, 105, 110, 32, 40, 115, 101, 116, 33, 32])
    have hz1 := (Bnd.tr D M).size (hl294)
    try simp only [List.length_cons, List.length_nil] at hz0 hz1
    rw [if_neg (by omega)]
    exact hK _ _ _ rfl hS (Stp.refl _ _ _ _) (InL.cat (InL.one [40, 98, 101, 103, 105, 110, 32, 40, 115, 101, 116, 33, 32]) (hl294))
  case o5 =>
    intro dn a w' _ hS hF K hK
    obtain ⟨v295, h295, hl295⟩ := hF.val 4 295 (by kernel_rfl) (by kernel_rfl)
    obtain ⟨s295, rfl⟩ := inL_str hl295
    rw [if_pos (by kernel_rfl)]
    go_simp
    have hz0 := ((Bnd.one [40, 98, 101, 103, 105, 110, 32, 40, 115, 101, 116, 33, 32]).cat (Bnd.tr D M)).size (hl295)
    have hz1 := (Bnd.one [32]).size (InL.one [32])
    try simp only [List.length_cons, List.length_nil] at hz0 hz1
    rw [if_neg (by omega)]
    exact hK _ _ _ rfl hS (Stp.refl _ _ _ _) (InL.cat (hl295) (InL.one [32]))
  case o6 =>
    intro dn a w' _ hS hF K hK
    have h6 := hF.out 6 (by kernel_rfl) rfl
    rw [if_pos (by kernel_rfl)]
    go_simp
    exact hK _ _ _ rfl hS (Stp.refl _ _ _ _) rfl
  case o7 =>
    intro dn a w' _ hS hF K hK
    obtain ⟨v297, h297, rfl⟩ := hF.val 6 297 (by kernel_rfl) (by kernel_rfl)
    rw [if_pos (by kernel_rfl)]
    go_simp
    refine (hU names w' hS.1 HNO2.out).mono ?_
    rintro e w'' ⟨⟨v, rfl, hv⟩, hs⟩
    exact hK _ _ _ rfl ⟨hS.1.step hs, hS.2.trans hs⟩ hs hv
  case o8 =>
    intro dn a w' _ hS hF K hK
    obtain ⟨v296, h296, hl296⟩ := hF.val 5 296 (by kernel_rfl) (by kernel_rfl)
    obtain ⟨s296, rfl⟩ := inL_str hl296
    obtain ⟨v298, h298, hl298⟩ := hF.val 7 298 (by kernel_rfl) (by kernel_rfl)
    obtain ⟨s298, rfl⟩ := inL_str hl298
    rw [if_pos (by kernel_rfl)]
    go_simp
    have hz0 := (((Bnd.one [40, 98, 101, 103, 105, 110, 32, 40, 115, 101, 116, 33, 32]).cat (Bnd.tr D M)).cat (Bnd.one [32])).size (hl296)
    have hz1 := (Bnd.tr D M).size (hl298)
    try simp only [List.length_cons, List.length_nil] at hz0 hz1
    rw [if_neg (by omega)]
    exact hK _ _ _ rfl hS (Stp.refl _ _ _ _) (InL.cat (hl296) (hl298))
  case o9 =>
    intro dn a w' _ hS hF K hK
    obtain ⟨v299, h299, hl299⟩ := hF.val 8 299 (by kernel_rfl) (by kernel_rfl)
    obtain ⟨s299, rfl⟩ := inL_str hl299
    rw [if_pos (by kernel_rfl)]
    go_simp
    have hz0 := ((((Bnd.one [40, 98, 101, 103, 105, 110, 32, 40, 115, 101, 116, 33, 32]).cat (Bnd.tr D M)).cat (Bnd.one [32])).cat (Bnd.tr D M)).size (hl299)
    have hz1 := (Bnd.one [41, 32]).size (InL.one [41, 32])
    try simp only [List.length_cons, List.length_nil] at hz0 hz1
    rw [if_neg (by omega)]
    exact hK _ _ _ rfl hS (Stp.refl _ _ _ _) (InL.cat (hl299) (InL.one [41, 32]))
  case o10 =>
    intro dn a w' _ hS hF K hK
    have h2 := hF.out 2 (by kernel_rfl) rfl
    have hc := hS.1.box
    rw [if_pos (by kernel_rfl)]
    go_simp
    exact hK _ _ _ rfl hS (Stp.refl _ _ _ _) rfl
  case o11 =>
    intro dn a w' _ hS hF K hK
    have h5 := hF.out 5 (by kernel_rfl) rfl
    rw [if_pos (by kernel_rfl)]
    go_simp
    exact hK _ _ _ rfl hS (Stp.refl _ _ _ _) rfl
  case o12 =>
    intro dn a w' _ hS hF K hK
    obtain ⟨v302, h302, rfl⟩ := hF.val 11 302 (by kernel_rfl) (by kernel_rfl)
    have hc := hS.1.c2
    rw [if_pos (by kernel_rfl)]
    go_simp
    exact hK _ _ _ rfl hS (Stp.refl _ _ _ _) rfl
  case o13 =>
    intro dn a w' _ hS hF K hK
    obtain ⟨v301, h301, rfl⟩ := hF.val 10 301 (by kernel_rfl) (by kernel_rfl)
    obtain ⟨v303, h303, rfl⟩ := hF.val 12 303 (by kernel_rfl) (by kernel_rfl)
    rw [if_pos (by kernel_rfl)]
    obtain ⟨l, hl⟩ := hS.1.bard
    go_simp
    refine (local_any w' B bb l names y hl hN.pos (Nat.le_trans hN.len (by omega)) hx_y).mono ?_
    rintro e w'' ⟨⟨nm, hnm, rfl⟩, m, rfl⟩
    have hs := Stp.of_below (bb := bb) (names := names) hS.1.size (drewN_below w' m)
    exact hK _ _ _ rfl ⟨hS.1.step hs, hS.2.trans hs⟩ hs ((hN.ok nm hnm).tr hD hM)
  case o14 =>
    intro dn a w' _ hS hF K hK
    obtain ⟨v300, h300, hl300⟩ := hF.val 9 300 (by kernel_rfl) (by kernel_rfl)
    obtain ⟨s300, rfl⟩ := inL_str hl300
    obtain ⟨v304, h304, hl304⟩ := hF.val 13 304 (by kernel_rfl) (by kernel_rfl)
    obtain ⟨s304, rfl⟩ := inL_str hl304
    rw [if_pos (by kernel_rfl)]
    go_simp
    have hz0 := (((((Bnd.one [40, 98, 101, 103, 105, 110, 32, 40, 115, 101, 116, 33, 32]).cat (Bnd.tr D M)).cat (Bnd.one [32])).cat (Bnd.tr D M)).cat (Bnd.one [41, 32])).size (hl300)
    have hz1 := (Bnd.tr D M).size (hl304)
    try simp only [List.length_cons, List.length_nil] at hz0 hz1
    rw [if_neg (by omega)]
    exact hK _ _ _ rfl hS (Stp.refl _ _ _ _) (InL.cat (hl300) (hl304))
  case o15 =>
    intro dn a w' _ hS hF K hK
    obtain ⟨v305, h305, hl305⟩ := hF.val 14 305 (by kernel_rfl) (by kernel_rfl)
    obtain ⟨s305, rfl⟩ := inL_str hl305
    rw [if_pos (by kernel_rfl)]
    go_simp
    have hz0 := ((((((Bnd.one [40, 98, 101, 103, 105, 110, 32, 40, 115, 101, 116, 33, 32]).cat (Bnd.tr D M)).cat (Bnd.one [32])).cat (Bnd.tr D M)).cat (Bnd.one [41, 32])).cat (Bnd.tr D M)).size (hl305)
    have hz1 := (Bnd.one [41]).size (InL.one [41])
    try simp only [List.length_cons, List.length_nil] at hz0 hz1
    rw [if_neg (by omega)]
    exact hK _ _ _ rfl hS (Stp.refl _ _ _ _) (InL.cat (hl305) (InL.one [41]))
  case o16 =>
    intro dn a w' _ hS hF K hK
    obtain ⟨v306, h306, hl306⟩ := hF.val 15 306 (by kernel_rfl) (by kernel_rfl)
    obtain ⟨s306, rfl⟩ := inL_str hl306
    rw [if_pos (by kernel_rfl)]
    go_simp
    exact hK _ _ _ rfl hS (Stp.refl _ _ _ _) hl306
  case hend =>
    intro dn w' vs hS hv
    have hv16 : InL (Cat (Cat (Cat (Cat (Cat (Cat (One [40, 98, 101, 103, 105, 110, 32, 40, 115, 101, 116, 33, 32]) (Tr D M)) (One [32])) (Tr D M)) (One [41, 32])) (Tr D M)) (One [41])) (vs 16) := hv 16 (by decide)
    clear hv
    simp only [putsL, Nat.reduceAdd, Act.put, List.setIfInBounds_toArray, List.set_cons_zero, List.set_cons_succ]
    generalize vs 16 = vL at hv16 ⊢
    obtain ⟨s, rfl⟩ := inL_str hv16
    go_wp2
    go_ret
    refine ⟨⟨_, rfl, ?_⟩, hS.2⟩
    obtain ⟨_, hl, ⟨_, _, rfl, ⟨_, _, rfl, ⟨_, _, rfl, ⟨_, _, rfl, ⟨_, _, rfl, ⟨_, _, rfl, rfl, ⟨t0, rfl, hok_t0, hdp_t0, hln_t0⟩⟩, rfl⟩, ⟨t1, rfl, hok_t1, hdp_t1, hln_t1⟩⟩, rfl⟩, ⟨t2, rfl, hok_t2, hdp_t2, hln_t2⟩⟩, rfl⟩⟩ := hv16
    rw [hl]
    exact tree_ok (.l [.w [98, 101, 103, 105, 110], .l [.w [115, 101, 116, 33], t0, t1], t2]) _ (by simp [Tx.pr, Tx.prs]) (by simp [Tx.fit, Tx.fits, Tx.isL, hok_t0, hok_t1, hok_t2] <;> decide +kernel) (by simp only [Tx.dep, Tx.deps]; omega) (by simp only [List.length_append, List.length_cons, List.length_nil]; omega)
set_option maxRecDepth 100000 in
set_option maxHeartbeats 4000000 in
theorem expr_c17 {B bb n D M : Nat} (hD : 2 ≤ D) (hM : 20 ≤ M) (hM2 : M ≤ 1000000) (ih : ExprAt B bb n D M) (hn : n ≤ 900) (w : World) (lv : Value) (names : List ByteArray) (d k x y z : Int) (hd0 : 0 < d) (hd : d ≤ n + 1) (hB : B ≤ w.heap.size) (h : Bard w B bb lv names) (hT : TabB w B) (hN : NamesOk names (999 - n))
    (hx_k : i64B k) (hx_x : i64B x) (hx_y : i64B y) (hx_z : i64B z)
    (HN0 : Calls Tryz.prog 31 #[.pointer (some ⟨bb, 0, none⟩)] ((w.alloc (.cells #[.pointer (some ⟨bb, 0, none⟩)] 59)).alloc (.cells #[.int .i64 d] 3)) fun e w' => e = .returned (.agg #[.int .i64 k, .int .i64 x, .int .i64 y, .int .i64 z]) ∧ Bard w' B bb lv names ∧ Kept bb none ((w.alloc (.cells #[.pointer (some ⟨bb, 0, none⟩)] 59)).alloc (.cells #[.int .i64 d] 3)) w') (he : pick k 20 = 17) :
    Calls Tryz.prog 17 #[.pointer (some ⟨bb, 0, none⟩), .int .i64 d] w fun e w' => (∃ v, e = .returned v ∧ InL (Tr (D + 5) (3 * M + 100)) v) ∧ Stp B bb names names w w' := by
  have hlt := h.lt
  generalize hW1 : (w.alloc (.cells #[.pointer (some ⟨bb, 0, none⟩)] 59)).alloc (.cells #[.int .i64 d] 3) = W1 at HN0
  have hbel1 : Below w.heap.size w W1 := by rw [← hW1]; exact ((Below.refl _ _).alloc (Nat.le_refl _) _).alloc (by simp) _
  have hB1 : Bard W1 B bb lv names := h.keep hB hbel1
  have HN := hid HN0
  clear HN0
  have hsz : W1.heap.size = w.heap.size + 2 := by rw [← hW1]; simp
  have b0 : W1.cell? ⟨w.heap.size, 0, none⟩ = some (.pointer (some ⟨bb, 0, none⟩)) := by rw [← hW1, World.cell?_alloc_past _ _ _ (by simp), World.cell?_alloc_at _ _ _ _ rfl]; rfl
  have b1 : W1.cell? ⟨w.heap.size + 1, 0, none⟩ = some (.int .i64 d) := by rw [← hW1, World.cell?_alloc_at _ _ _ _ (by simp)]; rfl
  have hT1 : TabB W1 B := hT.below (hbel1.mono hB)
  have hmf : ∀ (fn : Fn) (first cap : Array Value) (w : World), (Instr.makeFunc fn first cap).run Tryz.prog w = .ok (.func fn first cap) w := fun _ _ _ _ => rfl
  have HNO := hid hN
  have HIH := hid ih
  have HB := hid h
  clear hN ih
  go_enter Tryz.func17, Tryz.ntmps17
  go_wp2_with fail
  have hcall := HN.out
  go_fit hcall
  clear hcall
  rintro e w1 ⟨rfl, hb1, hK1⟩
  have hz1 := hK1.size
  have b0' := (hK1.cell (p := ⟨w.heap.size, 0, none⟩) (by simp only; omega) (by simp only; omega) (by simp)).trans b0
  have b1' := (hK1.cell (p := ⟨w.heap.size + 1, 0, none⟩) (by simp only; omega) (by simp only; omega) (by simp)).trans b1
  have hT2 : TabB w1 B := hT1.below (hK1.below h.own (fun g hg => by cases hg) (by omega))
  have hq0 : w.heap.size < w1.heap.size := by omega
  have hq1 : w.heap.size + 1 < w1.heap.size := by omega
  go_wp2_with fail
  have hO := h.own
  generalize hW2 : w1.alloc (.cells #[.int .i64 k, .int .i64 x, .int .i64 y, .int .i64 z] 46) = W2
  have hbel2 : Below w1.heap.size w1 W2 := by rw [← hW2]; exact (Below.refl _ _).alloc (Nat.le_refl _) _
  have hS12 : Stp B bb names names w W2 := by
    intro l hl
    obtain rfl := h.det hl
    exact ⟨lv, hb1.keep (by omega) hbel2, ((Kept.of_below hbel1 (Nat.le_refl _)).trans (row := lv.ownBlock) (row' := lv.ownBlock) ⟨hK1.os, hK1.tape, hK1.output, hK1.size, fun k hk h1 _ => hK1.block k hk h1 (by simp)⟩ (fun g hg => Or.inl hg)).trans (row' := none) (Kept.of_below hbel2 (Nat.le_refl _)) (by simp), fun g hg => Or.inl hg⟩
  have hB2 : Bard W2 B bb lv names := hb1.keep (by omega) hbel2
  have hrow := fun g hg => (h.row_ge (g := g) hg).2
  have apt : ∀ b, w.heap.size ≤ b → b < W2.heap.size → Apart B bb b W2 := fun b h1 h2 => ⟨h2, by omega, fun l _ k e => by
    obtain rfl := hB2.det k
    have := hrow b e
    omega⟩
  have hz2 : w1.heap.size < W2.heap.size := by rw [← hW2]; simp
  have D0 : Hid (Desk W2 B bb names w.heap.size w1.heap.size d k x y z) := hid
    ⟨⟨lv, hB2⟩, hT2.below (hbel2.mono (by omega)), (hbel2.cell (p := ⟨w.heap.size, 0, none⟩) hq0).trans b0', (hbel2.cell (p := ⟨w.heap.size + 1, 0, none⟩) hq1).trans b1',
      by rw [← hW2, World.cell?_alloc_at _ _ _ _ rfl]; rfl, by rw [← hW2, World.cell?_alloc_at _ _ _ _ rfl]; rfl, by rw [← hW2, World.cell?_alloc_at _ _ _ _ rfl]; rfl, by rw [← hW2, World.cell?_alloc_at _ _ _ _ rfl]; rfl,
      apt _ (by omega) (by omega), apt _ (by omega) (by omega), apt _ (by omega) (by omega), by omega⟩
  have S0 := hid hS12
  have d0 := D0.out.c0
  have d1 := D0.out.c1
  have HP := hid (he ▸ picked_any k 20 W2 hx_k.1 hx_k.2 (by omega) (by omega))
  clear hW1 hW2 HN b0 b1 b0' b1' hT hT1 hT2 hb1 hK1 hbel1 hbel2 hB1 hB2 apt hrow hS12 hq0 hq1 hz1 hsz hlt hz2 he hO
  generalize w.heap.size = p at *
  generalize w1.heap.size = q at *
  have hcall := HP.out
  go_fit hcall
  clear hcall HP
  rintro e w3 ⟨rfl, rfl⟩
  have hU := fun (names : List ByteArray) (w' : World) (hd' : Desk w' B bb names p q d k x y z) (hN' : NamesOk names (1000 - n)) => sub_any HIH.out hd' hd0 hd (by omega) hN'
  have hE := fun (names : List ByteArray) (w' : World) (hd' : Desk w' B bb names p q d k x y z) (hN' : NamesOk names (1000 - n)) => expr_at HIH.out hd' hd0 hd hN'
  have HNO2 : Hid (NamesOk names (1000 - n)) := hid ⟨HNO.out.pos, Nat.le_trans HNO.out.len (by omega), HNO.out.ok⟩
  have hN := HNO.out
  clear hE
  go_upto_region 49 with fail
  refine wp_region_invA (fun _ w' => Desk w' B bb names p q d k x y z ∧ Stp B bb names names w w') (fun _ => Stp B bb names names) (fun i v w' => match i with
    | 0 => ∃ b, v = .slice (some ⟨b, 0, none⟩) 2 2 ∧ RowT B bb b 2 D M w'
    | 1 => v = .pointer (some ⟨q, 1, none⟩)
    | 2 => v = .int .i64 x
    | 3 => ∃ j : Nat, v = .int .i64 j ∧ j < 2
    | 4 => ∃ b j, v = .pointer (some ⟨b, j, none⟩) ∧ j < 2 ∧ RowT B bb b 2 D M w'
    | 5 => InL (Tr D M) v
    | 6 => InL (Cat (One [40, 115, 101, 116, 33, 32]) (Tr D M)) v
    | 7 => InL (Cat (Cat (One [40, 115, 101, 116, 33, 32]) (Tr D M)) (One [32])) v
    | 8 => v = .func (.func 33) #[] #[.pointer (some ⟨p, 0, none⟩), .pointer (some ⟨p + 1, 0, none⟩)]
    | 9 => InL (Tr D M) v
    | 10 => InL (Cat (Cat (Cat (One [40, 115, 101, 116, 33, 32]) (Tr D M)) (One [32])) (Tr D M)) v
    | 11 => InL (Cat (Cat (Cat (Cat (One [40, 115, 101, 116, 33, 32]) (Tr D M)) (One [32])) (Tr D M)) (One [41])) v
    | 12 => InL (Cat (Cat (Cat (Cat (One [40, 115, 101, 116, 33, 32]) (Tr D M)) (One [32])) (Tr D M)) (One [41])) v
    | _ => True) (by kernel_rfl) (by kernel_rfl) ?hst ?hmono ⟨?o0, ?o1, ?o2, ?o3, ?o4, ?o5, ?o6, ?o7, ?o8, ?o9, ?o10, ?o11, ?o12, trivial⟩ ?hend
  case hst => exact ⟨D0.out.step (Stp.of_below D0.out.size (drewN_below _ 1)), S0.out.trans (Stp.of_below D0.out.size (drewN_below _ 1))⟩
  case hmono =>
    intro i j v w1 w2 _ _ _ _ ⟨_, hS⟩ hv hR
    obtain ⟨l, hl⟩ := hS.1.bard
    rcases i with _ | _ | _ | _ | _ | _ | _ | _ | _ | _ | _ | _ | _ | i
    all_goals first | exact hv | (obtain ⟨b, h1, h2⟩ := hv; exact ⟨b, h1, h2.step hR hl⟩) | (obtain ⟨b, j, h1, h2, h3⟩ := hv; exact ⟨b, j, h1, h2, h3.step hR hl⟩)
  case o0 =>
    intro dn a w' _ hS hF K hK
    rw [if_pos (by kernel_rfl)]
    obtain ⟨l, hl⟩ := hS.1.bard
    go_simp
    have hs := Stp.of_below (bb := bb) (names := names) hS.1.size ((Below.refl w'.heap.size w').alloc (Nat.le_refl _) (.cells #[.string ⟨#[120]⟩, .string ⟨#[121]⟩] 9))
    refine hK _ _ _ rfl ⟨hS.1.step hs, hS.2.trans hs⟩ hs ⟨_, rfl, _, ⟨heap_alloc_new w' _, Apart.new hl hS.1.size _⟩, rfl, row_of ⟨word_ok hD hM [120] (by decide +kernel), word_ok hD hM [121] (by decide +kernel), trivial⟩⟩
  case o1 =>
    intro dn a w' _ hS hF K hK
    have h5 := hF.out 5 (by kernel_rfl) rfl
    rw [if_pos (by kernel_rfl)]
    go_simp
    exact hK _ _ _ rfl hS (Stp.refl _ _ _ _) rfl
  case o2 =>
    intro dn a w' _ hS hF K hK
    obtain ⟨v314, h314, rfl⟩ := hF.val 1 314 (by kernel_rfl) (by kernel_rfl)
    have hc := hS.1.c1
    rw [if_pos (by kernel_rfl)]
    go_simp
    exact hK _ _ _ rfl hS (Stp.refl _ _ _ _) rfl
  case o3 =>
    intro dn a w' _ hS hF K hK
    obtain ⟨v315, h315, rfl⟩ := hF.val 2 315 (by kernel_rfl) (by kernel_rfl)
    rw [if_pos (by kernel_rfl)]
    go_simp
    refine (picked_any x 2 w' hx_x.1 hx_x.2 (by omega) (by omega)).mono ?_
    rintro e w'' ⟨rfl, rfl⟩
    obtain ⟨j, hj, hjl⟩ := pick_nat x 2 (by omega)
    rw [hj]
    exact hK _ _ _ rfl hS (Stp.refl _ _ _ _) ⟨j, rfl, by omega⟩
  case o4 =>
    intro dn a w' _ hS hF K hK
    obtain ⟨v313, h313, b313, rfl, hr313⟩ := hF.val 0 313 (by kernel_rfl) (by kernel_rfl)
    obtain ⟨v316, h316, j316, rfl, hj316⟩ := hF.val 3 316 (by kernel_rfl) (by kernel_rfl)
    have hj' : (j316 : Int) < 2 := by omega
    rw [if_pos (by kernel_rfl)]
    go_simp
    exact hK _ _ _ rfl hS (Stp.refl _ _ _ _) ⟨b313, j316, rfl, by omega, hr313⟩
  case o5 =>
    intro dn a w' _ hS hF K hK
    obtain ⟨v317, h317, b317, j317, rfl, hj317, hr317⟩ := hF.val 4 317 (by kernel_rfl) (by kernel_rfl)
    obtain ⟨u, hc, hu⟩ := hr317.cell hj317
    rw [if_pos (by kernel_rfl)]
    go_simp
    exact hK _ _ _ rfl hS (Stp.refl _ _ _ _) hu
  case o6 =>
    intro dn a w' _ hS hF K hK
    obtain ⟨v318, h318, hl318⟩ := hF.val 5 318 (by kernel_rfl) (by kernel_rfl)
    obtain ⟨s318, rfl⟩ := inL_str hl318
    rw [if_pos (by kernel_rfl)]
    go_simp
    have hz0 := (Bnd.one [40, 115, 101, 116, 33, 32]).size (InL.one [40, 115, 101, 116, 33, 32])
    have hz1 := (Bnd.tr D M).size (hl318)
    try simp only [List.length_cons, List.length_nil] at hz0 hz1
    rw [if_neg (by omega)]
    exact hK _ _ _ rfl hS (Stp.refl _ _ _ _) (InL.cat (InL.one [40, 115, 101, 116, 33, 32]) (hl318))
  case o7 =>
    intro dn a w' _ hS hF K hK
    obtain ⟨v319, h319, hl319⟩ := hF.val 6 319 (by kernel_rfl) (by kernel_rfl)
    obtain ⟨s319, rfl⟩ := inL_str hl319
    rw [if_pos (by kernel_rfl)]
    go_simp
    have hz0 := ((Bnd.one [40, 115, 101, 116, 33, 32]).cat (Bnd.tr D M)).size (hl319)
    have hz1 := (Bnd.one [32]).size (InL.one [32])
    try simp only [List.length_cons, List.length_nil] at hz0 hz1
    rw [if_neg (by omega)]
    exact hK _ _ _ rfl hS (Stp.refl _ _ _ _) (InL.cat (hl319) (InL.one [32]))
  case o8 =>
    intro dn a w' _ hS hF K hK
    have h6 := hF.out 6 (by kernel_rfl) rfl
    rw [if_pos (by kernel_rfl)]
    go_simp
    exact hK _ _ _ rfl hS (Stp.refl _ _ _ _) rfl
  case o9 =>
    intro dn a w' _ hS hF K hK
    obtain ⟨v321, h321, rfl⟩ := hF.val 8 321 (by kernel_rfl) (by kernel_rfl)
    rw [if_pos (by kernel_rfl)]
    go_simp
    refine (hU names w' hS.1 HNO2.out).mono ?_
    rintro e w'' ⟨⟨v, rfl, hv⟩, hs⟩
    exact hK _ _ _ rfl ⟨hS.1.step hs, hS.2.trans hs⟩ hs hv
  case o10 =>
    intro dn a w' _ hS hF K hK
    obtain ⟨v320, h320, hl320⟩ := hF.val 7 320 (by kernel_rfl) (by kernel_rfl)
    obtain ⟨s320, rfl⟩ := inL_str hl320
    obtain ⟨v322, h322, hl322⟩ := hF.val 9 322 (by kernel_rfl) (by kernel_rfl)
    obtain ⟨s322, rfl⟩ := inL_str hl322
    rw [if_pos (by kernel_rfl)]
    go_simp
    have hz0 := (((Bnd.one [40, 115, 101, 116, 33, 32]).cat (Bnd.tr D M)).cat (Bnd.one [32])).size (hl320)
    have hz1 := (Bnd.tr D M).size (hl322)
    try simp only [List.length_cons, List.length_nil] at hz0 hz1
    rw [if_neg (by omega)]
    exact hK _ _ _ rfl hS (Stp.refl _ _ _ _) (InL.cat (hl320) (hl322))
  case o11 =>
    intro dn a w' _ hS hF K hK
    obtain ⟨v323, h323, hl323⟩ := hF.val 10 323 (by kernel_rfl) (by kernel_rfl)
    obtain ⟨s323, rfl⟩ := inL_str hl323
    rw [if_pos (by kernel_rfl)]
    go_simp
    have hz0 := ((((Bnd.one [40, 115, 101, 116, 33, 32]).cat (Bnd.tr D M)).cat (Bnd.one [32])).cat (Bnd.tr D M)).size (hl323)
    have hz1 := (Bnd.one [41]).size (InL.one [41])
    try simp only [List.length_cons, List.length_nil] at hz0 hz1
    rw [if_neg (by omega)]
    exact hK _ _ _ rfl hS (Stp.refl _ _ _ _) (InL.cat (hl323) (InL.one [41]))
  case o12 =>
    intro dn a w' _ hS hF K hK
    obtain ⟨v324, h324, hl324⟩ := hF.val 11 324 (by kernel_rfl) (by kernel_rfl)
    obtain ⟨s324, rfl⟩ := inL_str hl324
    rw [if_pos (by kernel_rfl)]
    go_simp
    exact hK _ _ _ rfl hS (Stp.refl _ _ _ _) hl324
  case hend =>
    intro dn w' vs hS hv
    have hv12 : InL (Cat (Cat (Cat (Cat (One [40, 115, 101, 116, 33, 32]) (Tr D M)) (One [32])) (Tr D M)) (One [41])) (vs 12) := hv 12 (by decide)
    clear hv
    simp only [putsL, Nat.reduceAdd, Act.put, List.setIfInBounds_toArray, List.set_cons_zero, List.set_cons_succ]
    generalize vs 12 = vL at hv12 ⊢
    obtain ⟨s, rfl⟩ := inL_str hv12
    go_wp2
    go_ret
    refine ⟨⟨_, rfl, ?_⟩, hS.2⟩
    obtain ⟨_, hl, ⟨_, _, rfl, ⟨_, _, rfl, ⟨_, _, rfl, ⟨_, _, rfl, rfl, ⟨t0, rfl, hok_t0, hdp_t0, hln_t0⟩⟩, rfl⟩, ⟨t1, rfl, hok_t1, hdp_t1, hln_t1⟩⟩, rfl⟩⟩ := hv12
    rw [hl]
    exact tree_ok (.l [.w [115, 101, 116, 33], t0, t1]) _ (by simp [Tx.pr, Tx.prs]) (by simp [Tx.fit, Tx.fits, Tx.isL, hok_t0, hok_t1] <;> decide +kernel) (by simp only [Tx.dep, Tx.deps]; omega) (by simp only [List.length_append, List.length_cons, List.length_nil]; omega)
set_option maxRecDepth 100000 in
set_option maxHeartbeats 4000000 in
theorem expr_c19 {B bb n D M : Nat} (hD : 2 ≤ D) (hM : 20 ≤ M) (hM2 : M ≤ 1000000) (ih : ExprAt B bb n D M) (hn : n ≤ 900) (w : World) (lv : Value) (names : List ByteArray) (d k x y z : Int) (hd0 : 0 < d) (hd : d ≤ n + 1) (hB : B ≤ w.heap.size) (h : Bard w B bb lv names) (hT : TabB w B) (hN : NamesOk names (999 - n))
    (hx_k : i64B k) (hx_x : i64B x) (hx_y : i64B y) (hx_z : i64B z)
    (HN0 : Calls Tryz.prog 31 #[.pointer (some ⟨bb, 0, none⟩)] ((w.alloc (.cells #[.pointer (some ⟨bb, 0, none⟩)] 59)).alloc (.cells #[.int .i64 d] 3)) fun e w' => e = .returned (.agg #[.int .i64 k, .int .i64 x, .int .i64 y, .int .i64 z]) ∧ Bard w' B bb lv names ∧ Kept bb none ((w.alloc (.cells #[.pointer (some ⟨bb, 0, none⟩)] 59)).alloc (.cells #[.int .i64 d] 3)) w') (he : pick k 20 = 19) :
    Calls Tryz.prog 17 #[.pointer (some ⟨bb, 0, none⟩), .int .i64 d] w fun e w' => (∃ v, e = .returned v ∧ InL (Tr (D + 5) (3 * M + 100)) v) ∧ Stp B bb names names w w' := by
  have hlt := h.lt
  generalize hW1 : (w.alloc (.cells #[.pointer (some ⟨bb, 0, none⟩)] 59)).alloc (.cells #[.int .i64 d] 3) = W1 at HN0
  have hbel1 : Below w.heap.size w W1 := by rw [← hW1]; exact ((Below.refl _ _).alloc (Nat.le_refl _) _).alloc (by simp) _
  have hB1 : Bard W1 B bb lv names := h.keep hB hbel1
  have HN := hid HN0
  clear HN0
  have hsz : W1.heap.size = w.heap.size + 2 := by rw [← hW1]; simp
  have b0 : W1.cell? ⟨w.heap.size, 0, none⟩ = some (.pointer (some ⟨bb, 0, none⟩)) := by rw [← hW1, World.cell?_alloc_past _ _ _ (by simp), World.cell?_alloc_at _ _ _ _ rfl]; rfl
  have b1 : W1.cell? ⟨w.heap.size + 1, 0, none⟩ = some (.int .i64 d) := by rw [← hW1, World.cell?_alloc_at _ _ _ _ (by simp)]; rfl
  have hT1 : TabB W1 B := hT.below (hbel1.mono hB)
  have hmf : ∀ (fn : Fn) (first cap : Array Value) (w : World), (Instr.makeFunc fn first cap).run Tryz.prog w = .ok (.func fn first cap) w := fun _ _ _ _ => rfl
  have HNO := hid hN
  have HIH := hid ih
  have HB := hid h
  clear hN ih
  go_enter Tryz.func17, Tryz.ntmps17
  go_wp2_with fail
  have hcall := HN.out
  go_fit hcall
  clear hcall
  rintro e w1 ⟨rfl, hb1, hK1⟩
  have hz1 := hK1.size
  have b0' := (hK1.cell (p := ⟨w.heap.size, 0, none⟩) (by simp only; omega) (by simp only; omega) (by simp)).trans b0
  have b1' := (hK1.cell (p := ⟨w.heap.size + 1, 0, none⟩) (by simp only; omega) (by simp only; omega) (by simp)).trans b1
  have hT2 : TabB w1 B := hT1.below (hK1.below h.own (fun g hg => by cases hg) (by omega))
  have hq0 : w.heap.size < w1.heap.size := by omega
  have hq1 : w.heap.size + 1 < w1.heap.size := by omega
  go_wp2_with fail
  have hO := h.own
  generalize hW2 : w1.alloc (.cells #[.int .i64 k, .int .i64 x, .int .i64 y, .int .i64 z] 46) = W2
  have hbel2 : Below w1.heap.size w1 W2 := by rw [← hW2]; exact (Below.refl _ _).alloc (Nat.le_refl _) _
  have hS12 : Stp B bb names names w W2 := by
    intro l hl
    obtain rfl := h.det hl
    exact ⟨lv, hb1.keep (by omega) hbel2, ((Kept.of_below hbel1 (Nat.le_refl _)).trans (row := lv.ownBlock) (row' := lv.ownBlock) ⟨hK1.os, hK1.tape, hK1.output, hK1.size, fun k hk h1 _ => hK1.block k hk h1 (by simp)⟩ (fun g hg => Or.inl hg)).trans (row' := none) (Kept.of_below hbel2 (Nat.le_refl _)) (by simp), fun g hg => Or.inl hg⟩
  have hB2 : Bard W2 B bb lv names := hb1.keep (by omega) hbel2
  have hrow := fun g hg => (h.row_ge (g := g) hg).2
  have apt : ∀ b, w.heap.size ≤ b → b < W2.heap.size → Apart B bb b W2 := fun b h1 h2 => ⟨h2, by omega, fun l _ k e => by
    obtain rfl := hB2.det k
    have := hrow b e
    omega⟩
  have hz2 : w1.heap.size < W2.heap.size := by rw [← hW2]; simp
  have D0 : Hid (Desk W2 B bb names w.heap.size w1.heap.size d k x y z) := hid
    ⟨⟨lv, hB2⟩, hT2.below (hbel2.mono (by omega)), (hbel2.cell (p := ⟨w.heap.size, 0, none⟩) hq0).trans b0', (hbel2.cell (p := ⟨w.heap.size + 1, 0, none⟩) hq1).trans b1',
      by rw [← hW2, World.cell?_alloc_at _ _ _ _ rfl]; rfl, by rw [← hW2, World.cell?_alloc_at _ _ _ _ rfl]; rfl, by rw [← hW2, World.cell?_alloc_at _ _ _ _ rfl]; rfl, by rw [← hW2, World.cell?_alloc_at _ _ _ _ rfl]; rfl,
      apt _ (by omega) (by omega), apt _ (by omega) (by omega), apt _ (by omega) (by omega), by omega⟩
  have S0 := hid hS12
  have d0 := D0.out.c0
  have d1 := D0.out.c1
  have HP := hid (he ▸ picked_any k 20 W2 hx_k.1 hx_k.2 (by omega) (by omega))
  clear hW1 hW2 HN b0 b1 b0' b1' hT hT1 hT2 hb1 hK1 hbel1 hbel2 hB1 hB2 apt hrow hS12 hq0 hq1 hz1 hsz hlt hz2 he hO
  generalize w.heap.size = p at *
  generalize w1.heap.size = q at *
  have hcall := HP.out
  go_fit hcall
  clear hcall HP
  rintro e w3 ⟨rfl, rfl⟩
  have hU := fun (names : List ByteArray) (w' : World) (hd' : Desk w' B bb names p q d k x y z) (hN' : NamesOk names (1000 - n)) => sub_any HIH.out hd' hd0 hd (by omega) hN'
  have hE := fun (names : List ByteArray) (w' : World) (hd' : Desk w' B bb names p q d k x y z) (hN' : NamesOk names (1000 - n)) => expr_at HIH.out hd' hd0 hd hN'
  have HNO2 : Hid (NamesOk names (1000 - n)) := hid ⟨HNO.out.pos, Nat.le_trans HNO.out.len (by omega), HNO.out.ok⟩
  have hN := HNO.out
  clear hE
  go_upto_region 55 with fail
  refine wp_region_invA (fun _ w' => Desk w' B bb names p q d k x y z ∧ Stp B bb names names w w') (fun _ => Stp B bb names names) (fun i v w' => match i with
    | 0 => v = .pointer (some ⟨q, 1, none⟩)
    | 1 => v = .int .i64 x
    | 2 => ∃ j : Nat, v = .int .i64 j ∧ j < 9
    | 3 => InL (Tr D M) v
    | 4 => InL (Cat (One [39, 40]) (Tr D M)) v
    | 5 => InL (Cat (Cat (One [39, 40]) (Tr D M)) (One [32, 40, 98, 32, 99, 41, 32])) v
    | 6 => ∃ b, v = .slice (some ⟨b, 0, none⟩) 2 2 ∧ RowT B bb b 2 D M w'
    | 7 => v = .pointer (some ⟨q, 2, none⟩)
    | 8 => v = .int .i64 y
    | 9 => ∃ j : Nat, v = .int .i64 j ∧ j < 2
    | 10 => ∃ b j, v = .pointer (some ⟨b, j, none⟩) ∧ j < 2 ∧ RowT B bb b 2 D M w'
    | 11 => InL (Tr D M) v
    | 12 => InL (Cat (Cat (Cat (One [39, 40]) (Tr D M)) (One [32, 40, 98, 32, 99, 41, 32])) (Tr D M)) v
    | 13 => InL (Cat (Cat (Cat (Cat (One [39, 40]) (Tr D M)) (One [32, 40, 98, 32, 99, 41, 32])) (Tr D M)) (One [41])) v
    | 14 => InL (Cat (Cat (Cat (Cat (One [39, 40]) (Tr D M)) (One [32, 40, 98, 32, 99, 41, 32])) (Tr D M)) (One [41])) v
    | _ => True) (by kernel_rfl) (by kernel_rfl) ?hst ?hmono ⟨?o0, ?o1, ?o2, ?o3, ?o4, ?o5, ?o6, ?o7, ?o8, ?o9, ?o10, ?o11, ?o12, ?o13, ?o14, trivial⟩ ?hend
  case hst => exact ⟨D0.out.step (Stp.of_below D0.out.size (drewN_below _ 1)), S0.out.trans (Stp.of_below D0.out.size (drewN_below _ 1))⟩
  case hmono =>
    intro i j v w1 w2 _ _ _ _ ⟨_, hS⟩ hv hR
    obtain ⟨l, hl⟩ := hS.1.bard
    rcases i with _ | _ | _ | _ | _ | _ | _ | _ | _ | _ | _ | _ | _ | _ | _ | i
    all_goals first | exact hv | (obtain ⟨b, h1, h2⟩ := hv; exact ⟨b, h1, h2.step hR hl⟩) | (obtain ⟨b, j, h1, h2, h3⟩ := hv; exact ⟨b, j, h1, h2, h3.step hR hl⟩)
  case o0 =>
    intro dn a w' _ hS hF K hK
    have h5 := hF.out 5 (by kernel_rfl) rfl
    rw [if_pos (by kernel_rfl)]
    go_simp
    exact hK _ _ _ rfl hS (Stp.refl _ _ _ _) rfl
  case o1 =>
    intro dn a w' _ hS hF K hK
    obtain ⟨v363, h363, rfl⟩ := hF.val 0 363 (by kernel_rfl) (by kernel_rfl)
    have hc := hS.1.c1
    rw [if_pos (by kernel_rfl)]
    go_simp
    exact hK _ _ _ rfl hS (Stp.refl _ _ _ _) rfl
  case o2 =>
    intro dn a w' _ hS hF K hK
    obtain ⟨v364, h364, rfl⟩ := hF.val 1 364 (by kernel_rfl) (by kernel_rfl)
    rw [if_pos (by kernel_rfl)]
    go_simp
    refine (picked_any x 9 w' hx_x.1 hx_x.2 (by omega) (by omega)).mono ?_
    rintro e w'' ⟨rfl, rfl⟩
    obtain ⟨j, hj, hjl⟩ := pick_nat x 9 (by omega)
    rw [hj]
    exact hK _ _ _ rfl hS (Stp.refl _ _ _ _) ⟨j, rfl, by omega⟩
  case o3 =>
    intro dn a w' _ hS hF K hK
    obtain ⟨v365, h365, j365, rfl, hj365⟩ := hF.val 2 365 (by kernel_rfl) (by kernel_rfl)
    rw [if_pos (by kernel_rfl)]
    go_simp
    refine (bItoa j365 (by omega) (by omega) w' hS.1.tab).mono ?_
    rintro e w'' ⟨rfl, hb⟩
    have hs := Stp.of_below (bb := bb) (names := names) hS.1.size hb
    exact hK _ _ _ rfl ⟨hS.1.step hs, hS.2.trans hs⟩ hs (itoa_ok hD hM _ (by omega) (by omega))
  case o4 =>
    intro dn a w' _ hS hF K hK
    obtain ⟨v366, h366, hl366⟩ := hF.val 3 366 (by kernel_rfl) (by kernel_rfl)
    obtain ⟨s366, rfl⟩ := inL_str hl366
    rw [if_pos (by kernel_rfl)]
    go_simp
    have hz0 := (Bnd.one [39, 40]).size (InL.one [39, 40])
    have hz1 := (Bnd.tr D M).size (hl366)
    try simp only [List.length_cons, List.length_nil] at hz0 hz1
    rw [if_neg (by omega)]
    exact hK _ _ _ rfl hS (Stp.refl _ _ _ _) (InL.cat (InL.one [39, 40]) (hl366))
  case o5 =>
    intro dn a w' _ hS hF K hK
    obtain ⟨v367, h367, hl367⟩ := hF.val 4 367 (by kernel_rfl) (by kernel_rfl)
    obtain ⟨s367, rfl⟩ := inL_str hl367
    rw [if_pos (by kernel_rfl)]
    go_simp
    have hz0 := ((Bnd.one [39, 40]).cat (Bnd.tr D M)).size (hl367)
    have hz1 := (Bnd.one [32, 40, 98, 32, 99, 41, 32]).size (InL.one [32, 40, 98, 32, 99, 41, 32])
    try simp only [List.length_cons, List.length_nil] at hz0 hz1
    rw [if_neg (by omega)]
    exact hK _ _ _ rfl hS (Stp.refl _ _ _ _) (InL.cat (hl367) (InL.one [32, 40, 98, 32, 99, 41, 32]))
  case o6 =>
    intro dn a w' _ hS hF K hK
    rw [if_pos (by kernel_rfl)]
    obtain ⟨l, hl⟩ := hS.1.bard
    go_simp
    have hs := Stp.of_below (bb := bb) (names := names) hS.1.size ((Below.refl w'.heap.size w').alloc (Nat.le_refl _) (.cells #[.string ⟨#[35, 116]⟩, .string ⟨#[40, 41]⟩] 9))
    refine hK _ _ _ rfl ⟨hS.1.step hs, hS.2.trans hs⟩ hs ⟨_, rfl, _, ⟨heap_alloc_new w' _, Apart.new hl hS.1.size _⟩, rfl, row_of ⟨word_ok hD hM [35, 116] (by decide +kernel), tree_ok (.l []) [40, 41] rfl rfl (by simp [Tx.dep, Tx.deps] <;> omega) (by simp <;> omega), trivial⟩⟩
  case o7 =>
    intro dn a w' _ hS hF K hK
    have h5 := hF.out 5 (by kernel_rfl) rfl
    rw [if_pos (by kernel_rfl)]
    go_simp
    exact hK _ _ _ rfl hS (Stp.refl _ _ _ _) rfl
  case o8 =>
    intro dn a w' _ hS hF K hK
    obtain ⟨v370, h370, rfl⟩ := hF.val 7 370 (by kernel_rfl) (by kernel_rfl)
    have hc := hS.1.c2
    rw [if_pos (by kernel_rfl)]
    go_simp
    exact hK _ _ _ rfl hS (Stp.refl _ _ _ _) rfl
  case o9 =>
    intro dn a w' _ hS hF K hK
    obtain ⟨v371, h371, rfl⟩ := hF.val 8 371 (by kernel_rfl) (by kernel_rfl)
    rw [if_pos (by kernel_rfl)]
    go_simp
    refine (picked_any y 2 w' hx_y.1 hx_y.2 (by omega) (by omega)).mono ?_
    rintro e w'' ⟨rfl, rfl⟩
    obtain ⟨j, hj, hjl⟩ := pick_nat y 2 (by omega)
    rw [hj]
    exact hK _ _ _ rfl hS (Stp.refl _ _ _ _) ⟨j, rfl, by omega⟩
  case o10 =>
    intro dn a w' _ hS hF K hK
    obtain ⟨v369, h369, b369, rfl, hr369⟩ := hF.val 6 369 (by kernel_rfl) (by kernel_rfl)
    obtain ⟨v372, h372, j372, rfl, hj372⟩ := hF.val 9 372 (by kernel_rfl) (by kernel_rfl)
    have hj' : (j372 : Int) < 2 := by omega
    rw [if_pos (by kernel_rfl)]
    go_simp
    exact hK _ _ _ rfl hS (Stp.refl _ _ _ _) ⟨b369, j372, rfl, by omega, hr369⟩
  case o11 =>
    intro dn a w' _ hS hF K hK
    obtain ⟨v373, h373, b373, j373, rfl, hj373, hr373⟩ := hF.val 10 373 (by kernel_rfl) (by kernel_rfl)
    obtain ⟨u, hc, hu⟩ := hr373.cell hj373
    rw [if_pos (by kernel_rfl)]
    go_simp
    exact hK _ _ _ rfl hS (Stp.refl _ _ _ _) hu
  case o12 =>
    intro dn a w' _ hS hF K hK
    obtain ⟨v368, h368, hl368⟩ := hF.val 5 368 (by kernel_rfl) (by kernel_rfl)
    obtain ⟨s368, rfl⟩ := inL_str hl368
    obtain ⟨v374, h374, hl374⟩ := hF.val 11 374 (by kernel_rfl) (by kernel_rfl)
    obtain ⟨s374, rfl⟩ := inL_str hl374
    rw [if_pos (by kernel_rfl)]
    go_simp
    have hz0 := (((Bnd.one [39, 40]).cat (Bnd.tr D M)).cat (Bnd.one [32, 40, 98, 32, 99, 41, 32])).size (hl368)
    have hz1 := (Bnd.tr D M).size (hl374)
    try simp only [List.length_cons, List.length_nil] at hz0 hz1
    rw [if_neg (by omega)]
    exact hK _ _ _ rfl hS (Stp.refl _ _ _ _) (InL.cat (hl368) (hl374))
  case o13 =>
    intro dn a w' _ hS hF K hK
    obtain ⟨v375, h375, hl375⟩ := hF.val 12 375 (by kernel_rfl) (by kernel_rfl)
    obtain ⟨s375, rfl⟩ := inL_str hl375
    rw [if_pos (by kernel_rfl)]
    go_simp
    have hz0 := ((((Bnd.one [39, 40]).cat (Bnd.tr D M)).cat (Bnd.one [32, 40, 98, 32, 99, 41, 32])).cat (Bnd.tr D M)).size (hl375)
    have hz1 := (Bnd.one [41]).size (InL.one [41])
    try simp only [List.length_cons, List.length_nil] at hz0 hz1
    rw [if_neg (by omega)]
    exact hK _ _ _ rfl hS (Stp.refl _ _ _ _) (InL.cat (hl375) (InL.one [41]))
  case o14 =>
    intro dn a w' _ hS hF K hK
    obtain ⟨v376, h376, hl376⟩ := hF.val 13 376 (by kernel_rfl) (by kernel_rfl)
    obtain ⟨s376, rfl⟩ := inL_str hl376
    rw [if_pos (by kernel_rfl)]
    go_simp
    exact hK _ _ _ rfl hS (Stp.refl _ _ _ _) hl376
  case hend =>
    intro dn w' vs hS hv
    have hv14 : InL (Cat (Cat (Cat (Cat (One [39, 40]) (Tr D M)) (One [32, 40, 98, 32, 99, 41, 32])) (Tr D M)) (One [41])) (vs 14) := hv 14 (by decide)
    clear hv
    simp only [putsL, Nat.reduceAdd, Act.put, List.setIfInBounds_toArray, List.set_cons_zero, List.set_cons_succ]
    generalize vs 14 = vL at hv14 ⊢
    obtain ⟨s, rfl⟩ := inL_str hv14
    go_wp2
    go_ret
    refine ⟨⟨_, rfl, ?_⟩, hS.2⟩
    obtain ⟨_, hl, ⟨_, _, rfl, ⟨_, _, rfl, ⟨_, _, rfl, ⟨_, _, rfl, rfl, ⟨t0, rfl, hok_t0, hdp_t0, hln_t0⟩⟩, rfl⟩, ⟨t1, rfl, hok_t1, hdp_t1, hln_t1⟩⟩, rfl⟩⟩ := hv14
    rw [hl]
    exact tree_ok (.q (.l [t0, .l [.w [98], .w [99]], t1])) _ (by simp [Tx.pr, Tx.prs]) (by simp [Tx.fit, Tx.fits, Tx.isL, hok_t0, hok_t1] <;> decide +kernel) (by simp only [Tx.dep, Tx.deps]; omega) (by simp only [List.length_append, List.length_cons, List.length_nil]; omega)
end Go.Proofs.YtdfmimgjdchafaaGreatDoor
