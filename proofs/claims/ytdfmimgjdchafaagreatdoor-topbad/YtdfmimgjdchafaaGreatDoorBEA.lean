/- The bard's expression, cases 0, 1, 2. -/
import Derived.Test.YtdfmimgjdchafaaGreatDoorBSub
import Derived.Deep.Cut
namespace Go.Proofs.YtdfmimgjdchafaaGreatDoor
set_option maxRecDepth 100000
open Go.RowKit
set_option linter.unusedVariables false
set_option linter.unusedSimpArgs false
set_option maxRecDepth 100000 in
set_option maxHeartbeats 4000000 in
theorem expr_c0 {B bb n D M : Nat} (hD : 2 ≤ D) (hM : 20 ≤ M) (hM2 : M ≤ 1000000) (ih : ExprAt B bb n D M) (hn : n ≤ 900) (w : World) (lv : Value) (names : List ByteArray) (d k x y z : Int) (hd0 : 0 < d) (hd : d ≤ n + 1) (hB : B ≤ w.heap.size) (h : Bard w B bb lv names) (hT : TabB w B) (hN : NamesOk names (999 - n))
    (hx_k : i64B k) (hx_x : i64B x) (hx_y : i64B y) (hx_z : i64B z)
    (HN0 : Calls Tryz.prog 31 #[.pointer (some ⟨bb, 0, none⟩)] ((w.alloc (.cells #[.pointer (some ⟨bb, 0, none⟩)] 59)).alloc (.cells #[.int .i64 d] 3)) fun e w' => e = .returned (.agg #[.int .i64 k, .int .i64 x, .int .i64 y, .int .i64 z]) ∧ Bard w' B bb lv names ∧ Kept bb none ((w.alloc (.cells #[.pointer (some ⟨bb, 0, none⟩)] 59)).alloc (.cells #[.int .i64 d] 3)) w') (he : pick k 20 = 0) :
    Calls Tryz.prog 17 #[.pointer (some ⟨bb, 0, none⟩), .int .i64 d] w fun e w' => (∃ v, e = .returned v ∧ InL (Tr (D + 5) (3 * M + 100)) v) ∧ Stp B bb names names w w' := by
  have hlt := h.lt
  generalize hW1 : (w.alloc (.cells #[.pointer (some ⟨bb, 0, none⟩)] 59)).alloc (.cells #[.int .i64 d] 3) = W1 at HN0
  have hbel1 : Below w.heap.size w W1 := by rw [← hW1]; exact ((Below.refl _ _).alloc (Nat.le_refl _) _).alloc (by simp) _
  have hB1 : Bard W1 B bb lv names := h.keep hB hbel1
  have HN := hid HN0
  clear HN0
  have hsz : W1.heap.size = w.heap.size + 2 := by rw [← hW1]; simp
  have b0 : W1.cell? ⟨w.heap.size, 0, none⟩ = some (.pointer (some ⟨bb, 0, none⟩)) := by rw [← hW1, World.cell?_alloc_past _ _ _ (by simp), World.cell?_alloc_at _ _ _ _ rfl]; rfl
  have b1 : W1.cell? ⟨w.heap.size + 1, 0, none⟩ = some (.int .i64 d) := by rw [← hW1, World.cell?_alloc_at _ _ _ _ (by simp)]; rfl
  have hT1 : TabB W1 B := hT.below (hbel1.mono hB)
  have hmf : ∀ (fn : Fn) (first cap : Array Value) (w : World), (Instr.makeFunc fn first cap).run Tryz.prog w = .ok (.func fn first cap) w := fun _ _ _ _ => rfl
  have HNO := hid hN
  have HIH := hid ih
  have HB := hid h
  clear hN ih
  go_enter Tryz.func17, Tryz.ntmps17
  go_wp2_with fail
  have hcall := HN.out
  go_fit hcall
  clear hcall
  rintro e w1 ⟨rfl, hb1, hK1⟩
  have hz1 := hK1.size
  have b0' := (hK1.cell (p := ⟨w.heap.size, 0, none⟩) (by simp only; omega) (by simp only; omega) (by simp)).trans b0
  have b1' := (hK1.cell (p := ⟨w.heap.size + 1, 0, none⟩) (by simp only; omega) (by simp only; omega) (by simp)).trans b1
  have hT2 : TabB w1 B := hT1.below (hK1.below h.own (fun g hg => by cases hg) (by omega))
  have hq0 : w.heap.size < w1.heap.size := by omega
  have hq1 : w.heap.size + 1 < w1.heap.size := by omega
  go_wp2_with fail
  have hO := h.own
  generalize hW2 : w1.alloc (.cells #[.int .i64 k, .int .i64 x, .int .i64 y, .int .i64 z] 46) = W2
  have hbel2 : Below w1.heap.size w1 W2 := by rw [← hW2]; exact (Below.refl _ _).alloc (Nat.le_refl _) _
  have hS12 : Stp B bb names names w W2 := by
    intro l hl
    obtain rfl := h.det hl
    exact ⟨lv, hb1.keep (by omega) hbel2, ((Kept.of_below hbel1 (Nat.le_refl _)).trans (row := lv.ownBlock) (row' := lv.ownBlock) ⟨hK1.os, hK1.tape, hK1.output, hK1.size, fun k hk h1 _ => hK1.block k hk h1 (by simp)⟩ (fun g hg => Or.inl hg)).trans (row' := none) (Kept.of_below hbel2 (Nat.le_refl _)) (by simp), fun g hg => Or.inl hg⟩
  have hB2 : Bard W2 B bb lv names := hb1.keep (by omega) hbel2
  have hrow := fun g hg => (h.row_ge (g := g) hg).2
  have apt : ∀ b, w.heap.size ≤ b → b < W2.heap.size → Apart B bb b W2 := fun b h1 h2 => ⟨h2, by omega, fun l _ k e => by
    obtain rfl := hB2.det k
    have := hrow b e
    omega⟩
  have hz2 : w1.heap.size < W2.heap.size := by rw [← hW2]; simp
  have D0 : Hid (Desk W2 B bb names w.heap.size w1.heap.size d k x y z) := hid
    ⟨⟨lv, hB2⟩, hT2.below (hbel2.mono (by omega)), (hbel2.cell (p := ⟨w.heap.size, 0, none⟩) hq0).trans b0', (hbel2.cell (p := ⟨w.heap.size + 1, 0, none⟩) hq1).trans b1',
      by rw [← hW2, World.cell?_alloc_at _ _ _ _ rfl]; rfl, by rw [← hW2, World.cell?_alloc_at _ _ _ _ rfl]; rfl, by rw [← hW2, World.cell?_alloc_at _ _ _ _ rfl]; rfl, by rw [← hW2, World.cell?_alloc_at _ _ _ _ rfl]; rfl,
      apt _ (by omega) (by omega), apt _ (by omega) (by omega), apt _ (by omega) (by omega), by omega⟩
  have S0 := hid hS12
  have d0 := D0.out.c0
  have d1 := D0.out.c1
  have HP := hid (he ▸ picked_any k 20 W2 hx_k.1 hx_k.2 (by omega) (by omega))
  clear hW1 hW2 HN b0 b1 b0' b1' hT hT1 hT2 hb1 hK1 hbel1 hbel2 hB1 hB2 apt hrow hS12 hq0 hq1 hz1 hsz hlt hz2 he hO
  generalize w.heap.size = p at *
  generalize w1.heap.size = q at *
  have hcall := HP.out
  go_fit hcall
  clear hcall HP
  rintro e w3 ⟨rfl, rfl⟩
  have hU := fun (names : List ByteArray) (w' : World) (hd' : Desk w' B bb names p q d k x y z) (hN' : NamesOk names (1000 - n)) => sub_any HIH.out hd' hd0 hd (by omega) hN'
  have hE := fun (names : List ByteArray) (w' : World) (hd' : Desk w' B bb names p q d k x y z) (hN' : NamesOk names (1000 - n)) => expr_at HIH.out hd' hd0 hd hN'
  have HNO2 : Hid (NamesOk names (1000 - n)) := hid ⟨HNO.out.pos, Nat.le_trans HNO.out.len (by omega), HNO.out.ok⟩
  have hN := HNO.out
  clear hE
  go_upto_region 8 with fail
  refine wp_region_invA (fun _ w' => Desk w' B bb names p q d k x y z ∧ Stp B bb names names w w') (fun _ => Stp B bb names names) (fun i v w' => match i with
    | 0 => ∃ b, v = .slice (some ⟨b, 0, none⟩) 7 7 ∧ RowT B bb b 7 D M w'
    | 1 => v = .pointer (some ⟨q, 1, none⟩)
    | 2 => v = .int .i64 x
    | 3 => ∃ j : Nat, v = .int .i64 j ∧ j < 7
    | 4 => ∃ b j, v = .pointer (some ⟨b, j, none⟩) ∧ j < 7 ∧ RowT B bb b 7 D M w'
    | 5 => InL (Tr D M) v
    | 6 => InL (Cat (One [40]) (Tr D M)) v
    | 7 => InL (Cat (Cat (One [40]) (Tr D M)) (One [32])) v
    | 8 => v = .func (.func 33) #[] #[.pointer (some ⟨p, 0, none⟩), .pointer (some ⟨p + 1, 0, none⟩)]
    | 9 => InL (Tr D M) v
    | 10 => InL (Cat (Cat (Cat (One [40]) (Tr D M)) (One [32])) (Tr D M)) v
    | 11 => InL (Cat (Cat (Cat (Cat (One [40]) (Tr D M)) (One [32])) (Tr D M)) (One [32])) v
    | 12 => v = .func (.func 33) #[] #[.pointer (some ⟨p, 0, none⟩), .pointer (some ⟨p + 1, 0, none⟩)]
    | 13 => InL (Tr D M) v
    | 14 => InL (Cat (Cat (Cat (Cat (Cat (One [40]) (Tr D M)) (One [32])) (Tr D M)) (One [32])) (Tr D M)) v
    | 15 => InL (Cat (Cat (Cat (Cat (Cat (Cat (One [40]) (Tr D M)) (One [32])) (Tr D M)) (One [32])) (Tr D M)) (One [41])) v
    | 16 => InL (Cat (Cat (Cat (Cat (Cat (Cat (One [40]) (Tr D M)) (One [32])) (Tr D M)) (One [32])) (Tr D M)) (One [41])) v
    | _ => True) (by kernel_rfl) (by kernel_rfl) ?hst ?hmono ⟨?o0, ?o1, ?o2, ?o3, ?o4, ?o5, ?o6, ?o7, ?o8, ?o9, ?o10, ?o11, ?o12, ?o13, ?o14, ?o15, ?o16, trivial⟩ ?hend
  case hst => exact ⟨D0.out.step (Stp.of_below D0.out.size (drewN_below _ 1)), S0.out.trans (Stp.of_below D0.out.size (drewN_below _ 1))⟩
  case hmono =>
    intro i j v w1 w2 _ _ _ _ ⟨_, hS⟩ hv hR
    obtain ⟨l, hl⟩ := hS.1.bard
    rcases i with _ | _ | _ | _ | _ | _ | _ | _ | _ | _ | _ | _ | _ | _ | _ | _ | _ | i
    all_goals first | exact hv | (obtain ⟨b, h1, h2⟩ := hv; exact ⟨b, h1, h2.step hR hl⟩) | (obtain ⟨b, j, h1, h2, h3⟩ := hv; exact ⟨b, j, h1, h2, h3.step hR hl⟩)
  case o0 =>
    intro dn a w' _ hS hF K hK
    rw [if_pos (by kernel_rfl)]
    obtain ⟨l, hl⟩ := hS.1.bard
    go_simp
    have hs := Stp.of_below (bb := bb) (names := names) hS.1.size ((Below.refl w'.heap.size w').alloc (Nat.le_refl _) (.cells #[.string ⟨#[43]⟩, .string ⟨#[45]⟩, .string ⟨#[42]⟩, .string ⟨#[113, 117, 111, 116, 105, 101, 110, 116]⟩, .string ⟨#[61]⟩, .string ⟨#[60]⟩, .string ⟨#[114, 101, 109, 97, 105, 110, 100, 101, 114]⟩] 9))
    refine hK _ _ _ rfl ⟨hS.1.step hs, hS.2.trans hs⟩ hs ⟨_, rfl, _, ⟨heap_alloc_new w' _, Apart.new hl hS.1.size _⟩, rfl, row_of ⟨word_ok hD hM [43] (by decide +kernel), word_ok hD hM [45] (by decide +kernel), word_ok hD hM [42] (by decide +kernel), word_ok hD hM [113, 117, 111, 116, 105, 101, 110, 116] (by decide +kernel), word_ok hD hM [61] (by decide +kernel), word_ok hD hM [60] (by decide +kernel), word_ok hD hM [114, 101, 109, 97, 105, 110, 100, 101, 114] (by decide +kernel), trivial⟩⟩
  case o1 =>
    intro dn a w' _ hS hF K hK
    have h5 := hF.out 5 (by kernel_rfl) rfl
    rw [if_pos (by kernel_rfl)]
    go_simp
    exact hK _ _ _ rfl hS (Stp.refl _ _ _ _) rfl
  case o2 =>
    intro dn a w' _ hS hF K hK
    obtain ⟨v40, h40, rfl⟩ := hF.val 1 40 (by kernel_rfl) (by kernel_rfl)
    have hc := hS.1.c1
    rw [if_pos (by kernel_rfl)]
    go_simp
    exact hK _ _ _ rfl hS (Stp.refl _ _ _ _) rfl
  case o3 =>
    intro dn a w' _ hS hF K hK
    obtain ⟨v41, h41, rfl⟩ := hF.val 2 41 (by kernel_rfl) (by kernel_rfl)
    rw [if_pos (by kernel_rfl)]
    go_simp
    refine (picked_any x 7 w' hx_x.1 hx_x.2 (by omega) (by omega)).mono ?_
    rintro e w'' ⟨rfl, rfl⟩
    obtain ⟨j, hj, hjl⟩ := pick_nat x 7 (by omega)
    rw [hj]
    exact hK _ _ _ rfl hS (Stp.refl _ _ _ _) ⟨j, rfl, by omega⟩
  case o4 =>
    intro dn a w' _ hS hF K hK
    obtain ⟨v39, h39, b39, rfl, hr39⟩ := hF.val 0 39 (by kernel_rfl) (by kernel_rfl)
    obtain ⟨v42, h42, j42, rfl, hj42⟩ := hF.val 3 42 (by kernel_rfl) (by kernel_rfl)
    have hj' : (j42 : Int) < 7 := by omega
    rw [if_pos (by kernel_rfl)]
    go_simp
    exact hK _ _ _ rfl hS (Stp.refl _ _ _ _) ⟨b39, j42, rfl, by omega, hr39⟩
  case o5 =>
    intro dn a w' _ hS hF K hK
    obtain ⟨v43, h43, b43, j43, rfl, hj43, hr43⟩ := hF.val 4 43 (by kernel_rfl) (by kernel_rfl)
    obtain ⟨u, hc, hu⟩ := hr43.cell hj43
    rw [if_pos (by kernel_rfl)]
    go_simp
    exact hK _ _ _ rfl hS (Stp.refl _ _ _ _) hu
  case o6 =>
    intro dn a w' _ hS hF K hK
    obtain ⟨v44, h44, hl44⟩ := hF.val 5 44 (by kernel_rfl) (by kernel_rfl)
    obtain ⟨s44, rfl⟩ := inL_str hl44
    rw [if_pos (by kernel_rfl)]
    go_simp
    have hz0 := (Bnd.one [40]).size (InL.one [40])
    have hz1 := (Bnd.tr D M).size (hl44)
    try simp only [List.length_cons, List.length_nil] at hz0 hz1
    rw [if_neg (by omega)]
    exact hK _ _ _ rfl hS (Stp.refl _ _ _ _) (InL.cat (InL.one [40]) (hl44))
  case o7 =>
    intro dn a w' _ hS hF K hK
    obtain ⟨v45, h45, hl45⟩ := hF.val 6 45 (by kernel_rfl) (by kernel_rfl)
    obtain ⟨s45, rfl⟩ := inL_str hl45
    rw [if_pos (by kernel_rfl)]
    go_simp
    have hz0 := ((Bnd.one [40]).cat (Bnd.tr D M)).size (hl45)
    have hz1 := (Bnd.one [32]).size (InL.one [32])
    try simp only [List.length_cons, List.length_nil] at hz0 hz1
    rw [if_neg (by omega)]
    exact hK _ _ _ rfl hS (Stp.refl _ _ _ _) (InL.cat (hl45) (InL.one [32]))
  case o8 =>
    intro dn a w' _ hS hF K hK
    have h6 := hF.out 6 (by kernel_rfl) rfl
    rw [if_pos (by kernel_rfl)]
    go_simp
    exact hK _ _ _ rfl hS (Stp.refl _ _ _ _) rfl
  case o9 =>
    intro dn a w' _ hS hF K hK
    obtain ⟨v47, h47, rfl⟩ := hF.val 8 47 (by kernel_rfl) (by kernel_rfl)
    rw [if_pos (by kernel_rfl)]
    go_simp
    refine (hU names w' hS.1 HNO2.out).mono ?_
    rintro e w'' ⟨⟨v, rfl, hv⟩, hs⟩
    exact hK _ _ _ rfl ⟨hS.1.step hs, hS.2.trans hs⟩ hs hv
  case o10 =>
    intro dn a w' _ hS hF K hK
    obtain ⟨v46, h46, hl46⟩ := hF.val 7 46 (by kernel_rfl) (by kernel_rfl)
    obtain ⟨s46, rfl⟩ := inL_str hl46
    obtain ⟨v48, h48, hl48⟩ := hF.val 9 48 (by kernel_rfl) (by kernel_rfl)
    obtain ⟨s48, rfl⟩ := inL_str hl48
    rw [if_pos (by kernel_rfl)]
    go_simp
    have hz0 := (((Bnd.one [40]).cat (Bnd.tr D M)).cat (Bnd.one [32])).size (hl46)
    have hz1 := (Bnd.tr D M).size (hl48)
    try simp only [List.length_cons, List.length_nil] at hz0 hz1
    rw [if_neg (by omega)]
    exact hK _ _ _ rfl hS (Stp.refl _ _ _ _) (InL.cat (hl46) (hl48))
  case o11 =>
    intro dn a w' _ hS hF K hK
    obtain ⟨v49, h49, hl49⟩ := hF.val 10 49 (by kernel_rfl) (by kernel_rfl)
    obtain ⟨s49, rfl⟩ := inL_str hl49
    rw [if_pos (by kernel_rfl)]
    go_simp
    have hz0 := ((((Bnd.one [40]).cat (Bnd.tr D M)).cat (Bnd.one [32])).cat (Bnd.tr D M)).size (hl49)
    have hz1 := (Bnd.one [32]).size (InL.one [32])
    try simp only [List.length_cons, List.length_nil] at hz0 hz1
    rw [if_neg (by omega)]
    exact hK _ _ _ rfl hS (Stp.refl _ _ _ _) (InL.cat (hl49) (InL.one [32]))
  case o12 =>
    intro dn a w' _ hS hF K hK
    have h6 := hF.out 6 (by kernel_rfl) rfl
    rw [if_pos (by kernel_rfl)]
    go_simp
    exact hK _ _ _ rfl hS (Stp.refl _ _ _ _) rfl
  case o13 =>
    intro dn a w' _ hS hF K hK
    obtain ⟨v51, h51, rfl⟩ := hF.val 12 51 (by kernel_rfl) (by kernel_rfl)
    rw [if_pos (by kernel_rfl)]
    go_simp
    refine (hU names w' hS.1 HNO2.out).mono ?_
    rintro e w'' ⟨⟨v, rfl, hv⟩, hs⟩
    exact hK _ _ _ rfl ⟨hS.1.step hs, hS.2.trans hs⟩ hs hv
  case o14 =>
    intro dn a w' _ hS hF K hK
    obtain ⟨v50, h50, hl50⟩ := hF.val 11 50 (by kernel_rfl) (by kernel_rfl)
    obtain ⟨s50, rfl⟩ := inL_str hl50
    obtain ⟨v52, h52, hl52⟩ := hF.val 13 52 (by kernel_rfl) (by kernel_rfl)
    obtain ⟨s52, rfl⟩ := inL_str hl52
    rw [if_pos (by kernel_rfl)]
    go_simp
    have hz0 := (((((Bnd.one [40]).cat (Bnd.tr D M)).cat (Bnd.one [32])).cat (Bnd.tr D M)).cat (Bnd.one [32])).size (hl50)
    have hz1 := (Bnd.tr D M).size (hl52)
    try simp only [List.length_cons, List.length_nil] at hz0 hz1
    rw [if_neg (by omega)]
    exact hK _ _ _ rfl hS (Stp.refl _ _ _ _) (InL.cat (hl50) (hl52))
  case o15 =>
    intro dn a w' _ hS hF K hK
    obtain ⟨v53, h53, hl53⟩ := hF.val 14 53 (by kernel_rfl) (by kernel_rfl)
    obtain ⟨s53, rfl⟩ := inL_str hl53
    rw [if_pos (by kernel_rfl)]
    go_simp
    have hz0 := ((((((Bnd.one [40]).cat (Bnd.tr D M)).cat (Bnd.one [32])).cat (Bnd.tr D M)).cat (Bnd.one [32])).cat (Bnd.tr D M)).size (hl53)
    have hz1 := (Bnd.one [41]).size (InL.one [41])
    try simp only [List.length_cons, List.length_nil] at hz0 hz1
    rw [if_neg (by omega)]
    exact hK _ _ _ rfl hS (Stp.refl _ _ _ _) (InL.cat (hl53) (InL.one [41]))
  case o16 =>
    intro dn a w' _ hS hF K hK
    obtain ⟨v54, h54, hl54⟩ := hF.val 15 54 (by kernel_rfl) (by kernel_rfl)
    obtain ⟨s54, rfl⟩ := inL_str hl54
    rw [if_pos (by kernel_rfl)]
    go_simp
    exact hK _ _ _ rfl hS (Stp.refl _ _ _ _) hl54
  case hend =>
    intro dn w' vs hS hv
    have hv16 : InL (Cat (Cat (Cat (Cat (Cat (Cat (One [40]) (Tr D M)) (One [32])) (Tr D M)) (One [32])) (Tr D M)) (One [41])) (vs 16) := hv 16 (by decide)
    clear hv
    simp only [putsL, Nat.reduceAdd, Act.put, List.setIfInBounds_toArray, List.set_cons_zero, List.set_cons_succ]
    generalize vs 16 = vL at hv16 ⊢
    obtain ⟨s, rfl⟩ := inL_str hv16
    go_wp2
    go_ret
    refine ⟨⟨_, rfl, ?_⟩, hS.2⟩
    obtain ⟨_, hl, ⟨_, _, rfl, ⟨_, _, rfl, ⟨_, _, rfl, ⟨_, _, rfl, ⟨_, _, rfl, ⟨_, _, rfl, rfl, ⟨t0, rfl, hok_t0, hdp_t0, hln_t0⟩⟩, rfl⟩, ⟨t1, rfl, hok_t1, hdp_t1, hln_t1⟩⟩, rfl⟩, ⟨t2, rfl, hok_t2, hdp_t2, hln_t2⟩⟩, rfl⟩⟩ := hv16
    rw [hl]
    exact tree_ok (.l [t0, t1, t2]) _ (by simp [Tx.pr, Tx.prs]) (by simp [Tx.fit, Tx.fits, Tx.isL, hok_t0, hok_t1, hok_t2] <;> decide +kernel) (by simp only [Tx.dep, Tx.deps]; omega) (by simp only [List.length_append, List.length_cons, List.length_nil]; omega)
set_option maxRecDepth 100000 in
set_option maxHeartbeats 4000000 in
theorem expr_c1 {B bb n D M : Nat} (hD : 2 ≤ D) (hM : 20 ≤ M) (hM2 : M ≤ 1000000) (ih : ExprAt B bb n D M) (hn : n ≤ 900) (w : World) (lv : Value) (names : List ByteArray) (d k x y z : Int) (hd0 : 0 < d) (hd : d ≤ n + 1) (hB : B ≤ w.heap.size) (h : Bard w B bb lv names) (hT : TabB w B) (hN : NamesOk names (999 - n))
    (hx_k : i64B k) (hx_x : i64B x) (hx_y : i64B y) (hx_z : i64B z)
    (HN0 : Calls Tryz.prog 31 #[.pointer (some ⟨bb, 0, none⟩)] ((w.alloc (.cells #[.pointer (some ⟨bb, 0, none⟩)] 59)).alloc (.cells #[.int .i64 d] 3)) fun e w' => e = .returned (.agg #[.int .i64 k, .int .i64 x, .int .i64 y, .int .i64 z]) ∧ Bard w' B bb lv names ∧ Kept bb none ((w.alloc (.cells #[.pointer (some ⟨bb, 0, none⟩)] 59)).alloc (.cells #[.int .i64 d] 3)) w') (he : pick k 20 = 1) :
    Calls Tryz.prog 17 #[.pointer (some ⟨bb, 0, none⟩), .int .i64 d] w fun e w' => (∃ v, e = .returned v ∧ InL (Tr (D + 5) (3 * M + 100)) v) ∧ Stp B bb names names w w' := by
  have hlt := h.lt
  generalize hW1 : (w.alloc (.cells #[.pointer (some ⟨bb, 0, none⟩)] 59)).alloc (.cells #[.int .i64 d] 3) = W1 at HN0
  have hbel1 : Below w.heap.size w W1 := by rw [← hW1]; exact ((Below.refl _ _).alloc (Nat.le_refl _) _).alloc (by simp) _
  have hB1 : Bard W1 B bb lv names := h.keep hB hbel1
  have HN := hid HN0
  clear HN0
  have hsz : W1.heap.size = w.heap.size + 2 := by rw [← hW1]; simp
  have b0 : W1.cell? ⟨w.heap.size, 0, none⟩ = some (.pointer (some ⟨bb, 0, none⟩)) := by rw [← hW1, World.cell?_alloc_past _ _ _ (by simp), World.cell?_alloc_at _ _ _ _ rfl]; rfl
  have b1 : W1.cell? ⟨w.heap.size + 1, 0, none⟩ = some (.int .i64 d) := by rw [← hW1, World.cell?_alloc_at _ _ _ _ (by simp)]; rfl
  have hT1 : TabB W1 B := hT.below (hbel1.mono hB)
  have hmf : ∀ (fn : Fn) (first cap : Array Value) (w : World), (Instr.makeFunc fn first cap).run Tryz.prog w = .ok (.func fn first cap) w := fun _ _ _ _ => rfl
  have HNO := hid hN
  have HIH := hid ih
  have HB := hid h
  clear hN ih
  go_enter Tryz.func17, Tryz.ntmps17
  go_wp2_with fail
  have hcall := HN.out
  go_fit hcall
  clear hcall
  rintro e w1 ⟨rfl, hb1, hK1⟩
  have hz1 := hK1.size
  have b0' := (hK1.cell (p := ⟨w.heap.size, 0, none⟩) (by simp only; omega) (by simp only; omega) (by simp)).trans b0
  have b1' := (hK1.cell (p := ⟨w.heap.size + 1, 0, none⟩) (by simp only; omega) (by simp only; omega) (by simp)).trans b1
  have hT2 : TabB w1 B := hT1.below (hK1.below h.own (fun g hg => by cases hg) (by omega))
  have hq0 : w.heap.size < w1.heap.size := by omega
  have hq1 : w.heap.size + 1 < w1.heap.size := by omega
  go_wp2_with fail
  have hO := h.own
  generalize hW2 : w1.alloc (.cells #[.int .i64 k, .int .i64 x, .int .i64 y, .int .i64 z] 46) = W2
  have hbel2 : Below w1.heap.size w1 W2 := by rw [← hW2]; exact (Below.refl _ _).alloc (Nat.le_refl _) _
  have hS12 : Stp B bb names names w W2 := by
    intro l hl
    obtain rfl := h.det hl
    exact ⟨lv, hb1.keep (by omega) hbel2, ((Kept.of_below hbel1 (Nat.le_refl _)).trans (row := lv.ownBlock) (row' := lv.ownBlock) ⟨hK1.os, hK1.tape, hK1.output, hK1.size, fun k hk h1 _ => hK1.block k hk h1 (by simp)⟩ (fun g hg => Or.inl hg)).trans (row' := none) (Kept.of_below hbel2 (Nat.le_refl _)) (by simp), fun g hg => Or.inl hg⟩
  have hB2 : Bard W2 B bb lv names := hb1.keep (by omega) hbel2
  have hrow := fun g hg => (h.row_ge (g := g) hg).2
  have apt : ∀ b, w.heap.size ≤ b → b < W2.heap.size → Apart B bb b W2 := fun b h1 h2 => ⟨h2, by omega, fun l _ k e => by
    obtain rfl := hB2.det k
    have := hrow b e
    omega⟩
  have hz2 : w1.heap.size < W2.heap.size := by rw [← hW2]; simp
  have D0 : Hid (Desk W2 B bb names w.heap.size w1.heap.size d k x y z) := hid
    ⟨⟨lv, hB2⟩, hT2.below (hbel2.mono (by omega)), (hbel2.cell (p := ⟨w.heap.size, 0, none⟩) hq0).trans b0', (hbel2.cell (p := ⟨w.heap.size + 1, 0, none⟩) hq1).trans b1',
      by rw [← hW2, World.cell?_alloc_at _ _ _ _ rfl]; rfl, by rw [← hW2, World.cell?_alloc_at _ _ _ _ rfl]; rfl, by rw [← hW2, World.cell?_alloc_at _ _ _ _ rfl]; rfl, by rw [← hW2, World.cell?_alloc_at _ _ _ _ rfl]; rfl,
      apt _ (by omega) (by omega), apt _ (by omega) (by omega), apt _ (by omega) (by omega), by omega⟩
  have S0 := hid hS12
  have d0 := D0.out.c0
  have d1 := D0.out.c1
  have HP := hid (he ▸ picked_any k 20 W2 hx_k.1 hx_k.2 (by omega) (by omega))
  clear hW1 hW2 HN b0 b1 b0' b1' hT hT1 hT2 hb1 hK1 hbel1 hbel2 hB1 hB2 apt hrow hS12 hq0 hq1 hz1 hsz hlt hz2 he hO
  generalize w.heap.size = p at *
  generalize w1.heap.size = q at *
  have hcall := HP.out
  go_fit hcall
  clear hcall HP
  rintro e w3 ⟨rfl, rfl⟩
  have hU := fun (names : List ByteArray) (w' : World) (hd' : Desk w' B bb names p q d k x y z) (hN' : NamesOk names (1000 - n)) => sub_any HIH.out hd' hd0 hd (by omega) hN'
  have hE := fun (names : List ByteArray) (w' : World) (hd' : Desk w' B bb names p q d k x y z) (hN' : NamesOk names (1000 - n)) => expr_at HIH.out hd' hd0 hd hN'
  have HNO2 : Hid (NamesOk names (1000 - n)) := hid ⟨HNO.out.pos, Nat.le_trans HNO.out.len (by omega), HNO.out.ok⟩
  have hN := HNO.out
  clear hE
  go_upto_region 8 with fail
  refine wp_region_invA (fun _ w' => Desk w' B bb names p q d k x y z ∧ Stp B bb names names w w') (fun _ => Stp B bb names names) (fun i v w' => match i with
    | 0 => ∃ b, v = .slice (some ⟨b, 0, none⟩) 7 7 ∧ RowT B bb b 7 D M w'
    | 1 => v = .pointer (some ⟨q, 1, none⟩)
    | 2 => v = .int .i64 x
    | 3 => ∃ j : Nat, v = .int .i64 j ∧ j < 7
    | 4 => ∃ b j, v = .pointer (some ⟨b, j, none⟩) ∧ j < 7 ∧ RowT B bb b 7 D M w'
    | 5 => InL (Tr D M) v
    | 6 => InL (Cat (One [40]) (Tr D M)) v
    | 7 => InL (Cat (Cat (One [40]) (Tr D M)) (One [32])) v
    | 8 => v = .func (.func 33) #[] #[.pointer (some ⟨p, 0, none⟩), .pointer (some ⟨p + 1, 0, none⟩)]
    | 9 => InL (Tr D M) v
    | 10 => InL (Cat (Cat (Cat (One [40]) (Tr D M)) (One [32])) (Tr D M)) v
    | 11 => InL (Cat (Cat (Cat (Cat (One [40]) (Tr D M)) (One [32])) (Tr D M)) (One [32])) v
    | 12 => v = .func (.func 33) #[] #[.pointer (some ⟨p, 0, none⟩), .pointer (some ⟨p + 1, 0, none⟩)]
    | 13 => InL (Tr D M) v
    | 14 => InL (Cat (Cat (Cat (Cat (Cat (One [40]) (Tr D M)) (One [32])) (Tr D M)) (One [32])) (Tr D M)) v
    | 15 => InL (Cat (Cat (Cat (Cat (Cat (Cat (One [40]) (Tr D M)) (One [32])) (Tr D M)) (One [32])) (Tr D M)) (One [41])) v
    | 16 => InL (Cat (Cat (Cat (Cat (Cat (Cat (One [40]) (Tr D M)) (One [32])) (Tr D M)) (One [32])) (Tr D M)) (One [41])) v
    | _ => True) (by kernel_rfl) (by kernel_rfl) ?hst ?hmono ⟨?o0, ?o1, ?o2, ?o3, ?o4, ?o5, ?o6, ?o7, ?o8, ?o9, ?o10, ?o11, ?o12, ?o13, ?o14, ?o15, ?o16, trivial⟩ ?hend
  case hst => exact ⟨D0.out.step (Stp.of_below D0.out.size (drewN_below _ 1)), S0.out.trans (Stp.of_below D0.out.size (drewN_below _ 1))⟩
  case hmono =>
    intro i j v w1 w2 _ _ _ _ ⟨_, hS⟩ hv hR
    obtain ⟨l, hl⟩ := hS.1.bard
    rcases i with _ | _ | _ | _ | _ | _ | _ | _ | _ | _ | _ | _ | _ | _ | _ | _ | _ | i
    all_goals first | exact hv | (obtain ⟨b, h1, h2⟩ := hv; exact ⟨b, h1, h2.step hR hl⟩) | (obtain ⟨b, j, h1, h2, h3⟩ := hv; exact ⟨b, j, h1, h2, h3.step hR hl⟩)
  case o0 =>
    intro dn a w' _ hS hF K hK
    rw [if_pos (by kernel_rfl)]
    obtain ⟨l, hl⟩ := hS.1.bard
    go_simp
    have hs := Stp.of_below (bb := bb) (names := names) hS.1.size ((Below.refl w'.heap.size w').alloc (Nat.le_refl _) (.cells #[.string ⟨#[43]⟩, .string ⟨#[45]⟩, .string ⟨#[42]⟩, .string ⟨#[113, 117, 111, 116, 105, 101, 110, 116]⟩, .string ⟨#[61]⟩, .string ⟨#[60]⟩, .string ⟨#[114, 101, 109, 97, 105, 110, 100, 101, 114]⟩] 9))
    refine hK _ _ _ rfl ⟨hS.1.step hs, hS.2.trans hs⟩ hs ⟨_, rfl, _, ⟨heap_alloc_new w' _, Apart.new hl hS.1.size _⟩, rfl, row_of ⟨word_ok hD hM [43] (by decide +kernel), word_ok hD hM [45] (by decide +kernel), word_ok hD hM [42] (by decide +kernel), word_ok hD hM [113, 117, 111, 116, 105, 101, 110, 116] (by decide +kernel), word_ok hD hM [61] (by decide +kernel), word_ok hD hM [60] (by decide +kernel), word_ok hD hM [114, 101, 109, 97, 105, 110, 100, 101, 114] (by decide +kernel), trivial⟩⟩
  case o1 =>
    intro dn a w' _ hS hF K hK
    have h5 := hF.out 5 (by kernel_rfl) rfl
    rw [if_pos (by kernel_rfl)]
    go_simp
    exact hK _ _ _ rfl hS (Stp.refl _ _ _ _) rfl
  case o2 =>
    intro dn a w' _ hS hF K hK
    obtain ⟨v40, h40, rfl⟩ := hF.val 1 40 (by kernel_rfl) (by kernel_rfl)
    have hc := hS.1.c1
    rw [if_pos (by kernel_rfl)]
    go_simp
    exact hK _ _ _ rfl hS (Stp.refl _ _ _ _) rfl
  case o3 =>
    intro dn a w' _ hS hF K hK
    obtain ⟨v41, h41, rfl⟩ := hF.val 2 41 (by kernel_rfl) (by kernel_rfl)
    rw [if_pos (by kernel_rfl)]
    go_simp
    refine (picked_any x 7 w' hx_x.1 hx_x.2 (by omega) (by omega)).mono ?_
    rintro e w'' ⟨rfl, rfl⟩
    obtain ⟨j, hj, hjl⟩ := pick_nat x 7 (by omega)
    rw [hj]
    exact hK _ _ _ rfl hS (Stp.refl _ _ _ _) ⟨j, rfl, by omega⟩
  case o4 =>
    intro dn a w' _ hS hF K hK
    obtain ⟨v39, h39, b39, rfl, hr39⟩ := hF.val 0 39 (by kernel_rfl) (by kernel_rfl)
    obtain ⟨v42, h42, j42, rfl, hj42⟩ := hF.val 3 42 (by kernel_rfl) (by kernel_rfl)
    have hj' : (j42 : Int) < 7 := by omega
    rw [if_pos (by kernel_rfl)]
    go_simp
    exact hK _ _ _ rfl hS (Stp.refl _ _ _ _) ⟨b39, j42, rfl, by omega, hr39⟩
  case o5 =>
    intro dn a w' _ hS hF K hK
    obtain ⟨v43, h43, b43, j43, rfl, hj43, hr43⟩ := hF.val 4 43 (by kernel_rfl) (by kernel_rfl)
    obtain ⟨u, hc, hu⟩ := hr43.cell hj43
    rw [if_pos (by kernel_rfl)]
    go_simp
    exact hK _ _ _ rfl hS (Stp.refl _ _ _ _) hu
  case o6 =>
    intro dn a w' _ hS hF K hK
    obtain ⟨v44, h44, hl44⟩ := hF.val 5 44 (by kernel_rfl) (by kernel_rfl)
    obtain ⟨s44, rfl⟩ := inL_str hl44
    rw [if_pos (by kernel_rfl)]
    go_simp
    have hz0 := (Bnd.one [40]).size (InL.one [40])
    have hz1 := (Bnd.tr D M).size (hl44)
    try simp only [List.length_cons, List.length_nil] at hz0 hz1
    rw [if_neg (by omega)]
    exact hK _ _ _ rfl hS (Stp.refl _ _ _ _) (InL.cat (InL.one [40]) (hl44))
  case o7 =>
    intro dn a w' _ hS hF K hK
    obtain ⟨v45, h45, hl45⟩ := hF.val 6 45 (by kernel_rfl) (by kernel_rfl)
    obtain ⟨s45, rfl⟩ := inL_str hl45
    rw [if_pos (by kernel_rfl)]
    go_simp
    have hz0 := ((Bnd.one [40]).cat (Bnd.tr D M)).size (hl45)
    have hz1 := (Bnd.one [32]).size (InL.one [32])
    try simp only [List.length_cons, List.length_nil] at hz0 hz1
    rw [if_neg (by omega)]
    exact hK _ _ _ rfl hS (Stp.refl _ _ _ _) (InL.cat (hl45) (InL.one [32]))
  case o8 =>
    intro dn a w' _ hS hF K hK
    have h6 := hF.out 6 (by kernel_rfl) rfl
    rw [if_pos (by kernel_rfl)]
    go_simp
    exact hK _ _ _ rfl hS (Stp.refl _ _ _ _) rfl
  case o9 =>
    intro dn a w' _ hS hF K hK
    obtain ⟨v47, h47, rfl⟩ := hF.val 8 47 (by kernel_rfl) (by kernel_rfl)
    rw [if_pos (by kernel_rfl)]
    go_simp
    refine (hU names w' hS.1 HNO2.out).mono ?_
    rintro e w'' ⟨⟨v, rfl, hv⟩, hs⟩
    exact hK _ _ _ rfl ⟨hS.1.step hs, hS.2.trans hs⟩ hs hv
  case o10 =>
    intro dn a w' _ hS hF K hK
    obtain ⟨v46, h46, hl46⟩ := hF.val 7 46 (by kernel_rfl) (by kernel_rfl)
    obtain ⟨s46, rfl⟩ := inL_str hl46
    obtain ⟨v48, h48, hl48⟩ := hF.val 9 48 (by kernel_rfl) (by kernel_rfl)
    obtain ⟨s48, rfl⟩ := inL_str hl48
    rw [if_pos (by kernel_rfl)]
    go_simp
    have hz0 := (((Bnd.one [40]).cat (Bnd.tr D M)).cat (Bnd.one [32])).size (hl46)
    have hz1 := (Bnd.tr D M).size (hl48)
    try simp only [List.length_cons, List.length_nil] at hz0 hz1
    rw [if_neg (by omega)]
    exact hK _ _ _ rfl hS (Stp.refl _ _ _ _) (InL.cat (hl46) (hl48))
  case o11 =>
    intro dn a w' _ hS hF K hK
    obtain ⟨v49, h49, hl49⟩ := hF.val 10 49 (by kernel_rfl) (by kernel_rfl)
    obtain ⟨s49, rfl⟩ := inL_str hl49
    rw [if_pos (by kernel_rfl)]
    go_simp
    have hz0 := ((((Bnd.one [40]).cat (Bnd.tr D M)).cat (Bnd.one [32])).cat (Bnd.tr D M)).size (hl49)
    have hz1 := (Bnd.one [32]).size (InL.one [32])
    try simp only [List.length_cons, List.length_nil] at hz0 hz1
    rw [if_neg (by omega)]
    exact hK _ _ _ rfl hS (Stp.refl _ _ _ _) (InL.cat (hl49) (InL.one [32]))
  case o12 =>
    intro dn a w' _ hS hF K hK
    have h6 := hF.out 6 (by kernel_rfl) rfl
    rw [if_pos (by kernel_rfl)]
    go_simp
    exact hK _ _ _ rfl hS (Stp.refl _ _ _ _) rfl
  case o13 =>
    intro dn a w' _ hS hF K hK
    obtain ⟨v51, h51, rfl⟩ := hF.val 12 51 (by kernel_rfl) (by kernel_rfl)
    rw [if_pos (by kernel_rfl)]
    go_simp
    refine (hU names w' hS.1 HNO2.out).mono ?_
    rintro e w'' ⟨⟨v, rfl, hv⟩, hs⟩
    exact hK _ _ _ rfl ⟨hS.1.step hs, hS.2.trans hs⟩ hs hv
  case o14 =>
    intro dn a w' _ hS hF K hK
    obtain ⟨v50, h50, hl50⟩ := hF.val 11 50 (by kernel_rfl) (by kernel_rfl)
    obtain ⟨s50, rfl⟩ := inL_str hl50
    obtain ⟨v52, h52, hl52⟩ := hF.val 13 52 (by kernel_rfl) (by kernel_rfl)
    obtain ⟨s52, rfl⟩ := inL_str hl52
    rw [if_pos (by kernel_rfl)]
    go_simp
    have hz0 := (((((Bnd.one [40]).cat (Bnd.tr D M)).cat (Bnd.one [32])).cat (Bnd.tr D M)).cat (Bnd.one [32])).size (hl50)
    have hz1 := (Bnd.tr D M).size (hl52)
    try simp only [List.length_cons, List.length_nil] at hz0 hz1
    rw [if_neg (by omega)]
    exact hK _ _ _ rfl hS (Stp.refl _ _ _ _) (InL.cat (hl50) (hl52))
  case o15 =>
    intro dn a w' _ hS hF K hK
    obtain ⟨v53, h53, hl53⟩ := hF.val 14 53 (by kernel_rfl) (by kernel_rfl)
    obtain ⟨s53, rfl⟩ := inL_str hl53
    rw [if_pos (by kernel_rfl)]
    go_simp
    have hz0 := ((((((Bnd.one [40]).cat (Bnd.tr D M)).cat (Bnd.one [32])).cat (Bnd.tr D M)).cat (Bnd.one [32])).cat (Bnd.tr D M)).size (hl53)
    have hz1 := (Bnd.one [41]).size (InL.one [41])
    try simp only [List.length_cons, List.length_nil] at hz0 hz1
    rw [if_neg (by omega)]
    exact hK _ _ _ rfl hS (Stp.refl _ _ _ _) (InL.cat (hl53) (InL.one [41]))
  case o16 =>
    intro dn a w' _ hS hF K hK
    obtain ⟨v54, h54, hl54⟩ := hF.val 15 54 (by kernel_rfl) (by kernel_rfl)
    obtain ⟨s54, rfl⟩ := inL_str hl54
    rw [if_pos (by kernel_rfl)]
    go_simp
    exact hK _ _ _ rfl hS (Stp.refl _ _ _ _) hl54
  case hend =>
    intro dn w' vs hS hv
    have hv16 : InL (Cat (Cat (Cat (Cat (Cat (Cat (One [40]) (Tr D M)) (One [32])) (Tr D M)) (One [32])) (Tr D M)) (One [41])) (vs 16) := hv 16 (by decide)
    clear hv
    simp only [putsL, Nat.reduceAdd, Act.put, List.setIfInBounds_toArray, List.set_cons_zero, List.set_cons_succ]
    generalize vs 16 = vL at hv16 ⊢
    obtain ⟨s, rfl⟩ := inL_str hv16
    go_wp2
    go_ret
    refine ⟨⟨_, rfl, ?_⟩, hS.2⟩
    obtain ⟨_, hl, ⟨_, _, rfl, ⟨_, _, rfl, ⟨_, _, rfl, ⟨_, _, rfl, ⟨_, _, rfl, ⟨_, _, rfl, rfl, ⟨t0, rfl, hok_t0, hdp_t0, hln_t0⟩⟩, rfl⟩, ⟨t1, rfl, hok_t1, hdp_t1, hln_t1⟩⟩, rfl⟩, ⟨t2, rfl, hok_t2, hdp_t2, hln_t2⟩⟩, rfl⟩⟩ := hv16
    rw [hl]
    exact tree_ok (.l [t0, t1, t2]) _ (by simp [Tx.pr, Tx.prs]) (by simp [Tx.fit, Tx.fits, Tx.isL, hok_t0, hok_t1, hok_t2] <;> decide +kernel) (by simp only [Tx.dep, Tx.deps]; omega) (by simp only [List.length_append, List.length_cons, List.length_nil]; omega)
set_option maxRecDepth 100000 in
set_option maxHeartbeats 4000000 in
theorem expr_c2 {B bb n D M : Nat} (hD : 2 ≤ D) (hM : 20 ≤ M) (hM2 : M ≤ 1000000) (ih : ExprAt B bb n D M) (hn : n ≤ 900) (w : World) (lv : Value) (names : List ByteArray) (d k x y z : Int) (hd0 : 0 < d) (hd : d ≤ n + 1) (hB : B ≤ w.heap.size) (h : Bard w B bb lv names) (hT : TabB w B) (hN : NamesOk names (999 - n))
    (hx_k : i64B k) (hx_x : i64B x) (hx_y : i64B y) (hx_z : i64B z)
    (HN0 : Calls Tryz.prog 31 #[.pointer (some ⟨bb, 0, none⟩)] ((w.alloc (.cells #[.pointer (some ⟨bb, 0, none⟩)] 59)).alloc (.cells #[.int .i64 d] 3)) fun e w' => e = .returned (.agg #[.int .i64 k, .int .i64 x, .int .i64 y, .int .i64 z]) ∧ Bard w' B bb lv names ∧ Kept bb none ((w.alloc (.cells #[.pointer (some ⟨bb, 0, none⟩)] 59)).alloc (.cells #[.int .i64 d] 3)) w') (he : pick k 20 = 2) :
    Calls Tryz.prog 17 #[.pointer (some ⟨bb, 0, none⟩), .int .i64 d] w fun e w' => (∃ v, e = .returned v ∧ InL (Tr (D + 5) (3 * M + 100)) v) ∧ Stp B bb names names w w' := by
  have hlt := h.lt
  generalize hW1 : (w.alloc (.cells #[.pointer (some ⟨bb, 0, none⟩)] 59)).alloc (.cells #[.int .i64 d] 3) = W1 at HN0
  have hbel1 : Below w.heap.size w W1 := by rw [← hW1]; exact ((Below.refl _ _).alloc (Nat.le_refl _) _).alloc (by simp) _
  have hB1 : Bard W1 B bb lv names := h.keep hB hbel1
  have HN := hid HN0
  clear HN0
  have hsz : W1.heap.size = w.heap.size + 2 := by rw [← hW1]; simp
  have b0 : W1.cell? ⟨w.heap.size, 0, none⟩ = some (.pointer (some ⟨bb, 0, none⟩)) := by rw [← hW1, World.cell?_alloc_past _ _ _ (by simp), World.cell?_alloc_at _ _ _ _ rfl]; rfl
  have b1 : W1.cell? ⟨w.heap.size + 1, 0, none⟩ = some (.int .i64 d) := by rw [← hW1, World.cell?_alloc_at _ _ _ _ (by simp)]; rfl
  have hT1 : TabB W1 B := hT.below (hbel1.mono hB)
  have hmf : ∀ (fn : Fn) (first cap : Array Value) (w : World), (Instr.makeFunc fn first cap).run Tryz.prog w = .ok (.func fn first cap) w := fun _ _ _ _ => rfl
  have HNO := hid hN
  have HIH := hid ih
  have HB := hid h
  clear hN ih
  go_enter Tryz.func17, Tryz.ntmps17
  go_wp2_with fail
  have hcall := HN.out
  go_fit hcall
  clear hcall
  rintro e w1 ⟨rfl, hb1, hK1⟩
  have hz1 := hK1.size
  have b0' := (hK1.cell (p := ⟨w.heap.size, 0, none⟩) (by simp only; omega) (by simp only; omega) (by simp)).trans b0
  have b1' := (hK1.cell (p := ⟨w.heap.size + 1, 0, none⟩) (by simp only; omega) (by simp only; omega) (by simp)).trans b1
  have hT2 : TabB w1 B := hT1.below (hK1.below h.own (fun g hg => by cases hg) (by omega))
  have hq0 : w.heap.size < w1.heap.size := by omega
  have hq1 : w.heap.size + 1 < w1.heap.size := by omega
  go_wp2_with fail
  have hO := h.own
  generalize hW2 : w1.alloc (.cells #[.int .i64 k, .int .i64 x, .int .i64 y, .int .i64 z] 46) = W2
  have hbel2 : Below w1.heap.size w1 W2 := by rw [← hW2]; exact (Below.refl _ _).alloc (Nat.le_refl _) _
  have hS12 : Stp B bb names names w W2 := by
    intro l hl
    obtain rfl := h.det hl
    exact ⟨lv, hb1.keep (by omega) hbel2, ((Kept.of_below hbel1 (Nat.le_refl _)).trans (row := lv.ownBlock) (row' := lv.ownBlock) ⟨hK1.os, hK1.tape, hK1.output, hK1.size, fun k hk h1 _ => hK1.block k hk h1 (by simp)⟩ (fun g hg => Or.inl hg)).trans (row' := none) (Kept.of_below hbel2 (Nat.le_refl _)) (by simp), fun g hg => Or.inl hg⟩
  have hB2 : Bard W2 B bb lv names := hb1.keep (by omega) hbel2
  have hrow := fun g hg => (h.row_ge (g := g) hg).2
  have apt : ∀ b, w.heap.size ≤ b → b < W2.heap.size → Apart B bb b W2 := fun b h1 h2 => ⟨h2, by omega, fun l _ k e => by
    obtain rfl := hB2.det k
    have := hrow b e
    omega⟩
  have hz2 : w1.heap.size < W2.heap.size := by rw [← hW2]; simp
  have D0 : Hid (Desk W2 B bb names w.heap.size w1.heap.size d k x y z) := hid
    ⟨⟨lv, hB2⟩, hT2.below (hbel2.mono (by omega)), (hbel2.cell (p := ⟨w.heap.size, 0, none⟩) hq0).trans b0', (hbel2.cell (p := ⟨w.heap.size + 1, 0, none⟩) hq1).trans b1',
      by rw [← hW2, World.cell?_alloc_at _ _ _ _ rfl]; rfl, by rw [← hW2, World.cell?_alloc_at _ _ _ _ rfl]; rfl, by rw [← hW2, World.cell?_alloc_at _ _ _ _ rfl]; rfl, by rw [← hW2, World.cell?_alloc_at _ _ _ _ rfl]; rfl,
      apt _ (by omega) (by omega), apt _ (by omega) (by omega), apt _ (by omega) (by omega), by omega⟩
  have S0 := hid hS12
  have d0 := D0.out.c0
  have d1 := D0.out.c1
  have HP := hid (he ▸ picked_any k 20 W2 hx_k.1 hx_k.2 (by omega) (by omega))
  clear hW1 hW2 HN b0 b1 b0' b1' hT hT1 hT2 hb1 hK1 hbel1 hbel2 hB1 hB2 apt hrow hS12 hq0 hq1 hz1 hsz hlt hz2 he hO
  generalize w.heap.size = p at *
  generalize w1.heap.size = q at *
  have hcall := HP.out
  go_fit hcall
  clear hcall HP
  rintro e w3 ⟨rfl, rfl⟩
  have hU := fun (names : List ByteArray) (w' : World) (hd' : Desk w' B bb names p q d k x y z) (hN' : NamesOk names (1000 - n)) => sub_any HIH.out hd' hd0 hd (by omega) hN'
  have hE := fun (names : List ByteArray) (w' : World) (hd' : Desk w' B bb names p q d k x y z) (hN' : NamesOk names (1000 - n)) => expr_at HIH.out hd' hd0 hd hN'
  have HNO2 : Hid (NamesOk names (1000 - n)) := hid ⟨HNO.out.pos, Nat.le_trans HNO.out.len (by omega), HNO.out.ok⟩
  have hN := HNO.out
  clear hE
  go_upto_region 10 with fail
  refine wp_region_invA (fun _ w' => Desk w' B bb names p q d k x y z ∧ Stp B bb names names w w') (fun _ => Stp B bb names names) (fun i v w' => match i with
    | 0 => v = .func (.func 33) #[] #[.pointer (some ⟨p, 0, none⟩), .pointer (some ⟨p + 1, 0, none⟩)]
    | 1 => InL (Tr D M) v
    | 2 => InL (Cat (One [40, 105, 102, 32]) (Tr D M)) v
    | 3 => InL (Cat (Cat (One [40, 105, 102, 32]) (Tr D M)) (One [32])) v
    | 4 => v = .func (.func 33) #[] #[.pointer (some ⟨p, 0, none⟩), .pointer (some ⟨p + 1, 0, none⟩)]
    | 5 => InL (Tr D M) v
    | 6 => InL (Cat (Cat (Cat (One [40, 105, 102, 32]) (Tr D M)) (One [32])) (Tr D M)) v
    | 7 => InL (Cat (Cat (Cat (Cat (One [40, 105, 102, 32]) (Tr D M)) (One [32])) (Tr D M)) (One [32])) v
    | 8 => v = .func (.func 33) #[] #[.pointer (some ⟨p, 0, none⟩), .pointer (some ⟨p + 1, 0, none⟩)]
    | 9 => InL (Tr D M) v
    | 10 => InL (Cat (Cat (Cat (Cat (Cat (One [40, 105, 102, 32]) (Tr D M)) (One [32])) (Tr D M)) (One [32])) (Tr D M)) v
    | 11 => InL (Cat (Cat (Cat (Cat (Cat (Cat (One [40, 105, 102, 32]) (Tr D M)) (One [32])) (Tr D M)) (One [32])) (Tr D M)) (One [41])) v
    | 12 => InL (Cat (Cat (Cat (Cat (Cat (Cat (One [40, 105, 102, 32]) (Tr D M)) (One [32])) (Tr D M)) (One [32])) (Tr D M)) (One [41])) v
    | _ => True) (by kernel_rfl) (by kernel_rfl) ?hst ?hmono ⟨?o0, ?o1, ?o2, ?o3, ?o4, ?o5, ?o6, ?o7, ?o8, ?o9, ?o10, ?o11, ?o12, trivial⟩ ?hend
  case hst => exact ⟨D0.out.step (Stp.of_below D0.out.size (drewN_below _ 0)), S0.out.trans (Stp.of_below D0.out.size (drewN_below _ 0))⟩
  case hmono =>
    intro i j v w1 w2 _ _ _ _ ⟨_, hS⟩ hv hR
    obtain ⟨l, hl⟩ := hS.1.bard
    rcases i with _ | _ | _ | _ | _ | _ | _ | _ | _ | _ | _ | _ | _ | i
    all_goals first | exact hv | (obtain ⟨b, h1, h2⟩ := hv; exact ⟨b, h1, h2.step hR hl⟩) | (obtain ⟨b, j, h1, h2, h3⟩ := hv; exact ⟨b, j, h1, h2, h3.step hR hl⟩)
  case o0 =>
    intro dn a w' _ hS hF K hK
    have h6 := hF.out 6 (by kernel_rfl) rfl
    rw [if_pos (by kernel_rfl)]
    go_simp
    exact hK _ _ _ rfl hS (Stp.refl _ _ _ _) rfl
  case o1 =>
    intro dn a w' _ hS hF K hK
    obtain ⟨v57, h57, rfl⟩ := hF.val 0 57 (by kernel_rfl) (by kernel_rfl)
    rw [if_pos (by kernel_rfl)]
    go_simp
    refine (hU names w' hS.1 HNO2.out).mono ?_
    rintro e w'' ⟨⟨v, rfl, hv⟩, hs⟩
    exact hK _ _ _ rfl ⟨hS.1.step hs, hS.2.trans hs⟩ hs hv
  case o2 =>
    intro dn a w' _ hS hF K hK
    obtain ⟨v58, h58, hl58⟩ := hF.val 1 58 (by kernel_rfl) (by kernel_rfl)
    obtain ⟨s58, rfl⟩ := inL_str hl58
    rw [if_pos (by kernel_rfl)]
    go_simp
    have hz0 := (Bnd.one [40, 105, 102, 32]).size (InL.one [40, 105, 102, 32])
    have hz1 := (Bnd.tr D M).size (hl58)
    try simp only [List.length_cons, List.length_nil] at hz0 hz1
    rw [if_neg (by omega)]
    exact hK _ _ _ rfl hS (Stp.refl _ _ _ _) (InL.cat (InL.one [40, 105, 102, 32]) (hl58))
  case o3 =>
    intro dn a w' _ hS hF K hK
    obtain ⟨v59, h59, hl59⟩ := hF.val 2 59 (by kernel_rfl) (by kernel_rfl)
    obtain ⟨s59, rfl⟩ := inL_str hl59
    rw [if_pos (by kernel_rfl)]
    go_simp
    have hz0 := ((Bnd.one [40, 105, 102, 32]).cat (Bnd.tr D M)).size (hl59)
    have hz1 := (Bnd.one [32]).size (InL.one [32])
    try simp only [List.length_cons, List.length_nil] at hz0 hz1
    rw [if_neg (by omega)]
    exact hK _ _ _ rfl hS (Stp.refl _ _ _ _) (InL.cat (hl59) (InL.one [32]))
  case o4 =>
    intro dn a w' _ hS hF K hK
    have h6 := hF.out 6 (by kernel_rfl) rfl
    rw [if_pos (by kernel_rfl)]
    go_simp
    exact hK _ _ _ rfl hS (Stp.refl _ _ _ _) rfl
  case o5 =>
    intro dn a w' _ hS hF K hK
    obtain ⟨v61, h61, rfl⟩ := hF.val 4 61 (by kernel_rfl) (by kernel_rfl)
    rw [if_pos (by kernel_rfl)]
    go_simp
    refine (hU names w' hS.1 HNO2.out).mono ?_
    rintro e w'' ⟨⟨v, rfl, hv⟩, hs⟩
    exact hK _ _ _ rfl ⟨hS.1.step hs, hS.2.trans hs⟩ hs hv
  case o6 =>
    intro dn a w' _ hS hF K hK
    obtain ⟨v60, h60, hl60⟩ := hF.val 3 60 (by kernel_rfl) (by kernel_rfl)
    obtain ⟨s60, rfl⟩ := inL_str hl60
    obtain ⟨v62, h62, hl62⟩ := hF.val 5 62 (by kernel_rfl) (by kernel_rfl)
    obtain ⟨s62, rfl⟩ := inL_str hl62
    rw [if_pos (by kernel_rfl)]
    go_simp
    have hz0 := (((Bnd.one [40, 105, 102, 32]).cat (Bnd.tr D M)).cat (Bnd.one [32])).size (hl60)
    have hz1 := (Bnd.tr D M).size (hl62)
    try simp only [List.length_cons, List.length_nil] at hz0 hz1
    rw [if_neg (by omega)]
    exact hK _ _ _ rfl hS (Stp.refl _ _ _ _) (InL.cat (hl60) (hl62))
  case o7 =>
    intro dn a w' _ hS hF K hK
    obtain ⟨v63, h63, hl63⟩ := hF.val 6 63 (by kernel_rfl) (by kernel_rfl)
    obtain ⟨s63, rfl⟩ := inL_str hl63
    rw [if_pos (by kernel_rfl)]
    go_simp
    have hz0 := ((((Bnd.one [40, 105, 102, 32]).cat (Bnd.tr D M)).cat (Bnd.one [32])).cat (Bnd.tr D M)).size (hl63)
    have hz1 := (Bnd.one [32]).size (InL.one [32])
    try simp only [List.length_cons, List.length_nil] at hz0 hz1
    rw [if_neg (by omega)]
    exact hK _ _ _ rfl hS (Stp.refl _ _ _ _) (InL.cat (hl63) (InL.one [32]))
  case o8 =>
    intro dn a w' _ hS hF K hK
    have h6 := hF.out 6 (by kernel_rfl) rfl
    rw [if_pos (by kernel_rfl)]
    go_simp
    exact hK _ _ _ rfl hS (Stp.refl _ _ _ _) rfl
  case o9 =>
    intro dn a w' _ hS hF K hK
    obtain ⟨v65, h65, rfl⟩ := hF.val 8 65 (by kernel_rfl) (by kernel_rfl)
    rw [if_pos (by kernel_rfl)]
    go_simp
    refine (hU names w' hS.1 HNO2.out).mono ?_
    rintro e w'' ⟨⟨v, rfl, hv⟩, hs⟩
    exact hK _ _ _ rfl ⟨hS.1.step hs, hS.2.trans hs⟩ hs hv
  case o10 =>
    intro dn a w' _ hS hF K hK
    obtain ⟨v64, h64, hl64⟩ := hF.val 7 64 (by kernel_rfl) (by kernel_rfl)
    obtain ⟨s64, rfl⟩ := inL_str hl64
    obtain ⟨v66, h66, hl66⟩ := hF.val 9 66 (by kernel_rfl) (by kernel_rfl)
    obtain ⟨s66, rfl⟩ := inL_str hl66
    rw [if_pos (by kernel_rfl)]
    go_simp
    have hz0 := (((((Bnd.one [40, 105, 102, 32]).cat (Bnd.tr D M)).cat (Bnd.one [32])).cat (Bnd.tr D M)).cat (Bnd.one [32])).size (hl64)
    have hz1 := (Bnd.tr D M).size (hl66)
    try simp only [List.length_cons, List.length_nil] at hz0 hz1
    rw [if_neg (by omega)]
    exact hK _ _ _ rfl hS (Stp.refl _ _ _ _) (InL.cat (hl64) (hl66))
  case o11 =>
    intro dn a w' _ hS hF K hK
    obtain ⟨v67, h67, hl67⟩ := hF.val 10 67 (by kernel_rfl) (by kernel_rfl)
    obtain ⟨s67, rfl⟩ := inL_str hl67
    rw [if_pos (by kernel_rfl)]
    go_simp
    have hz0 := ((((((Bnd.one [40, 105, 102, 32]).cat (Bnd.tr D M)).cat (Bnd.one [32])).cat (Bnd.tr D M)).cat (Bnd.one [32])).cat (Bnd.tr D M)).size (hl67)
    have hz1 := (Bnd.one [41]).size (InL.one [41])
    try simp only [List.length_cons, List.length_nil] at hz0 hz1
    rw [if_neg (by omega)]
    exact hK _ _ _ rfl hS (Stp.refl _ _ _ _) (InL.cat (hl67) (InL.one [41]))
  case o12 =>
    intro dn a w' _ hS hF K hK
    obtain ⟨v68, h68, hl68⟩ := hF.val 11 68 (by kernel_rfl) (by kernel_rfl)
    obtain ⟨s68, rfl⟩ := inL_str hl68
    rw [if_pos (by kernel_rfl)]
    go_simp
    exact hK _ _ _ rfl hS (Stp.refl _ _ _ _) hl68
  case hend =>
    intro dn w' vs hS hv
    have hv12 : InL (Cat (Cat (Cat (Cat (Cat (Cat (One [40, 105, 102, 32]) (Tr D M)) (One [32])) (Tr D M)) (One [32])) (Tr D M)) (One [41])) (vs 12) := hv 12 (by decide)
    clear hv
    simp only [putsL, Nat.reduceAdd, Act.put, List.setIfInBounds_toArray, List.set_cons_zero, List.set_cons_succ]
    generalize vs 12 = vL at hv12 ⊢
    obtain ⟨s, rfl⟩ := inL_str hv12
    go_wp2
    go_ret
    refine ⟨⟨_, rfl, ?_⟩, hS.2⟩
    obtain ⟨_, hl, ⟨_, _, rfl, ⟨_, _, rfl, ⟨_, _, rfl, ⟨_, _, rfl, ⟨_, _, rfl, ⟨_, _, rfl, rfl, ⟨t0, rfl, hok_t0, hdp_t0, hln_t0⟩⟩, rfl⟩, ⟨t1, rfl, hok_t1, hdp_t1, hln_t1⟩⟩, rfl⟩, ⟨t2, rfl, hok_t2, hdp_t2, hln_t2⟩⟩, rfl⟩⟩ := hv12
    rw [hl]
    exact tree_ok (.l [.w [105, 102], t0, t1, t2]) _ (by simp [Tx.pr, Tx.prs]) (by simp [Tx.fit, Tx.fits, Tx.isL, hok_t0, hok_t1, hok_t2] <;> decide +kernel) (by simp only [Tx.dep, Tx.deps]; omega) (by simp only [List.length_append, List.length_cons, List.length_nil]; omega)
end Go.Proofs.YtdfmimgjdchafaaGreatDoor
