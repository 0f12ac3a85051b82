/- The bard's expression, cases 13, 14, 18. -/
import Derived.Test.YtdfmimgjdchafaaGreatDoorBPush
import Derived.Deep.Cut
namespace Go.Proofs.YtdfmimgjdchafaaGreatDoor
set_option maxRecDepth 100000
open Go.RowKit
set_option linter.unusedVariables false
set_option linter.unusedSimpArgs false
set_option maxRecDepth 100000 in
set_option maxHeartbeats 4000000 in
theorem expr_c13 {B bb n D M : Nat} (hD : 2 ≤ D) (hM : 20 ≤ M) (hM2 : M ≤ 1000000) (ih : ExprAt B bb n D M) (hn : n ≤ 900) (w : World) (lv : Value) (names : List ByteArray) (d k x y z : Int) (hd0 : 0 < d) (hd : d ≤ n + 1) (hB : B ≤ w.heap.size) (h : Bard w B bb lv names) (hT : TabB w B) (hN : NamesOk names (999 - n))
    (hx_k : i64B k) (hx_x : i64B x) (hx_y : i64B y) (hx_z : i64B z)
    (HN0 : Calls Tryz.prog 31 #[.pointer (some ⟨bb, 0, none⟩)] ((w.alloc (.cells #[.pointer (some ⟨bb, 0, none⟩)] 59)).alloc (.cells #[.int .i64 d] 3)) fun e w' => e = .returned (.agg #[.int .i64 k, .int .i64 x, .int .i64 y, .int .i64 z]) ∧ Bard w' B bb lv names ∧ Kept bb none ((w.alloc (.cells #[.pointer (some ⟨bb, 0, none⟩)] 59)).alloc (.cells #[.int .i64 d] 3)) w') (he : pick k 20 = 13) :
    Calls Tryz.prog 17 #[.pointer (some ⟨bb, 0, none⟩), .int .i64 d] w fun e w' => (∃ v, e = .returned v ∧ InL (Tr (D + 5) (3 * M + 100)) v) ∧ Stp B bb names names w w' := by
  have hlt := h.lt
  generalize hW1 : (w.alloc (.cells #[.pointer (some ⟨bb, 0, none⟩)] 59)).alloc (.cells #[.int .i64 d] 3) = W1 at HN0
  have hbel1 : Below w.heap.size w W1 := by rw [← hW1]; exact ((Below.refl _ _).alloc (Nat.le_refl _) _).alloc (by simp) _
  have hB1 : Bard W1 B bb lv names := h.keep hB hbel1
  have HN := hid HN0
  clear HN0
  have hsz : W1.heap.size = w.heap.size + 2 := by rw [← hW1]; simp
  have b0 : W1.cell? ⟨w.heap.size, 0, none⟩ = some (.pointer (some ⟨bb, 0, none⟩)) := by rw [← hW1, World.cell?_alloc_past _ _ _ (by simp), World.cell?_alloc_at _ _ _ _ rfl]; rfl
  have b1 : W1.cell? ⟨w.heap.size + 1, 0, none⟩ = some (.int .i64 d) := by rw [← hW1, World.cell?_alloc_at _ _ _ _ (by simp)]; rfl
  have hT1 : TabB W1 B := hT.below (hbel1.mono hB)
  have hmf : ∀ (fn : Fn) (first cap : Array Value) (w : World), (Instr.makeFunc fn first cap).run Tryz.prog w = .ok (.func fn first cap) w := fun _ _ _ _ => rfl
  have HNO := hid hN
  have HIH := hid ih
  have HB := hid h
  clear hN ih
  go_enter Tryz.func17, Tryz.ntmps17
  go_wp2_with fail
  have hcall := HN.out
  go_fit hcall
  clear hcall
  rintro e w1 ⟨rfl, hb1, hK1⟩
  have hz1 := hK1.size
  have b0' := (hK1.cell (p := ⟨w.heap.size, 0, none⟩) (by simp only; omega) (by simp only; omega) (by simp)).trans b0
  have b1' := (hK1.cell (p := ⟨w.heap.size + 1, 0, none⟩) (by simp only; omega) (by simp only; omega) (by simp)).trans b1
  have hT2 : TabB w1 B := hT1.below (hK1.below h.own (fun g hg => by cases hg) (by omega))
  have hq0 : w.heap.size < w1.heap.size := by omega
  have hq1 : w.heap.size + 1 < w1.heap.size := by omega
  go_wp2_with fail
  have hO := h.own
  generalize hW2 : w1.alloc (.cells #[.int .i64 k, .int .i64 x, .int .i64 y, .int .i64 z] 46) = W2
  have hbel2 : Below w1.heap.size w1 W2 := by rw [← hW2]; exact (Below.refl _ _).alloc (Nat.le_refl _) _
  have hS12 : Stp B bb names names w W2 := by
    intro l hl
    obtain rfl := h.det hl
    exact ⟨lv, hb1.keep (by omega) hbel2, ((Kept.of_below hbel1 (Nat.le_refl _)).trans (row := lv.ownBlock) (row' := lv.ownBlock) ⟨hK1.os, hK1.tape, hK1.output, hK1.size, fun k hk h1 _ => hK1.block k hk h1 (by simp)⟩ (fun g hg => Or.inl hg)).trans (row' := none) (Kept.of_below hbel2 (Nat.le_refl _)) (by simp), fun g hg => Or.inl hg⟩
  have hB2 : Bard W2 B bb lv names := hb1.keep (by omega) hbel2
  have hrow := fun g hg => (h.row_ge (g := g) hg).2
  have apt : ∀ b, w.heap.size ≤ b → b < W2.heap.size → Apart B bb b W2 := fun b h1 h2 => ⟨h2, by omega, fun l _ k e => by
    obtain rfl := hB2.det k
    have := hrow b e
    omega⟩
  have hz2 : w1.heap.size < W2.heap.size := by rw [← hW2]; simp
  have D0 : Hid (Desk W2 B bb names w.heap.size w1.heap.size d k x y z) := hid
    ⟨⟨lv, hB2⟩, hT2.below (hbel2.mono (by omega)), (hbel2.cell (p := ⟨w.heap.size, 0, none⟩) hq0).trans b0', (hbel2.cell (p := ⟨w.heap.size + 1, 0, none⟩) hq1).trans b1',
      by rw [← hW2, World.cell?_alloc_at _ _ _ _ rfl]; rfl, by rw [← hW2, World.cell?_alloc_at _ _ _ _ rfl]; rfl, by rw [← hW2, World.cell?_alloc_at _ _ _ _ rfl]; rfl, by rw [← hW2, World.cell?_alloc_at _ _ _ _ rfl]; rfl,
      apt _ (by omega) (by omega), apt _ (by omega) (by omega), apt _ (by omega) (by omega), by omega⟩
  have S0 := hid hS12
  have d0 := D0.out.c0
  have d1 := D0.out.c1
  have HP := hid (he ▸ picked_any k 20 W2 hx_k.1 hx_k.2 (by omega) (by omega))
  clear hW1 hW2 HN b0 b1 b0' b1' hT hT1 hT2 hb1 hK1 hbel1 hbel2 hB1 hB2 apt hrow hS12 hq0 hq1 hz1 hsz hlt hz2 he hO
  generalize w.heap.size = p at *
  generalize w1.heap.size = q at *
  have hcall := HP.out
  go_fit hcall
  clear hcall HP
  rintro e w3 ⟨rfl, rfl⟩
  have hU := fun (names : List ByteArray) (w' : World) (hd' : Desk w' B bb names p q d k x y z) (hN' : NamesOk names (1000 - n)) => sub_any HIH.out hd' hd0 hd (by omega) hN'
  have hE := fun (names : List ByteArray) (w' : World) (hd' : Desk w' B bb names p q d k x y z) (hN' : NamesOk names (1000 - n)) => expr_at HIH.out hd' hd0 hd hN'
  have HNO2 : Hid (NamesOk names (1000 - n)) := hid ⟨HNO.out.pos, Nat.le_trans HNO.out.len (by omega), HNO.out.ok⟩
  have hwr : IntKind.i64.wrap (d - 1) = d - 1 := by rw [IntKind.wrap_i64]; omega
  go_upto_region 30 with fail
  refine wp_region_invA (fun _ w' => Desk w' B bb names p q d k x y z ∧ Stp B bb names names w w') (fun _ => Stp B bb names names) (fun i v w' => match i with
    | 0 => v = .func (.func 33) #[] #[.pointer (some ⟨p, 0, none⟩), .pointer (some ⟨p + 1, 0, none⟩)]
    | 1 => InL (Tr D M) v
    | 2 => InL (Tr D M) v
    | _ => True) (by kernel_rfl) (by kernel_rfl) ?hst ?hmono ⟨?o0, ?o1, ?o2, trivial⟩ ?hend
  case hst => exact ⟨D0.out.step (Stp.of_below D0.out.size (drewN_below _ 0)), S0.out.trans (Stp.of_below D0.out.size (drewN_below _ 0))⟩
  case hmono =>
    intro i j v w1 w2 _ _ _ _ ⟨_, hS⟩ hv hR
    obtain ⟨l, hl⟩ := hS.1.bard
    rcases i with _ | _ | _ | i
    all_goals first | exact hv | (obtain ⟨b, h1, h2⟩ := hv; exact ⟨b, h1, h2.step hR hl⟩) | (obtain ⟨b, j, h1, h2, h3⟩ := hv; exact ⟨b, j, h1, h2, h3.step hR hl⟩)
  case o0 =>
    intro dn a w' _ hS hF K hK
    have h6 := hF.out 6 (by kernel_rfl) rfl
    rw [if_pos (by kernel_rfl)]
    go_simp
    exact hK _ _ _ rfl hS (Stp.refl _ _ _ _) rfl
  case o1 =>
    intro dn a w' _ hS hF K hK
    obtain ⟨v181, h181, rfl⟩ := hF.val 0 181 (by kernel_rfl) (by kernel_rfl)
    rw [if_pos (by kernel_rfl)]
    go_simp
    refine (hU names w' hS.1 HNO2.out).mono ?_
    rintro e w'' ⟨⟨v, rfl, hv⟩, hs⟩
    exact hK _ _ _ rfl ⟨hS.1.step hs, hS.2.trans hs⟩ hs hv
  case o2 =>
    intro dn a w' _ hS hF K hK
    obtain ⟨v182, h182, hl182⟩ := hF.val 1 182 (by kernel_rfl) (by kernel_rfl)
    obtain ⟨s182, rfl⟩ := inL_str hl182
    rw [if_pos (by kernel_rfl)]
    go_simp
    exact hK _ _ _ rfl hS (Stp.refl _ _ _ _) hl182
  case hend =>
    intro dn wA vs hS hv
    have hv7 : InL (Tr D M) (vs 2) := hv 2 (by decide)
    clear hv
    simp only [putsL, Nat.reduceAdd, Act.put, List.setIfInBounds_toArray, List.set_cons_zero, List.set_cons_succ]
    generalize vs 2 = vL at hv7 ⊢
    obtain ⟨s7, rfl⟩ := inL_str hv7
    have D1 := hid hS.1
    have S1 := hid hS.2
    clear hS
    go_upto_region 31 with fail
    refine wp_region_invA (fun _ w' => Desk w' B bb names p q d k x y z ∧ Stp B bb names names w w') (fun _ => Stp B bb names names) (fun i v w' => match i with
      | 0 => ∃ b, v = .slice (some ⟨b, 0, none⟩) 3 3 ∧ RowT B bb b 3 2 20 w'
      | 1 => v = .pointer (some ⟨q, 1, none⟩)
      | 2 => v = .int .i64 x
      | 3 => ∃ j : Nat, v = .int .i64 j ∧ j < 3
      | 4 => ∃ b j, v = .pointer (some ⟨b, j, none⟩) ∧ j < 3 ∧ RowT B bb b 3 2 20 w'
      | 5 => InL (Tr 2 20) v
      | 6 => InL (Tr 2 20) v
      | _ => True) (by kernel_rfl) (by kernel_rfl) ?hst ?hmono ⟨?o0, ?o1, ?o2, ?o3, ?o4, ?o5, ?o6, trivial⟩ ?hend
    case hst => exact ⟨D1.out.step (Stp.of_below D1.out.size (drewN_below _ 0)), S1.out.trans (Stp.of_below D1.out.size (drewN_below _ 0))⟩
    case hmono =>
      intro i j v w1 w2 _ _ _ _ ⟨_, hS⟩ hv hR
      obtain ⟨l, hl⟩ := hS.1.bard
      rcases i with _ | _ | _ | _ | _ | _ | _ | i
      all_goals first | exact hv | (obtain ⟨b, h1, h2⟩ := hv; exact ⟨b, h1, h2.step hR hl⟩) | (obtain ⟨b, j, h1, h2, h3⟩ := hv; exact ⟨b, j, h1, h2, h3.step hR hl⟩)
    case o0 =>
      intro dn a w' _ hS hF K hK
      rw [if_pos (by kernel_rfl)]
      obtain ⟨l, hl⟩ := hS.1.bard
      go_simp
      have hs := Stp.of_below (bb := bb) (names := names) hS.1.size ((Below.refl w'.heap.size w').alloc (Nat.le_refl _) (.cells #[.string ⟨#[117]⟩, .string ⟨#[118]⟩, .string ⟨#[119]⟩] 9))
      refine hK _ _ _ rfl ⟨hS.1.step hs, hS.2.trans hs⟩ hs ⟨_, rfl, _, ⟨heap_alloc_new w' _, Apart.new hl hS.1.size _⟩, rfl, row_of ⟨word_ok (Nat.le_refl 2) (Nat.le_refl 20) [117] (by decide +kernel), word_ok (Nat.le_refl 2) (Nat.le_refl 20) [118] (by decide +kernel), word_ok (Nat.le_refl 2) (Nat.le_refl 20) [119] (by decide +kernel), trivial⟩⟩
    case o1 =>
      intro dn a w' _ hS hF K hK
      have h5 := hF.out 5 (by kernel_rfl) rfl
      rw [if_pos (by kernel_rfl)]
      go_simp
      exact hK _ _ _ rfl hS (Stp.refl _ _ _ _) rfl
    case o2 =>
      intro dn a w' _ hS hF K hK
      obtain ⟨v184, h184, rfl⟩ := hF.val 1 184 (by kernel_rfl) (by kernel_rfl)
      have hc := hS.1.c1
      rw [if_pos (by kernel_rfl)]
      go_simp
      exact hK _ _ _ rfl hS (Stp.refl _ _ _ _) rfl
    case o3 =>
      intro dn a w' _ hS hF K hK
      obtain ⟨v185, h185, rfl⟩ := hF.val 2 185 (by kernel_rfl) (by kernel_rfl)
      rw [if_pos (by kernel_rfl)]
      go_simp
      refine (picked_any x 3 w' hx_x.1 hx_x.2 (by omega) (by omega)).mono ?_
      rintro e w'' ⟨rfl, rfl⟩
      obtain ⟨j, hj, hjl⟩ := pick_nat x 3 (by omega)
      rw [hj]
      exact hK _ _ _ rfl hS (Stp.refl _ _ _ _) ⟨j, rfl, by omega⟩
    case o4 =>
      intro dn a w' _ hS hF K hK
      obtain ⟨v183, h183, b183, rfl, hr183⟩ := hF.val 0 183 (by kernel_rfl) (by kernel_rfl)
      obtain ⟨v186, h186, j186, rfl, hj186⟩ := hF.val 3 186 (by kernel_rfl) (by kernel_rfl)
      have hj' : (j186 : Int) < 3 := by omega
      rw [if_pos (by kernel_rfl)]
      go_simp
      exact hK _ _ _ rfl hS (Stp.refl _ _ _ _) ⟨b183, j186, rfl, by omega, hr183⟩
    case o5 =>
      intro dn a w' _ hS hF K hK
      obtain ⟨v187, h187, b187, j187, rfl, hj187, hr187⟩ := hF.val 4 187 (by kernel_rfl) (by kernel_rfl)
      obtain ⟨u, hc, hu⟩ := hr187.cell hj187
      rw [if_pos (by kernel_rfl)]
      go_simp
      exact hK _ _ _ rfl hS (Stp.refl _ _ _ _) hu
    case o6 =>
      intro dn a w' _ hS hF K hK
      obtain ⟨v188, h188, hl188⟩ := hF.val 5 188 (by kernel_rfl) (by kernel_rfl)
      obtain ⟨s188, rfl⟩ := inL_str hl188
      rw [if_pos (by kernel_rfl)]
      go_simp
      exact hK _ _ _ rfl hS (Stp.refl _ _ _ _) hl188
    case hend =>
      intro dn wB vs hS hv
      have hv8 : InL (Tr 2 20) (vs 6) := hv 6 (by decide)
      clear hv
      simp only [putsL, Nat.reduceAdd, Act.put, List.setIfInBounds_toArray, List.set_cons_zero, List.set_cons_succ]
      generalize vs 6 = vL at hv8 ⊢
      obtain ⟨s8, rfl⟩ := inL_str hv8
      have D2 := hid hS.1
      have S2 := hid hS.2
      clear hS
      go_upto_region 32 with fail
      obtain ⟨lx, hlx⟩ := D2.out.bard
      have hlxlt := hlx.lt
      have hlxB := D2.out.size
      refine wp_region_invL 8 (fun dn w' => Push p bb B lx names wB w' (dn 7 = false)) (fun i w w' => match i with | 6 => Kept bb lx.ownBlock w w' | 7 => Kept bb lx.ownBlock w w' | _ => w' = w) (fun i v w' => match i with
        | 0 => v = .pointer (some ⟨bb, 0, none⟩)
        | 1 => v = .pointer (some ⟨bb, 0, none⟩)
        | 2 => v = .pointer (some ⟨bb, 0, none⟩)
        | 3 => v = .pointer (some ⟨bb, 1, none⟩)
        | 4 => v = lx
        | 5 => v = .string s8
        | 6 => ∃ b, v = .slice (some ⟨b, 0, none⟩) 1 1 ∧ wB.heap.size ≤ b ∧ w'.heap[b]? = some (.cells #[.string s8] 9 (0, 0))
        | 7 => ∃ g cap, v = .slice (some ⟨g, 0, none⟩) (names.length + 1) cap ∧ w'.ownsRow B 9 1 v (names.length + 1) (names.map Value.string ++ [.string s8]) ∧ ∀ g', v.ownBlock = some g' → lx.ownBlock = some g' ∨ wB.heap.size ≤ g'
        | _ => True) (by kernel_rfl) (by kernel_rfl) (by kernel_rfl) ?hst ?hmono ⟨?o0, ?o1, ?o2, ?o3, ?o4, ?o5, ?o6, ?o7, trivial⟩ ?hend
      case hst => exact ⟨D2.out.box, rfl, Kept.of_below (drewN_below _ 1) (Nat.le_refl _), fun _ => hlx.keep D2.out.size (drewN_below _ 1)⟩
      case hmono =>
        intro i j v w1 w2 hi hj hne hwt hS hv hR
        rcases i with _ | _ | _ | _ | _ | _ | _ | _ | i
        · exact hv
        · exact hv
        · exact hv
        · exact hv
        · exact hv
        · exact hv
        · obtain ⟨b, rfl, h1, h2⟩ := hv
          have hk : Kept bb lx.ownBlock w1 w2 := by
            rcases j with _ | _ | _ | _ | _ | _ | _ | _ | j
            all_goals first | exact hR | (obtain rfl := hR; exact Kept.refl _ _ _)
          exact ⟨b, rfl, h1, (hk.block b (Array.getElem?_eq_some_iff.1 h2).1 (by omega) (fun e => by have := (hlx.row_ge e).2; omega)).trans h2⟩
        · rcases j with _ | _ | _ | _ | _ | _ | _ | _ | j
          all_goals first | (obtain rfl := hR; exact hv) | exact absurd rfl hne | exact absurd (hwt.symm.trans (by kernel_rfl : _ = true)) (by decide)
        · omega
      case o0 =>
        intro dn a w' hdn hS hF K hK
        have h2 := hF.out 2 (by kernel_rfl) rfl
        have hc := hS.box
        rw [if_pos (by kernel_rfl)]
        go_simp
        exact hK _ _ _ rfl (hS.not fun h => by simpa [upd] using h) rfl rfl
      case o1 =>
        intro dn a w' hdn hS hF K hK
        have h2 := hF.out 2 (by kernel_rfl) rfl
        have hc := hS.box
        rw [if_pos (by kernel_rfl)]
        go_simp
        exact hK _ _ _ rfl (hS.not fun h => by simpa [upd] using h) rfl rfl
      case o2 =>
        intro dn a w' hdn hS hF K hK
        obtain ⟨v, h190, rfl⟩ := hF.val 1 190 (by kernel_rfl) (by kernel_rfl)
        rw [if_pos (by kernel_rfl)]
        go_simp
        exact hK _ _ _ rfl (hS.not fun h => by simpa [upd] using h) rfl rfl
      case o3 =>
        intro dn a w' hdn hS hF K hK
        obtain ⟨v, h191, rfl⟩ := hF.val 2 191 (by kernel_rfl) (by kernel_rfl)
        rw [if_pos (by kernel_rfl)]
        go_simp
        exact hK _ _ _ rfl (hS.not fun h => by simpa [upd] using h) rfl rfl
      case o4 =>
        intro dn a w' hdn hS hF K hK
        obtain ⟨v, h192, rfl⟩ := hF.val 3 192 (by kernel_rfl) (by kernel_rfl)
        have hc := (hS.cell1 hlx).1
        rw [if_pos (by kernel_rfl)]
        go_simp
        exact hK _ _ _ rfl (hS.not fun h => by simpa [upd] using h) rfl rfl
      case o5 =>
        intro dn a w' hdn hS hF K hK
        have h8 := hF.out 8 (by kernel_rfl) rfl
        rw [if_pos (by kernel_rfl)]
        go_simp
        exact hK _ _ _ rfl (hS.not fun h => by simpa [upd] using h) rfl rfl
      case o6 =>
        intro dn a w' hdn hS hF K hK
        obtain ⟨v, h194, rfl⟩ := hF.val 5 194 (by kernel_rfl) (by kernel_rfl)
        rw [if_pos (by kernel_rfl)]
        have hz := hS.kept.size
        go_simp
        exact hK _ _ _ rfl ((hS.alloc (by omega) (by omega) _).not fun h => by simpa [upd] using h) (Kept.of_below ((Below.refl _ _).alloc (Nat.le_refl _) _) (Nat.le_refl _)) ⟨_, rfl, by omega, heap_alloc_new w' _⟩
      case o7 =>
        intro dn a w' hdn hS hF K hK
        obtain ⟨v, h193, rfl⟩ := hF.val 4 193 (by kernel_rfl) (by kernel_rfl)
        obtain ⟨v, h195, b, rfl, hb1, hb2⟩ := hF.val 6 195 (by kernel_rfl) (by kernel_rfl)
        rw [if_pos (by kernel_rfl)]
        have hz := hS.kept.size
        have hbd := hS.bard (hdn _ (Or.inl rfl))
        obtain ⟨i0, hi, hz0, hz1, hz2⟩ := info_parts infoTxt
        have hlenN := HNO.out.len
        refine wp_append_lies (P := Tryz.prog) w' (.tmp 193) (.tmp 195) 48 rfl B 9 i0 (.string ⟨#[]⟩) 1 16 Tryz.underlying48 hi hz0 hz1 hz2 rfl (by decide) v names.length (names.map Value.string) (by simp [Act.eval, h193]) hbd.row ⟨b, 0, none⟩ 1 1 [.string s8] (by simp [Act.eval, h195]) rfl (World.news_of_block hb2) (by simp [Value.oneCell']) (by decide) (by unfold maxLen; omega) (by omega) (by omega) _ rfl ?_
        intro g cap w'' hr hg ha hl
        have hk := grown_kept (bb := bb) hg
        refine hK _ _ _ rfl ⟨(hk.cell (World.block_lt_of_cell? w' _ hS.box) D2.out.a0.ne (D2.out.a0.row _ _ hlx)).trans hS.box, (hg.block bb (by omega) (fun e => hlx.ne e.symm)).trans hS.blk, hS.kept.trans hk (fun g hg => Or.inl hg), fun h => by simp [upd] at h⟩ hk ⟨g, cap, rfl, hr, fun g' e => ?_⟩
        simp only [Value.ownBlock, Option.some.injEq] at e
        rcases ha with ha | ha
        · exact Or.inl (by rw [ha, e])
        · exact Or.inr (by omega)
      case hend =>
        intro dn wp vs hdn hS hv
        have e0 : vs 0 = .pointer (some ⟨bb, 0, none⟩) := hv 0 (by decide)
        obtain ⟨g, cap, eA, hrow, hown⟩ := hv 7 (by decide)
        clear hv
        rw [eA] at hrow hown
        obtain ⟨hc1, hf1⟩ := hS.cell1 hlx
        simp only [putsL, List.take_succ_cons, List.take_zero, Nat.reduceAdd, Act.put, List.setIfInBounds_toArray, List.set_cons_zero, List.set_cons_succ, e0, eA]
        change wpOps _ _ _ [8, 9, 10] _ _
        refine wpOps_step rfl rfl (fun K hK => ?_)
        go_simp
        refine hK _ _ ?_
        clear hK
        refine wpOps_step rfl rfl (fun K hK => ?_)
        go_simp
        refine hK _ _ ?_
        clear hK
        refine wpOps_step rfl rfl (fun K hK => ?_)
        go_simp
        refine hK _ _ ?_
        clear hK
        simp only [wpOps]
        obtain ⟨hbd, hsq⟩ := push_done (n2 := names ++ [s8]) hlx hlxB hS.kept hS.blk (by simpa using hrow) hown
        clear hS hc1 hf1 hrow hown
        generalize wp.setCell ⟨bb, 1, none⟩ (.slice (some ⟨g, 0, none⟩) (names.length + 1) cap) = wC at hbd hsq ⊢
        have D3 := hid (D2.out.step hsq)
        have S3 := hid (S2.out.trans hsq)
        clear hbd hsq
        have HN2 : Hid (NamesOk (names ++ [s8]) (1000 - n)) := hid ⟨by simp, by have := HNO.out.len; simp only [List.length_append, List.length_cons, List.length_nil]; omega, fun nm h => by
          rcases List.mem_append.1 h with h | h
          · exact HNO.out.ok nm h
          · rw [List.mem_singleton.1 h]; exact hv8⟩
        go_upto_region 33 with fail
        refine wp_region_invA (fun _ w' => Desk w' B bb (names ++ [s8]) p q d k x y z ∧ Stp B bb names (names ++ [s8]) w w') (fun _ => Stp B bb (names ++ [s8]) (names ++ [s8])) (fun i v w' => match i with
          | 0 => InL (Tr 2 20) v
          | 1 => InL (Cat (One [40, 108, 101, 116, 32, 40, 40]) (Tr 2 20)) v
          | 2 => InL (Cat (Cat (One [40, 108, 101, 116, 32, 40, 40]) (Tr 2 20)) (One [32])) v
          | 3 => InL (Tr D M) v
          | 4 => InL (Cat (Cat (Cat (One [40, 108, 101, 116, 32, 40, 40]) (Tr 2 20)) (One [32])) (Tr D M)) v
          | 5 => InL (Cat (Cat (Cat (Cat (One [40, 108, 101, 116, 32, 40, 40]) (Tr 2 20)) (One [32])) (Tr D M)) (One [41, 41, 32])) v
          | 6 => v = .pointer (some ⟨bb, 0, none⟩)
          | 7 => v = .int .i64 d
          | 8 => v = .int .i64 (d - 1)
          | 9 => InL (Tr D M) v
          | 10 => InL (Cat (Cat (Cat (Cat (Cat (One [40, 108, 101, 116, 32, 40, 40]) (Tr 2 20)) (One [32])) (Tr D M)) (One [41, 41, 32])) (Tr D M)) v
          | 11 => InL (Cat (Cat (Cat (Cat (Cat (Cat (One [40, 108, 101, 116, 32, 40, 40]) (Tr 2 20)) (One [32])) (Tr D M)) (One [41, 41, 32])) (Tr D M)) (One [41])) v
          | 12 => InL (Cat (Cat (Cat (Cat (Cat (Cat (One [40, 108, 101, 116, 32, 40, 40]) (Tr 2 20)) (One [32])) (Tr D M)) (One [41, 41, 32])) (Tr D M)) (One [41])) v
          | _ => True) (by kernel_rfl) (by kernel_rfl) ?hst ?hmono ⟨?o0, ?o1, ?o2, ?o3, ?o4, ?o5, ?o6, ?o7, ?o8, ?o9, ?o10, ?o11, ?o12, trivial⟩ ?hend
        case hst => exact ⟨D3.out.step (Stp.of_below D3.out.size (drewN_below _ 0)), S3.out.trans (Stp.of_below D3.out.size (drewN_below _ 0))⟩
        case hmono =>
          intro i j v w1 w2 _ _ _ _ ⟨_, hS⟩ hv hR
          obtain ⟨l, hl⟩ := hS.1.bard
          rcases i with _ | _ | _ | _ | _ | _ | _ | _ | _ | _ | _ | _ | _ | i
          all_goals first | exact hv | (obtain ⟨b, h1, h2⟩ := hv; exact ⟨b, h1, h2.step hR hl⟩) | (obtain ⟨b, j, h1, h2, h3⟩ := hv; exact ⟨b, j, h1, h2, h3.step hR hl⟩)
        case o0 =>
          intro dn a w' _ hS hF K hK
          have h8 := hF.out 8 (by kernel_rfl) rfl
          rw [if_pos (by kernel_rfl)]
          go_simp
          exact hK _ _ _ rfl hS (Stp.refl _ _ _ _) hv8
        case o1 =>
          intro dn a w' _ hS hF K hK
          obtain ⟨v199, h199, hl199⟩ := hF.val 0 199 (by kernel_rfl) (by kernel_rfl)
          obtain ⟨s199, rfl⟩ := inL_str hl199
          rw [if_pos (by kernel_rfl)]
          go_simp
          have hz0 := (Bnd.one [40, 108, 101, 116, 32, 40, 40]).size (InL.one [40, 108, 101, 116, 32, 40, 40])
          have hz1 := (Bnd.tr 2 20).size (hl199)
          try simp only [List.length_cons, List.length_nil] at hz0 hz1
          rw [if_neg (by omega)]
          exact hK _ _ _ rfl hS (Stp.refl _ _ _ _) (InL.cat (InL.one [40, 108, 101, 116, 32, 40, 40]) (hl199))
        case o2 =>
          intro dn a w' _ hS hF K hK
          obtain ⟨v200, h200, hl200⟩ := hF.val 1 200 (by kernel_rfl) (by kernel_rfl)
          obtain ⟨s200, rfl⟩ := inL_str hl200
          rw [if_pos (by kernel_rfl)]
          go_simp
          have hz0 := ((Bnd.one [40, 108, 101, 116, 32, 40, 40]).cat (Bnd.tr 2 20)).size (hl200)
          have hz1 := (Bnd.one [32]).size (InL.one [32])
          try simp only [List.length_cons, List.length_nil] at hz0 hz1
          rw [if_neg (by omega)]
          exact hK _ _ _ rfl hS (Stp.refl _ _ _ _) (InL.cat (hl200) (InL.one [32]))
        case o3 =>
          intro dn a w' _ hS hF K hK
          have h7 := hF.out 7 (by kernel_rfl) rfl
          rw [if_pos (by kernel_rfl)]
          go_simp
          exact hK _ _ _ rfl hS (Stp.refl _ _ _ _) hv7
        case o4 =>
          intro dn a w' _ hS hF K hK
          obtain ⟨v201, h201, hl201⟩ := hF.val 2 201 (by kernel_rfl) (by kernel_rfl)
          obtain ⟨s201, rfl⟩ := inL_str hl201
          obtain ⟨v202, h202, hl202⟩ := hF.val 3 202 (by kernel_rfl) (by kernel_rfl)
          obtain ⟨s202, rfl⟩ := inL_str hl202
          rw [if_pos (by kernel_rfl)]
          go_simp
          have hz0 := (((Bnd.one [40, 108, 101, 116, 32, 40, 40]).cat (Bnd.tr 2 20)).cat (Bnd.one [32])).size (hl201)
          have hz1 := (Bnd.tr D M).size (hl202)
          try simp only [List.length_cons, List.length_nil] at hz0 hz1
          rw [if_neg (by omega)]
          exact hK _ _ _ rfl hS (Stp.refl _ _ _ _) (InL.cat (hl201) (hl202))
        case o5 =>
          intro dn a w' _ hS hF K hK
          obtain ⟨v203, h203, hl203⟩ := hF.val 4 203 (by kernel_rfl) (by kernel_rfl)
          obtain ⟨s203, rfl⟩ := inL_str hl203
          rw [if_pos (by kernel_rfl)]
          go_simp
          have hz0 := ((((Bnd.one [40, 108, 101, 116, 32, 40, 40]).cat (Bnd.tr 2 20)).cat (Bnd.one [32])).cat (Bnd.tr D M)).size (hl203)
          have hz1 := (Bnd.one [41, 41, 32]).size (InL.one [41, 41, 32])
          try simp only [List.length_cons, List.length_nil] at hz0 hz1
          rw [if_neg (by omega)]
          exact hK _ _ _ rfl hS (Stp.refl _ _ _ _) (InL.cat (hl203) (InL.one [41, 41, 32]))
        case o6 =>
          intro dn a w' _ hS hF K hK
          have h2 := hF.out 2 (by kernel_rfl) rfl
          have hc := hS.1.box
          rw [if_pos (by kernel_rfl)]
          go_simp
          exact hK _ _ _ rfl hS (Stp.refl _ _ _ _) rfl
        case o7 =>
          intro dn a w' _ hS hF K hK
          have h3 := hF.out 3 (by kernel_rfl) rfl
          have hc := hS.1.dep
          rw [if_pos (by kernel_rfl)]
          go_simp
          exact hK _ _ _ rfl hS (Stp.refl _ _ _ _) rfl
        case o8 =>
          intro dn a w' _ hS hF K hK
          obtain ⟨v206, h206, rfl⟩ := hF.val 7 206 (by kernel_rfl) (by kernel_rfl)
          rw [if_pos (by kernel_rfl)]
          go_simp
          exact hK _ _ _ rfl hS (Stp.refl _ _ _ _) rfl
        case o9 =>
          intro dn a w' _ hS hF K hK
          obtain ⟨v205, h205, rfl⟩ := hF.val 6 205 (by kernel_rfl) (by kernel_rfl)
          obtain ⟨v207, h207, rfl⟩ := hF.val 8 207 (by kernel_rfl) (by kernel_rfl)
          rw [if_pos (by kernel_rfl)]
          go_simp
          refine (hE (names ++ [s8]) w' hS.1 HN2.out).mono ?_
          rintro e w'' ⟨⟨v, rfl, hv⟩, hs⟩
          exact hK _ _ _ rfl ⟨hS.1.step hs, hS.2.trans hs⟩ hs hv
        case o10 =>
          intro dn a w' _ hS hF K hK
          obtain ⟨v204, h204, hl204⟩ := hF.val 5 204 (by kernel_rfl) (by kernel_rfl)
          obtain ⟨s204, rfl⟩ := inL_str hl204
          obtain ⟨v208, h208, hl208⟩ := hF.val 9 208 (by kernel_rfl) (by kernel_rfl)
          obtain ⟨s208, rfl⟩ := inL_str hl208
          rw [if_pos (by kernel_rfl)]
          go_simp
          have hz0 := (((((Bnd.one [40, 108, 101, 116, 32, 40, 40]).cat (Bnd.tr 2 20)).cat (Bnd.one [32])).cat (Bnd.tr D M)).cat (Bnd.one [41, 41, 32])).size (hl204)
          have hz1 := (Bnd.tr D M).size (hl208)
          try simp only [List.length_cons, List.length_nil] at hz0 hz1
          rw [if_neg (by omega)]
          exact hK _ _ _ rfl hS (Stp.refl _ _ _ _) (InL.cat (hl204) (hl208))
        case o11 =>
          intro dn a w' _ hS hF K hK
          obtain ⟨v209, h209, hl209⟩ := hF.val 10 209 (by kernel_rfl) (by kernel_rfl)
          obtain ⟨s209, rfl⟩ := inL_str hl209
          rw [if_pos (by kernel_rfl)]
          go_simp
          have hz0 := ((((((Bnd.one [40, 108, 101, 116, 32, 40, 40]).cat (Bnd.tr 2 20)).cat (Bnd.one [32])).cat (Bnd.tr D M)).cat (Bnd.one [41, 41, 32])).cat (Bnd.tr D M)).size (hl209)
          have hz1 := (Bnd.one [41]).size (InL.one [41])
          try simp only [List.length_cons, List.length_nil] at hz0 hz1
          rw [if_neg (by omega)]
          exact hK _ _ _ rfl hS (Stp.refl _ _ _ _) (InL.cat (hl209) (InL.one [41]))
        case o12 =>
          intro dn a w' _ hS hF K hK
          obtain ⟨v210, h210, hl210⟩ := hF.val 11 210 (by kernel_rfl) (by kernel_rfl)
          obtain ⟨s210, rfl⟩ := inL_str hl210
          rw [if_pos (by kernel_rfl)]
          go_simp
          exact hK _ _ _ rfl hS (Stp.refl _ _ _ _) hl210
        case hend =>
          intro dn wD vs hS hv
          have hv9 : InL (Cat (Cat (Cat (Cat (Cat (Cat (One [40, 108, 101, 116, 32, 40, 40]) (Tr 2 20)) (One [32])) (Tr D M)) (One [41, 41, 32])) (Tr D M)) (One [41])) (vs 12) := hv 12 (by decide)
          clear hv
          simp only [putsL, Nat.reduceAdd, Act.put, List.setIfInBounds_toArray, List.set_cons_zero, List.set_cons_succ]
          generalize vs 12 = vL at hv9 ⊢
          obtain ⟨s9, rfl⟩ := inL_str hv9
          have D4 := hid hS.1
          have S4 := hid hS.2
          clear hS
          go_upto_region 34 with fail
          obtain ⟨lx, hlx⟩ := D4.out.bard
          have hlxB := D4.out.size
          have hbx := D4.out.box
          have hlen2 : (names ++ [s8]).length = names.length + 1 := by simp
          obtain ⟨g, cap, rfl, hcp, hcm, _⟩ := names_cell hlx.row (by omega)
          obtain ⟨hc1, hf1⟩ := hlx.cell1
          have hrow := hlx.row
          rw [hlen2] at hrow hcp hc1
          have hwp : IntKind.i64.wrap ((names.length : Int) + 1 - 1) = names.length := by have := HNO.out.len; rw [IntKind.wrap_i64]; omega
          have hwq : IntKind.i64.wrap (names.length : Int) = names.length := by have := HNO.out.len; rw [IntKind.wrap_i64]; omega
          have hcp2 : (names.length : Int) ≤ cap := by omega
          have hcm2 : cap ≤ 9223372036854775807 := by unfold maxLen at hcm; omega
          refine wp_region_invL 12 (fun _ w' => w' = wD.drew) (fun _ w w' => w' = w) (fun i v w' => match i with
            | 0 => v = .pointer (some ⟨bb, 0, none⟩)
            | 1 => v = .pointer (some ⟨bb, 0, none⟩)
            | 2 => v = .pointer (some ⟨bb, 0, none⟩)
            | 3 => v = .pointer (some ⟨bb, 1, none⟩)
            | 4 => v = .slice (some ⟨g, 0, none⟩) (names.length + 1) cap
            | 5 => v = .pointer (some ⟨bb, 0, none⟩)
            | 6 => v = .pointer (some ⟨bb, 0, none⟩)
            | 7 => v = .pointer (some ⟨bb, 1, none⟩)
            | 8 => v = .slice (some ⟨g, 0, none⟩) (names.length + 1) cap
            | 9 => v = .int .i64 ((names.length : Int) + 1)
            | 10 => v = .int .i64 (names.length : Int)
            | 11 => v = .slice (some ⟨g, 0, none⟩) names.length cap
            | _ => True) (by kernel_rfl) (by kernel_rfl) (by kernel_rfl) rfl ?hmono ⟨?o0, ?o1, ?o2, ?o3, ?o4, ?o5, ?o6, ?o7, ?o8, ?o9, ?o10, ?o11, trivial⟩ ?hend
          case hmono =>
            intro i j v w1 w2 hi hj hne hwt hS hv hR
            obtain rfl := hR
            exact hv
          case o0 =>
            intro dn a w' hdn hS hF K hK
            have h2 := hF.out 2 (by kernel_rfl) rfl
            subst hS
            have hc := hbx
            rw [if_pos (by kernel_rfl)]
            go_simp
            exact hK _ _ _ rfl rfl rfl rfl
          case o1 =>
            intro dn a w' hdn hS hF K hK
            have h2 := hF.out 2 (by kernel_rfl) rfl
            subst hS
            have hc := hbx
            rw [if_pos (by kernel_rfl)]
            go_simp
            exact hK _ _ _ rfl rfl rfl rfl
          case o2 =>
            intro dn a w' hdn hS hF K hK
            obtain ⟨v, h212, rfl⟩ := hF.val 1 212 (by kernel_rfl) (by kernel_rfl)
            subst hS
            rw [if_pos (by kernel_rfl)]
            go_simp
            exact hK _ _ _ rfl rfl rfl rfl
          case o3 =>
            intro dn a w' hdn hS hF K hK
            obtain ⟨v, h213, rfl⟩ := hF.val 2 213 (by kernel_rfl) (by kernel_rfl)
            subst hS
            rw [if_pos (by kernel_rfl)]
            go_simp
            exact hK _ _ _ rfl rfl rfl rfl
          case o4 =>
            intro dn a w' hdn hS hF K hK
            obtain ⟨v, h214, rfl⟩ := hF.val 3 214 (by kernel_rfl) (by kernel_rfl)
            subst hS
            have hc := hc1
            rw [if_pos (by kernel_rfl)]
            go_simp
            exact hK _ _ _ rfl rfl rfl rfl
          case o5 =>
            intro dn a w' hdn hS hF K hK
            have h2 := hF.out 2 (by kernel_rfl) rfl
            subst hS
            have hc := hbx
            rw [if_pos (by kernel_rfl)]
            go_simp
            exact hK _ _ _ rfl rfl rfl rfl
          case o6 =>
            intro dn a w' hdn hS hF K hK
            obtain ⟨v, h216, rfl⟩ := hF.val 5 216 (by kernel_rfl) (by kernel_rfl)
            subst hS
            rw [if_pos (by kernel_rfl)]
            go_simp
            exact hK _ _ _ rfl rfl rfl rfl
          case o7 =>
            intro dn a w' hdn hS hF K hK
            obtain ⟨v, h217, rfl⟩ := hF.val 6 217 (by kernel_rfl) (by kernel_rfl)
            subst hS
            rw [if_pos (by kernel_rfl)]
            go_simp
            exact hK _ _ _ rfl rfl rfl rfl
          case o8 =>
            intro dn a w' hdn hS hF K hK
            obtain ⟨v, h218, rfl⟩ := hF.val 7 218 (by kernel_rfl) (by kernel_rfl)
            subst hS
            have hc := hc1
            rw [if_pos (by kernel_rfl)]
            go_simp
            exact hK _ _ _ rfl rfl rfl rfl
          case o9 =>
            intro dn a w' hdn hS hF K hK
            obtain ⟨v, h219, rfl⟩ := hF.val 8 219 (by kernel_rfl) (by kernel_rfl)
            subst hS
            rw [if_pos (by kernel_rfl)]
            go_simp
            exact hK _ _ _ rfl rfl rfl rfl
          case o10 =>
            intro dn a w' hdn hS hF K hK
            obtain ⟨v, h220, rfl⟩ := hF.val 9 220 (by kernel_rfl) (by kernel_rfl)
            subst hS
            rw [if_pos (by kernel_rfl)]
            go_simp
            exact hK _ _ _ rfl rfl rfl rfl
          case o11 =>
            intro dn a w' hdn hS hF K hK
            obtain ⟨v, h215, rfl⟩ := hF.val 4 215 (by kernel_rfl) (by kernel_rfl)
            obtain ⟨v, h221, rfl⟩ := hF.val 10 221 (by kernel_rfl) (by kernel_rfl)
            subst hS
            rw [if_pos (by kernel_rfl)]
            go_simp
            exact hK _ _ _ rfl rfl rfl rfl
          case hend =>
            intro dn wp vs hdn hS hv
            subst hS
            have e0 : vs 0 = .pointer (some ⟨bb, 0, none⟩) := hv 0 (by decide)
            have eA : vs 11 = .slice (some ⟨g, 0, none⟩) names.length cap := hv 11 (by decide)
            clear hv
            simp only [putsL, List.take_succ_cons, List.take_zero, Nat.reduceAdd, Act.put, List.setIfInBounds_toArray, List.set_cons_zero, List.set_cons_succ, e0, eA]
            change wpOps _ _ _ [12, 13, 14] _ _
            refine wpOps_step rfl rfl (fun K hK => ?_)
            go_simp
            refine hK _ _ ?_
            clear hK
            refine wpOps_step rfl rfl (fun K hK => ?_)
            go_simp
            refine hK _ _ ?_
            clear hK
            refine wpOps_step rfl rfl (fun K hK => ?_)
            go_simp
            refine hK _ _ ?_
            clear hK
            simp only [wpOps]
            simp only [List.map_append, List.map_cons, List.map_nil] at hrow
            obtain ⟨hbd, hsq⟩ := push_done (w' := wD) (v' := .slice (some ⟨g, 0, none⟩) names.length cap) (n2 := names) hlx hlxB (Kept.refl _ _ _) rfl (row_take hrow (by simp)) (fun g' e => Or.inl (by simpa [Value.ownBlock] using e))
            have hsq := hsq.trans (Stp.of_below (by simpa using hlxB) (drewN_below _ 1))
            change Stp B bb _ _ _ (World.drew _) at hsq
            generalize (wD.setCell ⟨bb, 1, none⟩ (.slice (some ⟨g, 0, none⟩) names.length cap)).drew = wE at hsq ⊢
            have S5 := S4.out.trans hsq
            go_wp2
            go_ret
            refine ⟨⟨_, rfl, ?_⟩, S5⟩
            obtain ⟨_, hl, ⟨_, _, rfl, ⟨_, _, rfl, ⟨_, _, rfl, ⟨_, _, rfl, ⟨_, _, rfl, ⟨_, _, rfl, rfl, ⟨t0, rfl, hok_t0, hdp_t0, hln_t0⟩⟩, rfl⟩, ⟨t1, rfl, hok_t1, hdp_t1, hln_t1⟩⟩, rfl⟩, ⟨t2, rfl, hok_t2, hdp_t2, hln_t2⟩⟩, rfl⟩⟩ := hv9
            rw [hl]
            exact tree_ok (.l [.w [108, 101, 116], .l [.l [t0, t1]], t2]) _ (by simp [Tx.pr, Tx.prs]) (by simp [Tx.fit, Tx.fits, Tx.isL, hok_t0, hok_t1, hok_t2] <;> decide +kernel) (by simp only [Tx.dep, Tx.deps]; omega) (by simp only [List.length_append, List.length_cons, List.length_nil]; omega)
set_option maxRecDepth 100000 in
set_option maxHeartbeats 4000000 in
theorem expr_c14 {B bb n D M : Nat} (hD : 2 ≤ D) (hM : 20 ≤ M) (hM2 : M ≤ 1000000) (ih : ExprAt B bb n D M) (hn : n ≤ 900) (w : World) (lv : Value) (names : List ByteArray) (d k x y z : Int) (hd0 : 0 < d) (hd : d ≤ n + 1) (hB : B ≤ w.heap.size) (h : Bard w B bb lv names) (hT : TabB w B) (hN : NamesOk names (999 - n))
    (hx_k : i64B k) (hx_x : i64B x) (hx_y : i64B y) (hx_z : i64B z)
    (HN0 : Calls Tryz.prog 31 #[.pointer (some ⟨bb, 0, none⟩)] ((w.alloc (.cells #[.pointer (some ⟨bb, 0, none⟩)] 59)).alloc (.cells #[.int .i64 d] 3)) fun e w' => e = .returned (.agg #[.int .i64 k, .int .i64 x, .int .i64 y, .int .i64 z]) ∧ Bard w' B bb lv names ∧ Kept bb none ((w.alloc (.cells #[.pointer (some ⟨bb, 0, none⟩)] 59)).alloc (.cells #[.int .i64 d] 3)) w') (he : pick k 20 = 14) :
    Calls Tryz.prog 17 #[.pointer (some ⟨bb, 0, none⟩), .int .i64 d] w fun e w' => (∃ v, e = .returned v ∧ InL (Tr (D + 5) (3 * M + 100)) v) ∧ Stp B bb names names w w' := by
  have hlt := h.lt
  generalize hW1 : (w.alloc (.cells #[.pointer (some ⟨bb, 0, none⟩)] 59)).alloc (.cells #[.int .i64 d] 3) = W1 at HN0
  have hbel1 : Below w.heap.size w W1 := by rw [← hW1]; exact ((Below.refl _ _).alloc (Nat.le_refl _) _).alloc (by simp) _
  have hB1 : Bard W1 B bb lv names := h.keep hB hbel1
  have HN := hid HN0
  clear HN0
  have hsz : W1.heap.size = w.heap.size + 2 := by rw [← hW1]; simp
  have b0 : W1.cell? ⟨w.heap.size, 0, none⟩ = some (.pointer (some ⟨bb, 0, none⟩)) := by rw [← hW1, World.cell?_alloc_past _ _ _ (by simp), World.cell?_alloc_at _ _ _ _ rfl]; rfl
  have b1 : W1.cell? ⟨w.heap.size + 1, 0, none⟩ = some (.int .i64 d) := by rw [← hW1, World.cell?_alloc_at _ _ _ _ (by simp)]; rfl
  have hT1 : TabB W1 B := hT.below (hbel1.mono hB)
  have hmf : ∀ (fn : Fn) (first cap : Array Value) (w : World), (Instr.makeFunc fn first cap).run Tryz.prog w = .ok (.func fn first cap) w := fun _ _ _ _ => rfl
  have HNO := hid hN
  have HIH := hid ih
  have HB := hid h
  clear hN ih
  go_enter Tryz.func17, Tryz.ntmps17
  go_wp2_with fail
  have hcall := HN.out
  go_fit hcall
  clear hcall
  rintro e w1 ⟨rfl, hb1, hK1⟩
  have hz1 := hK1.size
  have b0' := (hK1.cell (p := ⟨w.heap.size, 0, none⟩) (by simp only; omega) (by simp only; omega) (by simp)).trans b0
  have b1' := (hK1.cell (p := ⟨w.heap.size + 1, 0, none⟩) (by simp only; omega) (by simp only; omega) (by simp)).trans b1
  have hT2 : TabB w1 B := hT1.below (hK1.below h.own (fun g hg => by cases hg) (by omega))
  have hq0 : w.heap.size < w1.heap.size := by omega
  have hq1 : w.heap.size + 1 < w1.heap.size := by omega
  go_wp2_with fail
  have hO := h.own
  generalize hW2 : w1.alloc (.cells #[.int .i64 k, .int .i64 x, .int .i64 y, .int .i64 z] 46) = W2
  have hbel2 : Below w1.heap.size w1 W2 := by rw [← hW2]; exact (Below.refl _ _).alloc (Nat.le_refl _) _
  have hS12 : Stp B bb names names w W2 := by
    intro l hl
    obtain rfl := h.det hl
    exact ⟨lv, hb1.keep (by omega) hbel2, ((Kept.of_below hbel1 (Nat.le_refl _)).trans (row := lv.ownBlock) (row' := lv.ownBlock) ⟨hK1.os, hK1.tape, hK1.output, hK1.size, fun k hk h1 _ => hK1.block k hk h1 (by simp)⟩ (fun g hg => Or.inl hg)).trans (row' := none) (Kept.of_below hbel2 (Nat.le_refl _)) (by simp), fun g hg => Or.inl hg⟩
  have hB2 : Bard W2 B bb lv names := hb1.keep (by omega) hbel2
  have hrow := fun g hg => (h.row_ge (g := g) hg).2
  have apt : ∀ b, w.heap.size ≤ b → b < W2.heap.size → Apart B bb b W2 := fun b h1 h2 => ⟨h2, by omega, fun l _ k e => by
    obtain rfl := hB2.det k
    have := hrow b e
    omega⟩
  have hz2 : w1.heap.size < W2.heap.size := by rw [← hW2]; simp
  have D0 : Hid (Desk W2 B bb names w.heap.size w1.heap.size d k x y z) := hid
    ⟨⟨lv, hB2⟩, hT2.below (hbel2.mono (by omega)), (hbel2.cell (p := ⟨w.heap.size, 0, none⟩) hq0).trans b0', (hbel2.cell (p := ⟨w.heap.size + 1, 0, none⟩) hq1).trans b1',
      by rw [← hW2, World.cell?_alloc_at _ _ _ _ rfl]; rfl, by rw [← hW2, World.cell?_alloc_at _ _ _ _ rfl]; rfl, by rw [← hW2, World.cell?_alloc_at _ _ _ _ rfl]; rfl, by rw [← hW2, World.cell?_alloc_at _ _ _ _ rfl]; rfl,
      apt _ (by omega) (by omega), apt _ (by omega) (by omega), apt _ (by omega) (by omega), by omega⟩
  have S0 := hid hS12
  have d0 := D0.out.c0
  have d1 := D0.out.c1
  have HP := hid (he ▸ picked_any k 20 W2 hx_k.1 hx_k.2 (by omega) (by omega))
  clear hW1 hW2 HN b0 b1 b0' b1' hT hT1 hT2 hb1 hK1 hbel1 hbel2 hB1 hB2 apt hrow hS12 hq0 hq1 hz1 hsz hlt hz2 he hO
  generalize w.heap.size = p at *
  generalize w1.heap.size = q at *
  have hcall := HP.out
  go_fit hcall
  clear hcall HP
  rintro e w3 ⟨rfl, rfl⟩
  have hU := fun (names : List ByteArray) (w' : World) (hd' : Desk w' B bb names p q d k x y z) (hN' : NamesOk names (1000 - n)) => sub_any HIH.out hd' hd0 hd (by omega) hN'
  have hE := fun (names : List ByteArray) (w' : World) (hd' : Desk w' B bb names p q d k x y z) (hN' : NamesOk names (1000 - n)) => expr_at HIH.out hd' hd0 hd hN'
  have HNO2 : Hid (NamesOk names (1000 - n)) := hid ⟨HNO.out.pos, Nat.le_trans HNO.out.len (by omega), HNO.out.ok⟩
  have hwr : IntKind.i64.wrap (d - 1) = d - 1 := by rw [IntKind.wrap_i64]; omega
  go_upto_region 37 with fail
  refine wp_region_invA (fun _ w' => Desk w' B bb names p q d k x y z ∧ Stp B bb names names w w') (fun _ => Stp B bb names names) (fun i v w' => match i with
    | 0 => ∃ b, v = .slice (some ⟨b, 0, none⟩) 2 2 ∧ RowT B bb b 2 2 20 w'
    | 1 => v = .pointer (some ⟨q, 1, none⟩)
    | 2 => v = .int .i64 x
    | 3 => ∃ j : Nat, v = .int .i64 j ∧ j < 2
    | 4 => ∃ b j, v = .pointer (some ⟨b, j, none⟩) ∧ j < 2 ∧ RowT B bb b 2 2 20 w'
    | 5 => InL (Tr 2 20) v
    | 6 => InL (Tr 2 20) v
    | _ => True) (by kernel_rfl) (by kernel_rfl) ?hst ?hmono ⟨?o0, ?o1, ?o2, ?o3, ?o4, ?o5, ?o6, trivial⟩ ?hend
  case hst => exact ⟨D0.out.step (Stp.of_below D0.out.size (drewN_below _ 0)), S0.out.trans (Stp.of_below D0.out.size (drewN_below _ 0))⟩
  case hmono =>
    intro i j v w1 w2 _ _ _ _ ⟨_, hS⟩ hv hR
    obtain ⟨l, hl⟩ := hS.1.bard
    rcases i with _ | _ | _ | _ | _ | _ | _ | i
    all_goals first | exact hv | (obtain ⟨b, h1, h2⟩ := hv; exact ⟨b, h1, h2.step hR hl⟩) | (obtain ⟨b, j, h1, h2, h3⟩ := hv; exact ⟨b, j, h1, h2, h3.step hR hl⟩)
  case o0 =>
    intro dn a w' _ hS hF K hK
    rw [if_pos (by kernel_rfl)]
    obtain ⟨l, hl⟩ := hS.1.bard
    go_simp
    have hs := Stp.of_below (bb := bb) (names := names) hS.1.size ((Below.refl w'.heap.size w').alloc (Nat.le_refl _) (.cells #[.string ⟨#[109]⟩, .string ⟨#[110]⟩] 9))
    refine hK _ _ _ rfl ⟨hS.1.step hs, hS.2.trans hs⟩ hs ⟨_, rfl, _, ⟨heap_alloc_new w' _, Apart.new hl hS.1.size _⟩, rfl, row_of ⟨word_ok (Nat.le_refl 2) (Nat.le_refl 20) [109] (by decide +kernel), word_ok (Nat.le_refl 2) (Nat.le_refl 20) [110] (by decide +kernel), trivial⟩⟩
  case o1 =>
    intro dn a w' _ hS hF K hK
    have h5 := hF.out 5 (by kernel_rfl) rfl
    rw [if_pos (by kernel_rfl)]
    go_simp
    exact hK _ _ _ rfl hS (Stp.refl _ _ _ _) rfl
  case o2 =>
    intro dn a w' _ hS hF K hK
    obtain ⟨v229, h229, rfl⟩ := hF.val 1 229 (by kernel_rfl) (by kernel_rfl)
    have hc := hS.1.c1
    rw [if_pos (by kernel_rfl)]
    go_simp
    exact hK _ _ _ rfl hS (Stp.refl _ _ _ _) rfl
  case o3 =>
    intro dn a w' _ hS hF K hK
    obtain ⟨v230, h230, rfl⟩ := hF.val 2 230 (by kernel_rfl) (by kernel_rfl)
    rw [if_pos (by kernel_rfl)]
    go_simp
    refine (picked_any x 2 w' hx_x.1 hx_x.2 (by omega) (by omega)).mono ?_
    rintro e w'' ⟨rfl, rfl⟩
    obtain ⟨j, hj, hjl⟩ := pick_nat x 2 (by omega)
    rw [hj]
    exact hK _ _ _ rfl hS (Stp.refl _ _ _ _) ⟨j, rfl, by omega⟩
  case o4 =>
    intro dn a w' _ hS hF K hK
    obtain ⟨v228, h228, b228, rfl, hr228⟩ := hF.val 0 228 (by kernel_rfl) (by kernel_rfl)
    obtain ⟨v231, h231, j231, rfl, hj231⟩ := hF.val 3 231 (by kernel_rfl) (by kernel_rfl)
    have hj' : (j231 : Int) < 2 := by omega
    rw [if_pos (by kernel_rfl)]
    go_simp
    exact hK _ _ _ rfl hS (Stp.refl _ _ _ _) ⟨b228, j231, rfl, by omega, hr228⟩
  case o5 =>
    intro dn a w' _ hS hF K hK
    obtain ⟨v232, h232, b232, j232, rfl, hj232, hr232⟩ := hF.val 4 232 (by kernel_rfl) (by kernel_rfl)
    obtain ⟨u, hc, hu⟩ := hr232.cell hj232
    rw [if_pos (by kernel_rfl)]
    go_simp
    exact hK _ _ _ rfl hS (Stp.refl _ _ _ _) hu
  case o6 =>
    intro dn a w' _ hS hF K hK
    obtain ⟨v233, h233, hl233⟩ := hF.val 5 233 (by kernel_rfl) (by kernel_rfl)
    obtain ⟨s233, rfl⟩ := inL_str hl233
    rw [if_pos (by kernel_rfl)]
    go_simp
    exact hK _ _ _ rfl hS (Stp.refl _ _ _ _) hl233
  case hend =>
    intro dn wB vs hS hv
    have hv10 : InL (Tr 2 20) (vs 6) := hv 6 (by decide)
    clear hv
    simp only [putsL, Nat.reduceAdd, Act.put, List.setIfInBounds_toArray, List.set_cons_zero, List.set_cons_succ]
    generalize vs 6 = vL at hv10 ⊢
    obtain ⟨s10, rfl⟩ := inL_str hv10
    have D2 := hid hS.1
    have S2 := hid hS.2
    clear hS
    go_upto_region 38 with fail
    obtain ⟨lx, hlx⟩ := D2.out.bard
    have hlxlt := hlx.lt
    have hlxB := D2.out.size
    refine wp_region_invL 8 (fun dn w' => Push p bb B lx names wB w' (dn 7 = false)) (fun i w w' => match i with | 6 => Kept bb lx.ownBlock w w' | 7 => Kept bb lx.ownBlock w w' | _ => w' = w) (fun i v w' => match i with
      | 0 => v = .pointer (some ⟨bb, 0, none⟩)
      | 1 => v = .pointer (some ⟨bb, 0, none⟩)
      | 2 => v = .pointer (some ⟨bb, 0, none⟩)
      | 3 => v = .pointer (some ⟨bb, 1, none⟩)
      | 4 => v = lx
      | 5 => v = .string s10
      | 6 => ∃ b, v = .slice (some ⟨b, 0, none⟩) 1 1 ∧ wB.heap.size ≤ b ∧ w'.heap[b]? = some (.cells #[.string s10] 9 (0, 0))
      | 7 => ∃ g cap, v = .slice (some ⟨g, 0, none⟩) (names.length + 1) cap ∧ w'.ownsRow B 9 1 v (names.length + 1) (names.map Value.string ++ [.string s10]) ∧ ∀ g', v.ownBlock = some g' → lx.ownBlock = some g' ∨ wB.heap.size ≤ g'
      | _ => True) (by kernel_rfl) (by kernel_rfl) (by kernel_rfl) ?hst ?hmono ⟨?o0, ?o1, ?o2, ?o3, ?o4, ?o5, ?o6, ?o7, trivial⟩ ?hend
    case hst => exact ⟨D2.out.box, rfl, Kept.of_below (drewN_below _ 1) (Nat.le_refl _), fun _ => hlx.keep D2.out.size (drewN_below _ 1)⟩
    case hmono =>
      intro i j v w1 w2 hi hj hne hwt hS hv hR
      rcases i with _ | _ | _ | _ | _ | _ | _ | _ | i
      · exact hv
      · exact hv
      · exact hv
      · exact hv
      · exact hv
      · exact hv
      · obtain ⟨b, rfl, h1, h2⟩ := hv
        have hk : Kept bb lx.ownBlock w1 w2 := by
          rcases j with _ | _ | _ | _ | _ | _ | _ | _ | j
          all_goals first | exact hR | (obtain rfl := hR; exact Kept.refl _ _ _)
        exact ⟨b, rfl, h1, (hk.block b (Array.getElem?_eq_some_iff.1 h2).1 (by omega) (fun e => by have := (hlx.row_ge e).2; omega)).trans h2⟩
      · rcases j with _ | _ | _ | _ | _ | _ | _ | _ | j
        all_goals first | (obtain rfl := hR; exact hv) | exact absurd rfl hne | exact absurd (hwt.symm.trans (by kernel_rfl : _ = true)) (by decide)
      · omega
    case o0 =>
      intro dn a w' hdn hS hF K hK
      have h2 := hF.out 2 (by kernel_rfl) rfl
      have hc := hS.box
      rw [if_pos (by kernel_rfl)]
      go_simp
      exact hK _ _ _ rfl (hS.not fun h => by simpa [upd] using h) rfl rfl
    case o1 =>
      intro dn a w' hdn hS hF K hK
      have h2 := hF.out 2 (by kernel_rfl) rfl
      have hc := hS.box
      rw [if_pos (by kernel_rfl)]
      go_simp
      exact hK _ _ _ rfl (hS.not fun h => by simpa [upd] using h) rfl rfl
    case o2 =>
      intro dn a w' hdn hS hF K hK
      obtain ⟨v, h235, rfl⟩ := hF.val 1 235 (by kernel_rfl) (by kernel_rfl)
      rw [if_pos (by kernel_rfl)]
      go_simp
      exact hK _ _ _ rfl (hS.not fun h => by simpa [upd] using h) rfl rfl
    case o3 =>
      intro dn a w' hdn hS hF K hK
      obtain ⟨v, h236, rfl⟩ := hF.val 2 236 (by kernel_rfl) (by kernel_rfl)
      rw [if_pos (by kernel_rfl)]
      go_simp
      exact hK _ _ _ rfl (hS.not fun h => by simpa [upd] using h) rfl rfl
    case o4 =>
      intro dn a w' hdn hS hF K hK
      obtain ⟨v, h237, rfl⟩ := hF.val 3 237 (by kernel_rfl) (by kernel_rfl)
      have hc := (hS.cell1 hlx).1
      rw [if_pos (by kernel_rfl)]
      go_simp
      exact hK _ _ _ rfl (hS.not fun h => by simpa [upd] using h) rfl rfl
    case o5 =>
      intro dn a w' hdn hS hF K hK
      have h10 := hF.out 10 (by kernel_rfl) rfl
      rw [if_pos (by kernel_rfl)]
      go_simp
      exact hK _ _ _ rfl (hS.not fun h => by simpa [upd] using h) rfl rfl
    case o6 =>
      intro dn a w' hdn hS hF K hK
      obtain ⟨v, h239, rfl⟩ := hF.val 5 239 (by kernel_rfl) (by kernel_rfl)
      rw [if_pos (by kernel_rfl)]
      have hz := hS.kept.size
      go_simp
      exact hK _ _ _ rfl ((hS.alloc (by omega) (by omega) _).not fun h => by simpa [upd] using h) (Kept.of_below ((Below.refl _ _).alloc (Nat.le_refl _) _) (Nat.le_refl _)) ⟨_, rfl, by omega, heap_alloc_new w' _⟩
    case o7 =>
      intro dn a w' hdn hS hF K hK
      obtain ⟨v, h238, rfl⟩ := hF.val 4 238 (by kernel_rfl) (by kernel_rfl)
      obtain ⟨v, h240, b, rfl, hb1, hb2⟩ := hF.val 6 240 (by kernel_rfl) (by kernel_rfl)
      rw [if_pos (by kernel_rfl)]
      have hz := hS.kept.size
      have hbd := hS.bard (hdn _ (Or.inl rfl))
      obtain ⟨i0, hi, hz0, hz1, hz2⟩ := info_parts infoTxt
      have hlenN := HNO.out.len
      refine wp_append_lies (P := Tryz.prog) w' (.tmp 238) (.tmp 240) 48 rfl B 9 i0 (.string ⟨#[]⟩) 1 16 Tryz.underlying48 hi hz0 hz1 hz2 rfl (by decide) v names.length (names.map Value.string) (by simp [Act.eval, h238]) hbd.row ⟨b, 0, none⟩ 1 1 [.string s10] (by simp [Act.eval, h240]) rfl (World.news_of_block hb2) (by simp [Value.oneCell']) (by decide) (by unfold maxLen; omega) (by omega) (by omega) _ rfl ?_
      intro g cap w'' hr hg ha hl
      have hk := grown_kept (bb := bb) hg
      refine hK _ _ _ rfl ⟨(hk.cell (World.block_lt_of_cell? w' _ hS.box) D2.out.a0.ne (D2.out.a0.row _ _ hlx)).trans hS.box, (hg.block bb (by omega) (fun e => hlx.ne e.symm)).trans hS.blk, hS.kept.trans hk (fun g hg => Or.inl hg), fun h => by simp [upd] at h⟩ hk ⟨g, cap, rfl, hr, fun g' e => ?_⟩
      simp only [Value.ownBlock, Option.some.injEq] at e
      rcases ha with ha | ha
      · exact Or.inl (by rw [ha, e])
      · exact Or.inr (by omega)
    case hend =>
      intro dn wp vs hdn hS hv
      have e0 : vs 0 = .pointer (some ⟨bb, 0, none⟩) := hv 0 (by decide)
      obtain ⟨g, cap, eA, hrow, hown⟩ := hv 7 (by decide)
      clear hv
      rw [eA] at hrow hown
      obtain ⟨hc1, hf1⟩ := hS.cell1 hlx
      simp only [putsL, List.take_succ_cons, List.take_zero, Nat.reduceAdd, Act.put, List.setIfInBounds_toArray, List.set_cons_zero, List.set_cons_succ, e0, eA]
      change wpOps _ _ _ [8, 9, 10] _ _
      refine wpOps_step rfl rfl (fun K hK => ?_)
      go_simp
      refine hK _ _ ?_
      clear hK
      refine wpOps_step rfl rfl (fun K hK => ?_)
      go_simp
      refine hK _ _ ?_
      clear hK
      refine wpOps_step rfl rfl (fun K hK => ?_)
      go_simp
      refine hK _ _ ?_
      clear hK
      simp only [wpOps]
      obtain ⟨hbd, hsq⟩ := push_done (n2 := names ++ [s10]) hlx hlxB hS.kept hS.blk (by simpa using hrow) hown
      clear hS hc1 hf1 hrow hown
      generalize wp.setCell ⟨bb, 1, none⟩ (.slice (some ⟨g, 0, none⟩) (names.length + 1) cap) = wC at hbd hsq ⊢
      have D3 := hid (D2.out.step hsq)
      have S3 := hid (S2.out.trans hsq)
      clear hbd hsq
      have HN2 : Hid (NamesOk (names ++ [s10]) (1000 - n)) := hid ⟨by simp, by have := HNO.out.len; simp only [List.length_append, List.length_cons, List.length_nil]; omega, fun nm h => by
        rcases List.mem_append.1 h with h | h
        · exact HNO.out.ok nm h
        · rw [List.mem_singleton.1 h]; exact hv10⟩
      go_upto_region 39 with fail
      refine wp_region_invA (fun _ w' => Desk w' B bb (names ++ [s10]) p q d k x y z ∧ Stp B bb names (names ++ [s10]) w w') (fun _ => Stp B bb (names ++ [s10]) (names ++ [s10])) (fun i v w' => match i with
        | 0 => InL (Tr 2 20) v
        | 1 => InL (Cat (One [40, 40, 108, 97, 109, 98, 100, 97, 32, 40]) (Tr 2 20)) v
        | 2 => InL (Cat (Cat (One [40, 40, 108, 97, 109, 98, 100, 97, 32, 40]) (Tr 2 20)) (One [41, 32])) v
        | 3 => v = .pointer (some ⟨bb, 0, none⟩)
        | 4 => v = .int .i64 d
        | 5 => v = .int .i64 (d - 1)
        | 6 => InL (Tr D M) v
        | 7 => InL (Cat (Cat (Cat (One [40, 40, 108, 97, 109, 98, 100, 97, 32, 40]) (Tr 2 20)) (One [41, 32])) (Tr D M)) v
        | 8 => InL (Cat (Cat (Cat (Cat (One [40, 40, 108, 97, 109, 98, 100, 97, 32, 40]) (Tr 2 20)) (One [41, 32])) (Tr D M)) (One [41])) v
        | 9 => InL (Cat (Cat (Cat (Cat (One [40, 40, 108, 97, 109, 98, 100, 97, 32, 40]) (Tr 2 20)) (One [41, 32])) (Tr D M)) (One [41])) v
        | _ => True) (by kernel_rfl) (by kernel_rfl) ?hst ?hmono ⟨?o0, ?o1, ?o2, ?o3, ?o4, ?o5, ?o6, ?o7, ?o8, ?o9, trivial⟩ ?hend
      case hst => exact ⟨D3.out.step (Stp.of_below D3.out.size (drewN_below _ 0)), S3.out.trans (Stp.of_below D3.out.size (drewN_below _ 0))⟩
      case hmono =>
        intro i j v w1 w2 _ _ _ _ ⟨_, hS⟩ hv hR
        obtain ⟨l, hl⟩ := hS.1.bard
        rcases i with _ | _ | _ | _ | _ | _ | _ | _ | _ | _ | i
        all_goals first | exact hv | (obtain ⟨b, h1, h2⟩ := hv; exact ⟨b, h1, h2.step hR hl⟩) | (obtain ⟨b, j, h1, h2, h3⟩ := hv; exact ⟨b, j, h1, h2, h3.step hR hl⟩)
      case o0 =>
        intro dn a w' _ hS hF K hK
        have h10 := hF.out 10 (by kernel_rfl) rfl
        rw [if_pos (by kernel_rfl)]
        go_simp
        exact hK _ _ _ rfl hS (Stp.refl _ _ _ _) hv10
      case o1 =>
        intro dn a w' _ hS hF K hK
        obtain ⟨v244, h244, hl244⟩ := hF.val 0 244 (by kernel_rfl) (by kernel_rfl)
        obtain ⟨s244, rfl⟩ := inL_str hl244
        rw [if_pos (by kernel_rfl)]
        go_simp
        have hz0 := (Bnd.one [40, 40, 108, 97, 109, 98, 100, 97, 32, 40]).size (InL.one [40, 40, 108, 97, 109, 98, 100, 97, 32, 40])
        have hz1 := (Bnd.tr 2 20).size (hl244)
        try simp only [List.length_cons, List.length_nil] at hz0 hz1
        rw [if_neg (by omega)]
        exact hK _ _ _ rfl hS (Stp.refl _ _ _ _) (InL.cat (InL.one [40, 40, 108, 97, 109, 98, 100, 97, 32, 40]) (hl244))
      case o2 =>
        intro dn a w' _ hS hF K hK
        obtain ⟨v245, h245, hl245⟩ := hF.val 1 245 (by kernel_rfl) (by kernel_rfl)
        obtain ⟨s245, rfl⟩ := inL_str hl245
        rw [if_pos (by kernel_rfl)]
        go_simp
        have hz0 := ((Bnd.one [40, 40, 108, 97, 109, 98, 100, 97, 32, 40]).cat (Bnd.tr 2 20)).size (hl245)
        have hz1 := (Bnd.one [41, 32]).size (InL.one [41, 32])
        try simp only [List.length_cons, List.length_nil] at hz0 hz1
        rw [if_neg (by omega)]
        exact hK _ _ _ rfl hS (Stp.refl _ _ _ _) (InL.cat (hl245) (InL.one [41, 32]))
      case o3 =>
        intro dn a w' _ hS hF K hK
        have h2 := hF.out 2 (by kernel_rfl) rfl
        have hc := hS.1.box
        rw [if_pos (by kernel_rfl)]
        go_simp
        exact hK _ _ _ rfl hS (Stp.refl _ _ _ _) rfl
      case o4 =>
        intro dn a w' _ hS hF K hK
        have h3 := hF.out 3 (by kernel_rfl) rfl
        have hc := hS.1.dep
        rw [if_pos (by kernel_rfl)]
        go_simp
        exact hK _ _ _ rfl hS (Stp.refl _ _ _ _) rfl
      case o5 =>
        intro dn a w' _ hS hF K hK
        obtain ⟨v248, h248, rfl⟩ := hF.val 4 248 (by kernel_rfl) (by kernel_rfl)
        rw [if_pos (by kernel_rfl)]
        go_simp
        exact hK _ _ _ rfl hS (Stp.refl _ _ _ _) rfl
      case o6 =>
        intro dn a w' _ hS hF K hK
        obtain ⟨v247, h247, rfl⟩ := hF.val 3 247 (by kernel_rfl) (by kernel_rfl)
        obtain ⟨v249, h249, rfl⟩ := hF.val 5 249 (by kernel_rfl) (by kernel_rfl)
        rw [if_pos (by kernel_rfl)]
        go_simp
        refine (hE (names ++ [s10]) w' hS.1 HN2.out).mono ?_
        rintro e w'' ⟨⟨v, rfl, hv⟩, hs⟩
        exact hK _ _ _ rfl ⟨hS.1.step hs, hS.2.trans hs⟩ hs hv
      case o7 =>
        intro dn a w' _ hS hF K hK
        obtain ⟨v246, h246, hl246⟩ := hF.val 2 246 (by kernel_rfl) (by kernel_rfl)
        obtain ⟨s246, rfl⟩ := inL_str hl246
        obtain ⟨v250, h250, hl250⟩ := hF.val 6 250 (by kernel_rfl) (by kernel_rfl)
        obtain ⟨s250, rfl⟩ := inL_str hl250
        rw [if_pos (by kernel_rfl)]
        go_simp
        have hz0 := (((Bnd.one [40, 40, 108, 97, 109, 98, 100, 97, 32, 40]).cat (Bnd.tr 2 20)).cat (Bnd.one [41, 32])).size (hl246)
        have hz1 := (Bnd.tr D M).size (hl250)
        try simp only [List.length_cons, List.length_nil] at hz0 hz1
        rw [if_neg (by omega)]
        exact hK _ _ _ rfl hS (Stp.refl _ _ _ _) (InL.cat (hl246) (hl250))
      case o8 =>
        intro dn a w' _ hS hF K hK
        obtain ⟨v251, h251, hl251⟩ := hF.val 7 251 (by kernel_rfl) (by kernel_rfl)
        obtain ⟨s251, rfl⟩ := inL_str hl251
        rw [if_pos (by kernel_rfl)]
        go_simp
        have hz0 := ((((Bnd.one [40, 40, 108, 97, 109, 98, 100, 97, 32, 40]).cat (Bnd.tr 2 20)).cat (Bnd.one [41, 32])).cat (Bnd.tr D M)).size (hl251)
        have hz1 := (Bnd.one [41]).size (InL.one [41])
        try simp only [List.length_cons, List.length_nil] at hz0 hz1
        rw [if_neg (by omega)]
        exact hK _ _ _ rfl hS (Stp.refl _ _ _ _) (InL.cat (hl251) (InL.one [41]))
      case o9 =>
        intro dn a w' _ hS hF K hK
        obtain ⟨v252, h252, hl252⟩ := hF.val 8 252 (by kernel_rfl) (by kernel_rfl)
        obtain ⟨s252, rfl⟩ := inL_str hl252
        rw [if_pos (by kernel_rfl)]
        go_simp
        exact hK _ _ _ rfl hS (Stp.refl _ _ _ _) hl252
      case hend =>
        intro dn wD vs hS hv
        have hv11 : InL (Cat (Cat (Cat (Cat (One [40, 40, 108, 97, 109, 98, 100, 97, 32, 40]) (Tr 2 20)) (One [41, 32])) (Tr D M)) (One [41])) (vs 9) := hv 9 (by decide)
        clear hv
        simp only [putsL, Nat.reduceAdd, Act.put, List.setIfInBounds_toArray, List.set_cons_zero, List.set_cons_succ]
        generalize vs 9 = vL at hv11 ⊢
        obtain ⟨s11, rfl⟩ := inL_str hv11
        have D4 := hid hS.1
        have S4 := hid hS.2
        clear hS
        go_upto_region 40 with fail
        obtain ⟨lx, hlx⟩ := D4.out.bard
        have hlxB := D4.out.size
        have hbx := D4.out.box
        have hlen2 : (names ++ [s10]).length = names.length + 1 := by simp
        obtain ⟨g, cap, rfl, hcp, hcm, _⟩ := names_cell hlx.row (by omega)
        obtain ⟨hc1, hf1⟩ := hlx.cell1
        have hrow := hlx.row
        rw [hlen2] at hrow hcp hc1
        have hwp : IntKind.i64.wrap ((names.length : Int) + 1 - 1) = names.length := by have := HNO.out.len; rw [IntKind.wrap_i64]; omega
        have hwq : IntKind.i64.wrap (names.length : Int) = names.length := by have := HNO.out.len; rw [IntKind.wrap_i64]; omega
        have hcp2 : (names.length : Int) ≤ cap := by omega
        have hcm2 : cap ≤ 9223372036854775807 := by unfold maxLen at hcm; omega
        refine wp_region_invL 12 (fun _ w' => w' = wD.drew) (fun _ w w' => w' = w) (fun i v w' => match i with
          | 0 => v = .pointer (some ⟨bb, 0, none⟩)
          | 1 => v = .pointer (some ⟨bb, 0, none⟩)
          | 2 => v = .pointer (some ⟨bb, 0, none⟩)
          | 3 => v = .pointer (some ⟨bb, 1, none⟩)
          | 4 => v = .slice (some ⟨g, 0, none⟩) (names.length + 1) cap
          | 5 => v = .pointer (some ⟨bb, 0, none⟩)
          | 6 => v = .pointer (some ⟨bb, 0, none⟩)
          | 7 => v = .pointer (some ⟨bb, 1, none⟩)
          | 8 => v = .slice (some ⟨g, 0, none⟩) (names.length + 1) cap
          | 9 => v = .int .i64 ((names.length : Int) + 1)
          | 10 => v = .int .i64 (names.length : Int)
          | 11 => v = .slice (some ⟨g, 0, none⟩) names.length cap
          | _ => True) (by kernel_rfl) (by kernel_rfl) (by kernel_rfl) rfl ?hmono ⟨?o0, ?o1, ?o2, ?o3, ?o4, ?o5, ?o6, ?o7, ?o8, ?o9, ?o10, ?o11, trivial⟩ ?hend
        case hmono =>
          intro i j v w1 w2 hi hj hne hwt hS hv hR
          obtain rfl := hR
          exact hv
        case o0 =>
          intro dn a w' hdn hS hF K hK
          have h2 := hF.out 2 (by kernel_rfl) rfl
          subst hS
          have hc := hbx
          rw [if_pos (by kernel_rfl)]
          go_simp
          exact hK _ _ _ rfl rfl rfl rfl
        case o1 =>
          intro dn a w' hdn hS hF K hK
          have h2 := hF.out 2 (by kernel_rfl) rfl
          subst hS
          have hc := hbx
          rw [if_pos (by kernel_rfl)]
          go_simp
          exact hK _ _ _ rfl rfl rfl rfl
        case o2 =>
          intro dn a w' hdn hS hF K hK
          obtain ⟨v, h254, rfl⟩ := hF.val 1 254 (by kernel_rfl) (by kernel_rfl)
          subst hS
          rw [if_pos (by kernel_rfl)]
          go_simp
          exact hK _ _ _ rfl rfl rfl rfl
        case o3 =>
          intro dn a w' hdn hS hF K hK
          obtain ⟨v, h255, rfl⟩ := hF.val 2 255 (by kernel_rfl) (by kernel_rfl)
          subst hS
          rw [if_pos (by kernel_rfl)]
          go_simp
          exact hK _ _ _ rfl rfl rfl rfl
        case o4 =>
          intro dn a w' hdn hS hF K hK
          obtain ⟨v, h256, rfl⟩ := hF.val 3 256 (by kernel_rfl) (by kernel_rfl)
          subst hS
          have hc := hc1
          rw [if_pos (by kernel_rfl)]
          go_simp
          exact hK _ _ _ rfl rfl rfl rfl
        case o5 =>
          intro dn a w' hdn hS hF K hK
          have h2 := hF.out 2 (by kernel_rfl) rfl
          subst hS
          have hc := hbx
          rw [if_pos (by kernel_rfl)]
          go_simp
          exact hK _ _ _ rfl rfl rfl rfl
        case o6 =>
          intro dn a w' hdn hS hF K hK
          obtain ⟨v, h258, rfl⟩ := hF.val 5 258 (by kernel_rfl) (by kernel_rfl)
          subst hS
          rw [if_pos (by kernel_rfl)]
          go_simp
          exact hK _ _ _ rfl rfl rfl rfl
        case o7 =>
          intro dn a w' hdn hS hF K hK
          obtain ⟨v, h259, rfl⟩ := hF.val 6 259 (by kernel_rfl) (by kernel_rfl)
          subst hS
          rw [if_pos (by kernel_rfl)]
          go_simp
          exact hK _ _ _ rfl rfl rfl rfl
        case o8 =>
          intro dn a w' hdn hS hF K hK
          obtain ⟨v, h260, rfl⟩ := hF.val 7 260 (by kernel_rfl) (by kernel_rfl)
          subst hS
          have hc := hc1
          rw [if_pos (by kernel_rfl)]
          go_simp
          exact hK _ _ _ rfl rfl rfl rfl
        case o9 =>
          intro dn a w' hdn hS hF K hK
          obtain ⟨v, h261, rfl⟩ := hF.val 8 261 (by kernel_rfl) (by kernel_rfl)
          subst hS
          rw [if_pos (by kernel_rfl)]
          go_simp
          exact hK _ _ _ rfl rfl rfl rfl
        case o10 =>
          intro dn a w' hdn hS hF K hK
          obtain ⟨v, h262, rfl⟩ := hF.val 9 262 (by kernel_rfl) (by kernel_rfl)
          subst hS
          rw [if_pos (by kernel_rfl)]
          go_simp
          exact hK _ _ _ rfl rfl rfl rfl
        case o11 =>
          intro dn a w' hdn hS hF K hK
          obtain ⟨v, h257, rfl⟩ := hF.val 4 257 (by kernel_rfl) (by kernel_rfl)
          obtain ⟨v, h263, rfl⟩ := hF.val 10 263 (by kernel_rfl) (by kernel_rfl)
          subst hS
          rw [if_pos (by kernel_rfl)]
          go_simp
          exact hK _ _ _ rfl rfl rfl rfl
        case hend =>
          intro dn wp vs hdn hS hv
          subst hS
          have e0 : vs 0 = .pointer (some ⟨bb, 0, none⟩) := hv 0 (by decide)
          have eA : vs 11 = .slice (some ⟨g, 0, none⟩) names.length cap := hv 11 (by decide)
          clear hv
          simp only [putsL, List.take_succ_cons, List.take_zero, Nat.reduceAdd, Act.put, List.setIfInBounds_toArray, List.set_cons_zero, List.set_cons_succ, e0, eA]
          change wpOps _ _ _ [12, 13, 14] _ _
          refine wpOps_step rfl rfl (fun K hK => ?_)
          go_simp
          refine hK _ _ ?_
          clear hK
          refine wpOps_step rfl rfl (fun K hK => ?_)
          go_simp
          refine hK _ _ ?_
          clear hK
          refine wpOps_step rfl rfl (fun K hK => ?_)
          go_simp
          refine hK _ _ ?_
          clear hK
          simp only [wpOps]
          simp only [List.map_append, List.map_cons, List.map_nil] at hrow
          obtain ⟨hbd, hsq⟩ := push_done (w' := wD) (v' := .slice (some ⟨g, 0, none⟩) names.length cap) (n2 := names) hlx hlxB (Kept.refl _ _ _) rfl (row_take hrow (by simp)) (fun g' e => Or.inl (by simpa [Value.ownBlock] using e))
          have hsq := hsq.trans (Stp.of_below (by simpa using hlxB) (drewN_below _ 1))
          change Stp B bb _ _ _ (World.drew _) at hsq
          generalize (wD.setCell ⟨bb, 1, none⟩ (.slice (some ⟨g, 0, none⟩) names.length cap)).drew = wE at hsq ⊢
          have S5 := hid (S4.out.trans hsq)
          have D5 := hid (D4.out.step hsq)
          go_upto_region 41 with fail
          refine wp_region_invA (fun _ w' => Desk w' B bb names p q d k x y z ∧ Stp B bb names names w w') (fun _ => Stp B bb names names) (fun i v w' => match i with
            | 0 => InL (Cat (Cat (Cat (Cat (One [40, 40, 108, 97, 109, 98, 100, 97, 32, 40]) (Tr 2 20)) (One [41, 32])) (Tr D M)) (One [41])) v
            | 1 => InL (Cat (Cat (Cat (Cat (Cat (One [40, 40, 108, 97, 109, 98, 100, 97, 32, 40]) (Tr 2 20)) (One [41, 32])) (Tr D M)) (One [41])) (One [32])) v
            | 2 => v = .func (.func 33) #[] #[.pointer (some ⟨p, 0, none⟩), .pointer (some ⟨p + 1, 0, none⟩)]
            | 3 => InL (Tr D M) v
            | 4 => InL (Cat (Cat (Cat (Cat (Cat (Cat (One [40, 40, 108, 97, 109, 98, 100, 97, 32, 40]) (Tr 2 20)) (One [41, 32])) (Tr D M)) (One [41])) (One [32])) (Tr D M)) v
            | 5 => InL (Cat (Cat (Cat (Cat (Cat (Cat (Cat (One [40, 40, 108, 97, 109, 98, 100, 97, 32, 40]) (Tr 2 20)) (One [41, 32])) (Tr D M)) (One [41])) (One [32])) (Tr D M)) (One [41])) v
            | 6 => InL (Cat (Cat (Cat (Cat (Cat (Cat (Cat (One [40, 40, 108, 97, 109, 98, 100, 97, 32, 40]) (Tr 2 20)) (One [41, 32])) (Tr D M)) (One [41])) (One [32])) (Tr D M)) (One [41])) v
            | _ => True) (by kernel_rfl) (by kernel_rfl) ?hst ?hmono ⟨?o0, ?o1, ?o2, ?o3, ?o4, ?o5, ?o6, trivial⟩ ?hend
          case hst => exact ⟨D5.out.step (Stp.of_below D5.out.size (drewN_below _ 0)), S5.out.trans (Stp.of_below D5.out.size (drewN_below _ 0))⟩
          case hmono =>
            intro i j v w1 w2 _ _ _ _ ⟨_, hS⟩ hv hR
            obtain ⟨l, hl⟩ := hS.1.bard
            rcases i with _ | _ | _ | _ | _ | _ | _ | i
            all_goals first | exact hv | (obtain ⟨b, h1, h2⟩ := hv; exact ⟨b, h1, h2.step hR hl⟩) | (obtain ⟨b, j, h1, h2, h3⟩ := hv; exact ⟨b, j, h1, h2, h3.step hR hl⟩)
          case o0 =>
            intro dn a w' _ hS hF K hK
            have h11 := hF.out 11 (by kernel_rfl) rfl
            rw [if_pos (by kernel_rfl)]
            go_simp
            exact hK _ _ _ rfl hS (Stp.refl _ _ _ _) hv11
          case o1 =>
            intro dn a w' _ hS hF K hK
            obtain ⟨v267, h267, hl267⟩ := hF.val 0 267 (by kernel_rfl) (by kernel_rfl)
            obtain ⟨s267, rfl⟩ := inL_str hl267
            rw [if_pos (by kernel_rfl)]
            go_simp
            have hz0 := (((((Bnd.one [40, 40, 108, 97, 109, 98, 100, 97, 32, 40]).cat (Bnd.tr 2 20)).cat (Bnd.one [41, 32])).cat (Bnd.tr D M)).cat (Bnd.one [41])).size (hl267)
            have hz1 := (Bnd.one [32]).size (InL.one [32])
            try simp only [List.length_cons, List.length_nil] at hz0 hz1
            rw [if_neg (by omega)]
            exact hK _ _ _ rfl hS (Stp.refl _ _ _ _) (InL.cat (hl267) (InL.one [32]))
          case o2 =>
            intro dn a w' _ hS hF K hK
            have h6 := hF.out 6 (by kernel_rfl) rfl
            rw [if_pos (by kernel_rfl)]
            go_simp
            exact hK _ _ _ rfl hS (Stp.refl _ _ _ _) rfl
          case o3 =>
            intro dn a w' _ hS hF K hK
            obtain ⟨v269, h269, rfl⟩ := hF.val 2 269 (by kernel_rfl) (by kernel_rfl)
            rw [if_pos (by kernel_rfl)]
            go_simp
            refine (hU names w' hS.1 HNO2.out).mono ?_
            rintro e w'' ⟨⟨v, rfl, hv⟩, hs⟩
            exact hK _ _ _ rfl ⟨hS.1.step hs, hS.2.trans hs⟩ hs hv
          case o4 =>
            intro dn a w' _ hS hF K hK
            obtain ⟨v268, h268, hl268⟩ := hF.val 1 268 (by kernel_rfl) (by kernel_rfl)
            obtain ⟨s268, rfl⟩ := inL_str hl268
            obtain ⟨v270, h270, hl270⟩ := hF.val 3 270 (by kernel_rfl) (by kernel_rfl)
            obtain ⟨s270, rfl⟩ := inL_str hl270
            rw [if_pos (by kernel_rfl)]
            go_simp
            have hz0 := ((((((Bnd.one [40, 40, 108, 97, 109, 98, 100, 97, 32, 40]).cat (Bnd.tr 2 20)).cat (Bnd.one [41, 32])).cat (Bnd.tr D M)).cat (Bnd.one [41])).cat (Bnd.one [32])).size (hl268)
            have hz1 := (Bnd.tr D M).size (hl270)
            try simp only [List.length_cons, List.length_nil] at hz0 hz1
            rw [if_neg (by omega)]
            exact hK _ _ _ rfl hS (Stp.refl _ _ _ _) (InL.cat (hl268) (hl270))
          case o5 =>
            intro dn a w' _ hS hF K hK
            obtain ⟨v271, h271, hl271⟩ := hF.val 4 271 (by kernel_rfl) (by kernel_rfl)
            obtain ⟨s271, rfl⟩ := inL_str hl271
            rw [if_pos (by kernel_rfl)]
            go_simp
            have hz0 := (((((((Bnd.one [40, 40, 108, 97, 109, 98, 100, 97, 32, 40]).cat (Bnd.tr 2 20)).cat (Bnd.one [41, 32])).cat (Bnd.tr D M)).cat (Bnd.one [41])).cat (Bnd.one [32])).cat (Bnd.tr D M)).size (hl271)
            have hz1 := (Bnd.one [41]).size (InL.one [41])
            try simp only [List.length_cons, List.length_nil] at hz0 hz1
            rw [if_neg (by omega)]
            exact hK _ _ _ rfl hS (Stp.refl _ _ _ _) (InL.cat (hl271) (InL.one [41]))
          case o6 =>
            intro dn a w' _ hS hF K hK
            obtain ⟨v272, h272, hl272⟩ := hF.val 5 272 (by kernel_rfl) (by kernel_rfl)
            obtain ⟨s272, rfl⟩ := inL_str hl272
            rw [if_pos (by kernel_rfl)]
            go_simp
            exact hK _ _ _ rfl hS (Stp.refl _ _ _ _) hl272
          case hend =>
            intro dn wF vs hS hv
            have hv4 : InL (Cat (Cat (Cat (Cat (Cat (Cat (Cat (One [40, 40, 108, 97, 109, 98, 100, 97, 32, 40]) (Tr 2 20)) (One [41, 32])) (Tr D M)) (One [41])) (One [32])) (Tr D M)) (One [41])) (vs 6) := hv 6 (by decide)
            clear hv
            simp only [putsL, Nat.reduceAdd, Act.put, List.setIfInBounds_toArray, List.set_cons_zero, List.set_cons_succ]
            generalize vs 6 = vL at hv4 ⊢
            obtain ⟨s4, rfl⟩ := inL_str hv4
            have D6 := hid hS.1
            have S6 := hid hS.2
            clear hS
            go_wp2
            go_ret
            refine ⟨⟨_, rfl, ?_⟩, S6.out⟩
            obtain ⟨_, hl, ⟨_, _, rfl, ⟨_, _, rfl, ⟨_, _, rfl, ⟨_, _, rfl, ⟨_, _, rfl, ⟨_, _, rfl, ⟨_, _, rfl, rfl, ⟨t0, rfl, hok_t0, hdp_t0, hln_t0⟩⟩, rfl⟩, ⟨t1, rfl, hok_t1, hdp_t1, hln_t1⟩⟩, rfl⟩, rfl⟩, ⟨t2, rfl, hok_t2, hdp_t2, hln_t2⟩⟩, rfl⟩⟩ := hv4
            rw [hl]
            exact tree_ok (.l [.l [.w [108, 97, 109, 98, 100, 97], .l [t0], t1], t2]) _ (by simp [Tx.pr, Tx.prs]) (by simp [Tx.fit, Tx.fits, Tx.isL, hok_t0, hok_t1, hok_t2] <;> decide +kernel) (by simp only [Tx.dep, Tx.deps]; omega) (by simp only [List.length_append, List.length_cons, List.length_nil]; omega)
set_option maxRecDepth 100000 in
set_option maxHeartbeats 4000000 in
theorem expr_c18 {B bb n D M : Nat} (hD : 2 ≤ D) (hM : 20 ≤ M) (hM2 : M ≤ 1000000) (ih : ExprAt B bb n D M) (hn : n ≤ 900) (w : World) (lv : Value) (names : List ByteArray) (d k x y z : Int) (hd0 : 0 < d) (hd : d ≤ n + 1) (hB : B ≤ w.heap.size) (h : Bard w B bb lv names) (hT : TabB w B) (hN : NamesOk names (999 - n))
    (hx_k : i64B k) (hx_x : i64B x) (hx_y : i64B y) (hx_z : i64B z)
    (HN0 : Calls Tryz.prog 31 #[.pointer (some ⟨bb, 0, none⟩)] ((w.alloc (.cells #[.pointer (some ⟨bb, 0, none⟩)] 59)).alloc (.cells #[.int .i64 d] 3)) fun e w' => e = .returned (.agg #[.int .i64 k, .int .i64 x, .int .i64 y, .int .i64 z]) ∧ Bard w' B bb lv names ∧ Kept bb none ((w.alloc (.cells #[.pointer (some ⟨bb, 0, none⟩)] 59)).alloc (.cells #[.int .i64 d] 3)) w') (he : pick k 20 = 18) :
    Calls Tryz.prog 17 #[.pointer (some ⟨bb, 0, none⟩), .int .i64 d] w fun e w' => (∃ v, e = .returned v ∧ InL (Tr (D + 5) (3 * M + 100)) v) ∧ Stp B bb names names w w' := by
  have hlt := h.lt
  generalize hW1 : (w.alloc (.cells #[.pointer (some ⟨bb, 0, none⟩)] 59)).alloc (.cells #[.int .i64 d] 3) = W1 at HN0
  have hbel1 : Below w.heap.size w W1 := by rw [← hW1]; exact ((Below.refl _ _).alloc (Nat.le_refl _) _).alloc (by simp) _
  have hB1 : Bard W1 B bb lv names := h.keep hB hbel1
  have HN := hid HN0
  clear HN0
  have hsz : W1.heap.size = w.heap.size + 2 := by rw [← hW1]; simp
  have b0 : W1.cell? ⟨w.heap.size, 0, none⟩ = some (.pointer (some ⟨bb, 0, none⟩)) := by rw [← hW1, World.cell?_alloc_past _ _ _ (by simp), World.cell?_alloc_at _ _ _ _ rfl]; rfl
  have b1 : W1.cell? ⟨w.heap.size + 1, 0, none⟩ = some (.int .i64 d) := by rw [← hW1, World.cell?_alloc_at _ _ _ _ (by simp)]; rfl
  have hT1 : TabB W1 B := hT.below (hbel1.mono hB)
  have hmf : ∀ (fn : Fn) (first cap : Array Value) (w : World), (Instr.makeFunc fn first cap).run Tryz.prog w = .ok (.func fn first cap) w := fun _ _ _ _ => rfl
  have HNO := hid hN
  have HIH := hid ih
  have HB := hid h
  clear hN ih
  go_enter Tryz.func17, Tryz.ntmps17
  go_wp2_with fail
  have hcall := HN.out
  go_fit hcall
  clear hcall
  rintro e w1 ⟨rfl, hb1, hK1⟩
  have hz1 := hK1.size
  have b0' := (hK1.cell (p := ⟨w.heap.size, 0, none⟩) (by simp only; omega) (by simp only; omega) (by simp)).trans b0
  have b1' := (hK1.cell (p := ⟨w.heap.size + 1, 0, none⟩) (by simp only; omega) (by simp only; omega) (by simp)).trans b1
  have hT2 : TabB w1 B := hT1.below (hK1.below h.own (fun g hg => by cases hg) (by omega))
  have hq0 : w.heap.size < w1.heap.size := by omega
  have hq1 : w.heap.size + 1 < w1.heap.size := by omega
  go_wp2_with fail
  have hO := h.own
  generalize hW2 : w1.alloc (.cells #[.int .i64 k, .int .i64 x, .int .i64 y, .int .i64 z] 46) = W2
  have hbel2 : Below w1.heap.size w1 W2 := by rw [← hW2]; exact (Below.refl _ _).alloc (Nat.le_refl _) _
  have hS12 : Stp B bb names names w W2 := by
    intro l hl
    obtain rfl := h.det hl
    exact ⟨lv, hb1.keep (by omega) hbel2, ((Kept.of_below hbel1 (Nat.le_refl _)).trans (row := lv.ownBlock) (row' := lv.ownBlock) ⟨hK1.os, hK1.tape, hK1.output, hK1.size, fun k hk h1 _ => hK1.block k hk h1 (by simp)⟩ (fun g hg => Or.inl hg)).trans (row' := none) (Kept.of_below hbel2 (Nat.le_refl _)) (by simp), fun g hg => Or.inl hg⟩
  have hB2 : Bard W2 B bb lv names := hb1.keep (by omega) hbel2
  have hrow := fun g hg => (h.row_ge (g := g) hg).2
  have apt : ∀ b, w.heap.size ≤ b → b < W2.heap.size → Apart B bb b W2 := fun b h1 h2 => ⟨h2, by omega, fun l _ k e => by
    obtain rfl := hB2.det k
    have := hrow b e
    omega⟩
  have hz2 : w1.heap.size < W2.heap.size := by rw [← hW2]; simp
  have D0 : Hid (Desk W2 B bb names w.heap.size w1.heap.size d k x y z) := hid
    ⟨⟨lv, hB2⟩, hT2.below (hbel2.mono (by omega)), (hbel2.cell (p := ⟨w.heap.size, 0, none⟩) hq0).trans b0', (hbel2.cell (p := ⟨w.heap.size + 1, 0, none⟩) hq1).trans b1',
      by rw [← hW2, World.cell?_alloc_at _ _ _ _ rfl]; rfl, by rw [← hW2, World.cell?_alloc_at _ _ _ _ rfl]; rfl, by rw [← hW2, World.cell?_alloc_at _ _ _ _ rfl]; rfl, by rw [← hW2, World.cell?_alloc_at _ _ _ _ rfl]; rfl,
      apt _ (by omega) (by omega), apt _ (by omega) (by omega), apt _ (by omega) (by omega), by omega⟩
  have S0 := hid hS12
  have d0 := D0.out.c0
  have d1 := D0.out.c1
  have HP := hid (he ▸ picked_any k 20 W2 hx_k.1 hx_k.2 (by omega) (by omega))
  clear hW1 hW2 HN b0 b1 b0' b1' hT hT1 hT2 hb1 hK1 hbel1 hbel2 hB1 hB2 apt hrow hS12 hq0 hq1 hz1 hsz hlt hz2 he hO
  generalize w.heap.size = p at *
  generalize w1.heap.size = q at *
  have hcall := HP.out
  go_fit hcall
  clear hcall HP
  rintro e w3 ⟨rfl, rfl⟩
  have hU := fun (names : List ByteArray) (w' : World) (hd' : Desk w' B bb names p q d k x y z) (hN' : NamesOk names (1000 - n)) => sub_any HIH.out hd' hd0 hd (by omega) hN'
  have hE := fun (names : List ByteArray) (w' : World) (hd' : Desk w' B bb names p q d k x y z) (hN' : NamesOk names (1000 - n)) => expr_at HIH.out hd' hd0 hd hN'
  have HNO2 : Hid (NamesOk names (1000 - n)) := hid ⟨HNO.out.pos, Nat.le_trans HNO.out.len (by omega), HNO.out.ok⟩
  have hwr : IntKind.i64.wrap (d - 1) = d - 1 := by rw [IntKind.wrap_i64]; omega
  go_upto_region 51 with fail
  obtain ⟨lx, hlx⟩ := D0.out.bard
  have hlxlt := hlx.lt
  have hlxB := D0.out.size
  refine wp_region_invL 7 (fun dn w' => Push p bb B lx names w3 w' (dn 6 = false)) (fun i w w' => match i with | 5 => Kept bb lx.ownBlock w w' | 6 => Kept bb lx.ownBlock w w' | _ => w' = w) (fun i v w' => match i with
    | 0 => v = .pointer (some ⟨bb, 0, none⟩)
    | 1 => v = .pointer (some ⟨bb, 0, none⟩)
    | 2 => v = .pointer (some ⟨bb, 0, none⟩)
    | 3 => v = .pointer (some ⟨bb, 1, none⟩)
    | 4 => v = lx
    | 5 => ∃ b, v = .slice (some ⟨b, 0, none⟩) 1 1 ∧ w3.heap.size ≤ b ∧ w'.heap[b]? = some (.cells #[.string ⟨#[107]⟩] 9 (0, 0))
    | 6 => ∃ g cap, v = .slice (some ⟨g, 0, none⟩) (names.length + 1) cap ∧ w'.ownsRow B 9 1 v (names.length + 1) (names.map Value.string ++ [.string ⟨#[107]⟩]) ∧ ∀ g', v.ownBlock = some g' → lx.ownBlock = some g' ∨ w3.heap.size ≤ g'
    | _ => True) (by kernel_rfl) (by kernel_rfl) (by kernel_rfl) ?hst ?hmono ⟨?o0, ?o1, ?o2, ?o3, ?o4, ?o5, ?o6, trivial⟩ ?hend
  case hst => exact ⟨D0.out.box, rfl, Kept.of_below (drewN_below _ 1) (Nat.le_refl _), fun _ => hlx.keep D0.out.size (drewN_below _ 1)⟩
  case hmono =>
    intro i j v w1 w2 hi hj hne hwt hS hv hR
    rcases i with _ | _ | _ | _ | _ | _ | _ | i
    · exact hv
    · exact hv
    · exact hv
    · exact hv
    · exact hv
    · obtain ⟨b, rfl, h1, h2⟩ := hv
      have hk : Kept bb lx.ownBlock w1 w2 := by
        rcases j with _ | _ | _ | _ | _ | _ | _ | j
        all_goals first | exact hR | (obtain rfl := hR; exact Kept.refl _ _ _)
      exact ⟨b, rfl, h1, (hk.block b (Array.getElem?_eq_some_iff.1 h2).1 (by omega) (fun e => by have := (hlx.row_ge e).2; omega)).trans h2⟩
    · rcases j with _ | _ | _ | _ | _ | _ | _ | j
      all_goals first | (obtain rfl := hR; exact hv) | exact absurd rfl hne | exact absurd (hwt.symm.trans (by kernel_rfl : _ = true)) (by decide)
    · omega
  case o0 =>
    intro dn a w' hdn hS hF K hK
    have h2 := hF.out 2 (by kernel_rfl) rfl
    have hc := hS.box
    rw [if_pos (by kernel_rfl)]
    go_simp
    exact hK _ _ _ rfl (hS.not fun h => by simpa [upd] using h) rfl rfl
  case o1 =>
    intro dn a w' hdn hS hF K hK
    have h2 := hF.out 2 (by kernel_rfl) rfl
    have hc := hS.box
    rw [if_pos (by kernel_rfl)]
    go_simp
    exact hK _ _ _ rfl (hS.not fun h => by simpa [upd] using h) rfl rfl
  case o2 =>
    intro dn a w' hdn hS hF K hK
    obtain ⟨v, h328, rfl⟩ := hF.val 1 328 (by kernel_rfl) (by kernel_rfl)
    rw [if_pos (by kernel_rfl)]
    go_simp
    exact hK _ _ _ rfl (hS.not fun h => by simpa [upd] using h) rfl rfl
  case o3 =>
    intro dn a w' hdn hS hF K hK
    obtain ⟨v, h329, rfl⟩ := hF.val 2 329 (by kernel_rfl) (by kernel_rfl)
    rw [if_pos (by kernel_rfl)]
    go_simp
    exact hK _ _ _ rfl (hS.not fun h => by simpa [upd] using h) rfl rfl
  case o4 =>
    intro dn a w' hdn hS hF K hK
    obtain ⟨v, h330, rfl⟩ := hF.val 3 330 (by kernel_rfl) (by kernel_rfl)
    have hc := (hS.cell1 hlx).1
    rw [if_pos (by kernel_rfl)]
    go_simp
    exact hK _ _ _ rfl (hS.not fun h => by simpa [upd] using h) rfl rfl
  case o5 =>
    intro dn a w' hdn hS hF K hK
    rw [if_pos (by kernel_rfl)]
    have hz := hS.kept.size
    go_simp
    exact hK _ _ _ rfl ((hS.alloc (by omega) (by omega) _).not fun h => by simpa [upd] using h) (Kept.of_below ((Below.refl _ _).alloc (Nat.le_refl _) _) (Nat.le_refl _)) ⟨_, rfl, by omega, heap_alloc_new w' _⟩
  case o6 =>
    intro dn a w' hdn hS hF K hK
    obtain ⟨v, h331, rfl⟩ := hF.val 4 331 (by kernel_rfl) (by kernel_rfl)
    obtain ⟨v, h332, b, rfl, hb1, hb2⟩ := hF.val 5 332 (by kernel_rfl) (by kernel_rfl)
    rw [if_pos (by kernel_rfl)]
    have hz := hS.kept.size
    have hbd := hS.bard (hdn _ (Or.inl rfl))
    obtain ⟨i0, hi, hz0, hz1, hz2⟩ := info_parts infoTxt
    have hlenN := HNO.out.len
    refine wp_append_lies (P := Tryz.prog) w' (.tmp 331) (.tmp 332) 48 rfl B 9 i0 (.string ⟨#[]⟩) 1 16 Tryz.underlying48 hi hz0 hz1 hz2 rfl (by decide) v names.length (names.map Value.string) (by simp [Act.eval, h331]) hbd.row ⟨b, 0, none⟩ 1 1 [.string ⟨#[107]⟩] (by simp [Act.eval, h332]) rfl (World.news_of_block hb2) (by simp [Value.oneCell']) (by decide) (by unfold maxLen; omega) (by omega) (by omega) _ rfl ?_
    intro g cap w'' hr hg ha hl
    have hk := grown_kept (bb := bb) hg
    refine hK _ _ _ rfl ⟨(hk.cell (World.block_lt_of_cell? w' _ hS.box) D0.out.a0.ne (D0.out.a0.row _ _ hlx)).trans hS.box, (hg.block bb (by omega) (fun e => hlx.ne e.symm)).trans hS.blk, hS.kept.trans hk (fun g hg => Or.inl hg), fun h => by simp [upd] at h⟩ hk ⟨g, cap, rfl, hr, fun g' e => ?_⟩
    simp only [Value.ownBlock, Option.some.injEq] at e
    rcases ha with ha | ha
    · exact Or.inl (by rw [ha, e])
    · exact Or.inr (by omega)
  case hend =>
    intro dn wp vs hdn hS hv
    have e0 : vs 0 = .pointer (some ⟨bb, 0, none⟩) := hv 0 (by decide)
    obtain ⟨g, cap, eA, hrow, hown⟩ := hv 6 (by decide)
    clear hv
    rw [eA] at hrow hown
    obtain ⟨hc1, hf1⟩ := hS.cell1 hlx
    simp only [putsL, List.take_succ_cons, List.take_zero, Nat.reduceAdd, Act.put, List.setIfInBounds_toArray, List.set_cons_zero, List.set_cons_succ, e0, eA]
    change wpOps _ _ _ [7, 8, 9] _ _
    refine wpOps_step rfl rfl (fun K hK => ?_)
    go_simp
    refine hK _ _ ?_
    clear hK
    refine wpOps_step rfl rfl (fun K hK => ?_)
    go_simp
    refine hK _ _ ?_
    clear hK
    refine wpOps_step rfl rfl (fun K hK => ?_)
    go_simp
    refine hK _ _ ?_
    clear hK
    simp only [wpOps]
    obtain ⟨hbd, hsq⟩ := push_done (n2 := names ++ [(ByteArray.mk #[107])]) hlx hlxB hS.kept hS.blk (by simpa using hrow) hown
    clear hS hc1 hf1 hrow hown
    generalize wp.setCell ⟨bb, 1, none⟩ (.slice (some ⟨g, 0, none⟩) (names.length + 1) cap) = wC at hbd hsq ⊢
    have D3 := hid (D0.out.step hsq)
    have S3 := hid (S0.out.trans hsq)
    clear hbd hsq
    have HN2 : Hid (NamesOk (names ++ [(ByteArray.mk #[107])]) (1000 - n)) := hid ⟨by simp, by have := HNO.out.len; simp only [List.length_append, List.length_cons, List.length_nil]; omega, fun nm h => by
      rcases List.mem_append.1 h with h | h
      · exact HNO.out.ok nm h
      · rw [List.mem_singleton.1 h]; exact word_ok (Nat.le_refl 2) (Nat.le_refl 20) [107] (by decide +kernel)⟩
    go_upto_region 52 with fail
    refine wp_region_invA (fun _ w' => Desk w' B bb (names ++ [(ByteArray.mk #[107])]) p q d k x y z ∧ Stp B bb names (names ++ [(ByteArray.mk #[107])]) w w') (fun _ => Stp B bb (names ++ [(ByteArray.mk #[107])]) (names ++ [(ByteArray.mk #[107])])) (fun i v w' => match i with
      | 0 => v = .pointer (some ⟨q, 1, none⟩)
      | 1 => v = .int .i64 x
      | 2 => ∃ j : Nat, v = .int .i64 j ∧ j < 5
      | 3 => InL (Tr D M) v
      | 4 => InL (Cat (One [40, 108, 101, 116, 32, 40, 40, 107, 32]) (Tr D M)) v
      | 5 => InL (Cat (Cat (One [40, 108, 101, 116, 32, 40, 40, 107, 32]) (Tr D M)) (One [41, 41, 32, 40, 40, 108, 97, 109, 98, 100, 97, 32, 40, 41, 32, 40, 98, 101, 103, 105, 110, 32, 40, 115, 101, 116, 33, 32, 107, 32, 40, 43, 32, 107, 32, 49, 41, 41, 32])) v
      | 6 => v = .pointer (some ⟨bb, 0, none⟩)
      | 7 => v = .int .i64 d
      | 8 => v = .int .i64 (d - 1)
      | 9 => InL (Tr D M) v
      | 10 => InL (Cat (Cat (Cat (One [40, 108, 101, 116, 32, 40, 40, 107, 32]) (Tr D M)) (One [41, 41, 32, 40, 40, 108, 97, 109, 98, 100, 97, 32, 40, 41, 32, 40, 98, 101, 103, 105, 110, 32, 40, 115, 101, 116, 33, 32, 107, 32, 40, 43, 32, 107, 32, 49, 41, 41, 32])) (Tr D M)) v
      | 11 => InL (Cat (Cat (Cat (Cat (One [40, 108, 101, 116, 32, 40, 40, 107, 32]) (Tr D M)) (One [41, 41, 32, 40, 40, 108, 97, 109, 98, 100, 97, 32, 40, 41, 32, 40, 98, 101, 103, 105, 110, 32, 40, 115, 101, 116, 33, 32, 107, 32, 40, 43, 32, 107, 32, 49, 41, 41, 32])) (Tr D M)) (One [41, 41, 41, 41])) v
      | 12 => InL (Cat (Cat (Cat (Cat (One [40, 108, 101, 116, 32, 40, 40, 107, 32]) (Tr D M)) (One [41, 41, 32, 40, 40, 108, 97, 109, 98, 100, 97, 32, 40, 41, 32, 40, 98, 101, 103, 105, 110, 32, 40, 115, 101, 116, 33, 32, 107, 32, 40, 43, 32, 107, 32, 49, 41, 41, 32])) (Tr D M)) (One [41, 41, 41, 41])) v
      | _ => True) (by kernel_rfl) (by kernel_rfl) ?hst ?hmono ⟨?o0, ?o1, ?o2, ?o3, ?o4, ?o5, ?o6, ?o7, ?o8, ?o9, ?o10, ?o11, ?o12, trivial⟩ ?hend
    case hst => exact ⟨D3.out.step (Stp.of_below D3.out.size (drewN_below _ 1)), S3.out.trans (Stp.of_below D3.out.size (drewN_below _ 1))⟩
    case hmono =>
      intro i j v w1 w2 _ _ _ _ ⟨_, hS⟩ hv hR
      obtain ⟨l, hl⟩ := hS.1.bard
      rcases i with _ | _ | _ | _ | _ | _ | _ | _ | _ | _ | _ | _ | _ | i
      all_goals first | exact hv | (obtain ⟨b, h1, h2⟩ := hv; exact ⟨b, h1, h2.step hR hl⟩) | (obtain ⟨b, j, h1, h2, h3⟩ := hv; exact ⟨b, j, h1, h2, h3.step hR hl⟩)
    case o0 =>
      intro dn a w' _ hS hF K hK
      have h5 := hF.out 5 (by kernel_rfl) rfl
      rw [if_pos (by kernel_rfl)]
      go_simp
      exact hK _ _ _ rfl hS (Stp.refl _ _ _ _) rfl
    case o1 =>
      intro dn a w' _ hS hF K hK
      obtain ⟨v336, h336, rfl⟩ := hF.val 0 336 (by kernel_rfl) (by kernel_rfl)
      have hc := hS.1.c1
      rw [if_pos (by kernel_rfl)]
      go_simp
      exact hK _ _ _ rfl hS (Stp.refl _ _ _ _) rfl
    case o2 =>
      intro dn a w' _ hS hF K hK
      obtain ⟨v337, h337, rfl⟩ := hF.val 1 337 (by kernel_rfl) (by kernel_rfl)
      rw [if_pos (by kernel_rfl)]
      go_simp
      refine (picked_any x 5 w' hx_x.1 hx_x.2 (by omega) (by omega)).mono ?_
      rintro e w'' ⟨rfl, rfl⟩
      obtain ⟨j, hj, hjl⟩ := pick_nat x 5 (by omega)
      rw [hj]
      exact hK _ _ _ rfl hS (Stp.refl _ _ _ _) ⟨j, rfl, by omega⟩
    case o3 =>
      intro dn a w' _ hS hF K hK
      obtain ⟨v338, h338, j338, rfl, hj338⟩ := hF.val 2 338 (by kernel_rfl) (by kernel_rfl)
      rw [if_pos (by kernel_rfl)]
      go_simp
      refine (bItoa j338 (by omega) (by omega) w' hS.1.tab).mono ?_
      rintro e w'' ⟨rfl, hb⟩
      have hs := Stp.of_below (bb := bb) (names := (names ++ [(ByteArray.mk #[107])])) hS.1.size hb
      exact hK _ _ _ rfl ⟨hS.1.step hs, hS.2.trans hs⟩ hs (itoa_ok hD hM _ (by omega) (by omega))
    case o4 =>
      intro dn a w' _ hS hF K hK
      obtain ⟨v339, h339, hl339⟩ := hF.val 3 339 (by kernel_rfl) (by kernel_rfl)
      obtain ⟨s339, rfl⟩ := inL_str hl339
      rw [if_pos (by kernel_rfl)]
      go_simp
      have hz0 := (Bnd.one [40, 108, 101, 116, 32, 40, 40, 107, 32]).size (InL.one [40, 108, 101, 116, 32, 40, 40, 107, 32])
      have hz1 := (Bnd.tr D M).size (hl339)
      try simp only [List.length_cons, List.length_nil] at hz0 hz1
      rw [if_neg (by omega)]
      exact hK _ _ _ rfl hS (Stp.refl _ _ _ _) (InL.cat (InL.one [40, 108, 101, 116, 32, 40, 40, 107, 32]) (hl339))
    case o5 =>
      intro dn a w' _ hS hF K hK
      obtain ⟨v340, h340, hl340⟩ := hF.val 4 340 (by kernel_rfl) (by kernel_rfl)
      obtain ⟨s340, rfl⟩ := inL_str hl340
      rw [if_pos (by kernel_rfl)]
      go_simp
      have hz0 := ((Bnd.one [40, 108, 101, 116, 32, 40, 40, 107, 32]).cat (Bnd.tr D M)).size (hl340)
      have hz1 := (Bnd.one [41, 41, 32, 40, 40, 108, 97, 109, 98, 100, 97, 32, 40, 41, 32, 40, 98, 101, 103, 105, 110, 32, 40, 115, 101, 116, 33, 32, 107, 32, 40, 43, 32, 107, 32, 49, 41, 41, 32]).size (InL.one [41, 41, 32, 40, 40, 108, 97, 109, 98, 100, 97, 32, 40, 41, 32, 40, 98, 101, 103, 105, 110, 32, 40, 115, 101, 116, 33, 32, 107, 32, 40, 43, 32, 107, 32, 49, 41, 41, 32])
      try simp only [List.length_cons, List.length_nil] at hz0 hz1
      rw [if_neg (by omega)]
      exact hK _ _ _ rfl hS (Stp.refl _ _ _ _) (InL.cat (hl340) (InL.one [41, 41, 32, 40, 40, 108, 97, 109, 98, 100, 97, 32, 40, 41, 32, 40, 98, 101, 103, 105, 110, 32, 40, 115, 101, 116, 33, 32, 107, 32, 40, 43, 32, 107, 32, 49, 41, 41, 32]))
    case o6 =>
      intro dn a w' _ hS hF K hK
      have h2 := hF.out 2 (by kernel_rfl) rfl
      have hc := hS.1.box
      rw [if_pos (by kernel_rfl)]
      go_simp
      exact hK _ _ _ rfl hS (Stp.refl _ _ _ _) rfl
    case o7 =>
      intro dn a w' _ hS hF K hK
      have h3 := hF.out 3 (by kernel_rfl) rfl
      have hc := hS.1.dep
      rw [if_pos (by kernel_rfl)]
      go_simp
      exact hK _ _ _ rfl hS (Stp.refl _ _ _ _) rfl
    case o8 =>
      intro dn a w' _ hS hF K hK
      obtain ⟨v343, h343, rfl⟩ := hF.val 7 343 (by kernel_rfl) (by kernel_rfl)
      rw [if_pos (by kernel_rfl)]
      go_simp
      exact hK _ _ _ rfl hS (Stp.refl _ _ _ _) rfl
    case o9 =>
      intro dn a w' _ hS hF K hK
      obtain ⟨v342, h342, rfl⟩ := hF.val 6 342 (by kernel_rfl) (by kernel_rfl)
      obtain ⟨v344, h344, rfl⟩ := hF.val 8 344 (by kernel_rfl) (by kernel_rfl)
      rw [if_pos (by kernel_rfl)]
      go_simp
      refine (hE (names ++ [(ByteArray.mk #[107])]) w' hS.1 HN2.out).mono ?_
      rintro e w'' ⟨⟨v, rfl, hv⟩, hs⟩
      exact hK _ _ _ rfl ⟨hS.1.step hs, hS.2.trans hs⟩ hs hv
    case o10 =>
      intro dn a w' _ hS hF K hK
      obtain ⟨v341, h341, hl341⟩ := hF.val 5 341 (by kernel_rfl) (by kernel_rfl)
      obtain ⟨s341, rfl⟩ := inL_str hl341
      obtain ⟨v345, h345, hl345⟩ := hF.val 9 345 (by kernel_rfl) (by kernel_rfl)
      obtain ⟨s345, rfl⟩ := inL_str hl345
      rw [if_pos (by kernel_rfl)]
      go_simp
      have hz0 := (((Bnd.one [40, 108, 101, 116, 32, 40, 40, 107, 32]).cat (Bnd.tr D M)).cat (Bnd.one [41, 41, 32, 40, 40, 108, 97, 109, 98, 100, 97, 32, 40, 41, 32, 40, 98, 101, 103, 105, 110, 32, 40, 115, 101, 116, 33, 32, 107, 32, 40, 43, 32, 107, 32, 49, 41, 41, 32])).size (hl341)
      have hz1 := (Bnd.tr D M).size (hl345)
      try simp only [List.length_cons, List.length_nil] at hz0 hz1
      rw [if_neg (by omega)]
      exact hK _ _ _ rfl hS (Stp.refl _ _ _ _) (InL.cat (hl341) (hl345))
    case o11 =>
      intro dn a w' _ hS hF K hK
      obtain ⟨v346, h346, hl346⟩ := hF.val 10 346 (by kernel_rfl) (by kernel_rfl)
      obtain ⟨s346, rfl⟩ := inL_str hl346
      rw [if_pos (by kernel_rfl)]
      go_simp
      have hz0 := ((((Bnd.one [40, 108, 101, 116, 32, 40, 40, 107, 32]).cat (Bnd.tr D M)).cat (Bnd.one [41, 41, 32, 40, 40, 108, 97, 109, 98, 100, 97, 32, 40, 41, 32, 40, 98, 101, 103, 105, 110, 32, 40, 115, 101, 116, 33, 32, 107, 32, 40, 43, 32, 107, 32, 49, 41, 41, 32])).cat (Bnd.tr D M)).size (hl346)
      have hz1 := (Bnd.one [41, 41, 41, 41]).size (InL.one [41, 41, 41, 41])
      try simp only [List.length_cons, List.length_nil] at hz0 hz1
      rw [if_neg (by omega)]
      exact hK _ _ _ rfl hS (Stp.refl _ _ _ _) (InL.cat (hl346) (InL.one [41, 41, 41, 41]))
    case o12 =>
      intro dn a w' _ hS hF K hK
      obtain ⟨v347, h347, hl347⟩ := hF.val 11 347 (by kernel_rfl) (by kernel_rfl)
      obtain ⟨s347, rfl⟩ := inL_str hl347
      rw [if_pos (by kernel_rfl)]
      go_simp
      exact hK _ _ _ rfl hS (Stp.refl _ _ _ _) hl347
    case hend =>
      intro dn wD vs hS hv
      have hv12 : InL (Cat (Cat (Cat (Cat (One [40, 108, 101, 116, 32, 40, 40, 107, 32]) (Tr D M)) (One [41, 41, 32, 40, 40, 108, 97, 109, 98, 100, 97, 32, 40, 41, 32, 40, 98, 101, 103, 105, 110, 32, 40, 115, 101, 116, 33, 32, 107, 32, 40, 43, 32, 107, 32, 49, 41, 41, 32])) (Tr D M)) (One [41, 41, 41, 41])) (vs 12) := hv 12 (by decide)
      clear hv
      simp only [putsL, Nat.reduceAdd, Act.put, List.setIfInBounds_toArray, List.set_cons_zero, List.set_cons_succ]
      generalize vs 12 = vL at hv12 ⊢
      obtain ⟨s12, rfl⟩ := inL_str hv12
      have D4 := hid hS.1
      have S4 := hid hS.2
      clear hS
      go_upto_region 53 with fail
      obtain ⟨lx, hlx⟩ := D4.out.bard
      have hlxB := D4.out.size
      have hbx := D4.out.box
      have hlen2 : (names ++ [(ByteArray.mk #[107])]).length = names.length + 1 := by simp
      obtain ⟨g, cap, rfl, hcp, hcm, _⟩ := names_cell hlx.row (by omega)
      obtain ⟨hc1, hf1⟩ := hlx.cell1
      have hrow := hlx.row
      rw [hlen2] at hrow hcp hc1
      have hwp : IntKind.i64.wrap ((names.length : Int) + 1 - 1) = names.length := by have := HNO.out.len; rw [IntKind.wrap_i64]; omega
      have hwq : IntKind.i64.wrap (names.length : Int) = names.length := by have := HNO.out.len; rw [IntKind.wrap_i64]; omega
      have hcp2 : (names.length : Int) ≤ cap := by omega
      have hcm2 : cap ≤ 9223372036854775807 := by unfold maxLen at hcm; omega
      refine wp_region_invL 12 (fun _ w' => w' = wD.drew) (fun _ w w' => w' = w) (fun i v w' => match i with
        | 0 => v = .pointer (some ⟨bb, 0, none⟩)
        | 1 => v = .pointer (some ⟨bb, 0, none⟩)
        | 2 => v = .pointer (some ⟨bb, 0, none⟩)
        | 3 => v = .pointer (some ⟨bb, 1, none⟩)
        | 4 => v = .slice (some ⟨g, 0, none⟩) (names.length + 1) cap
        | 5 => v = .pointer (some ⟨bb, 0, none⟩)
        | 6 => v = .pointer (some ⟨bb, 0, none⟩)
        | 7 => v = .pointer (some ⟨bb, 1, none⟩)
        | 8 => v = .slice (some ⟨g, 0, none⟩) (names.length + 1) cap
        | 9 => v = .int .i64 ((names.length : Int) + 1)
        | 10 => v = .int .i64 (names.length : Int)
        | 11 => v = .slice (some ⟨g, 0, none⟩) names.length cap
        | _ => True) (by kernel_rfl) (by kernel_rfl) (by kernel_rfl) rfl ?hmono ⟨?o0, ?o1, ?o2, ?o3, ?o4, ?o5, ?o6, ?o7, ?o8, ?o9, ?o10, ?o11, trivial⟩ ?hend
      case hmono =>
        intro i j v w1 w2 hi hj hne hwt hS hv hR
        obtain rfl := hR
        exact hv
      case o0 =>
        intro dn a w' hdn hS hF K hK
        have h2 := hF.out 2 (by kernel_rfl) rfl
        subst hS
        have hc := hbx
        rw [if_pos (by kernel_rfl)]
        go_simp
        exact hK _ _ _ rfl rfl rfl rfl
      case o1 =>
        intro dn a w' hdn hS hF K hK
        have h2 := hF.out 2 (by kernel_rfl) rfl
        subst hS
        have hc := hbx
        rw [if_pos (by kernel_rfl)]
        go_simp
        exact hK _ _ _ rfl rfl rfl rfl
      case o2 =>
        intro dn a w' hdn hS hF K hK
        obtain ⟨v, h349, rfl⟩ := hF.val 1 349 (by kernel_rfl) (by kernel_rfl)
        subst hS
        rw [if_pos (by kernel_rfl)]
        go_simp
        exact hK _ _ _ rfl rfl rfl rfl
      case o3 =>
        intro dn a w' hdn hS hF K hK
        obtain ⟨v, h350, rfl⟩ := hF.val 2 350 (by kernel_rfl) (by kernel_rfl)
        subst hS
        rw [if_pos (by kernel_rfl)]
        go_simp
        exact hK _ _ _ rfl rfl rfl rfl
      case o4 =>
        intro dn a w' hdn hS hF K hK
        obtain ⟨v, h351, rfl⟩ := hF.val 3 351 (by kernel_rfl) (by kernel_rfl)
        subst hS
        have hc := hc1
        rw [if_pos (by kernel_rfl)]
        go_simp
        exact hK _ _ _ rfl rfl rfl rfl
      case o5 =>
        intro dn a w' hdn hS hF K hK
        have h2 := hF.out 2 (by kernel_rfl) rfl
        subst hS
        have hc := hbx
        rw [if_pos (by kernel_rfl)]
        go_simp
        exact hK _ _ _ rfl rfl rfl rfl
      case o6 =>
        intro dn a w' hdn hS hF K hK
        obtain ⟨v, h353, rfl⟩ := hF.val 5 353 (by kernel_rfl) (by kernel_rfl)
        subst hS
        rw [if_pos (by kernel_rfl)]
        go_simp
        exact hK _ _ _ rfl rfl rfl rfl
      case o7 =>
        intro dn a w' hdn hS hF K hK
        obtain ⟨v, h354, rfl⟩ := hF.val 6 354 (by kernel_rfl) (by kernel_rfl)
        subst hS
        rw [if_pos (by kernel_rfl)]
        go_simp
        exact hK _ _ _ rfl rfl rfl rfl
      case o8 =>
        intro dn a w' hdn hS hF K hK
        obtain ⟨v, h355, rfl⟩ := hF.val 7 355 (by kernel_rfl) (by kernel_rfl)
        subst hS
        have hc := hc1
        rw [if_pos (by kernel_rfl)]
        go_simp
        exact hK _ _ _ rfl rfl rfl rfl
      case o9 =>
        intro dn a w' hdn hS hF K hK
        obtain ⟨v, h356, rfl⟩ := hF.val 8 356 (by kernel_rfl) (by kernel_rfl)
        subst hS
        rw [if_pos (by kernel_rfl)]
        go_simp
        exact hK _ _ _ rfl rfl rfl rfl
      case o10 =>
        intro dn a w' hdn hS hF K hK
        obtain ⟨v, h357, rfl⟩ := hF.val 9 357 (by kernel_rfl) (by kernel_rfl)
        subst hS
        rw [if_pos (by kernel_rfl)]
        go_simp
        exact hK _ _ _ rfl rfl rfl rfl
      case o11 =>
        intro dn a w' hdn hS hF K hK
        obtain ⟨v, h352, rfl⟩ := hF.val 4 352 (by kernel_rfl) (by kernel_rfl)
        obtain ⟨v, h358, rfl⟩ := hF.val 10 358 (by kernel_rfl) (by kernel_rfl)
        subst hS
        rw [if_pos (by kernel_rfl)]
        go_simp
        exact hK _ _ _ rfl rfl rfl rfl
      case hend =>
        intro dn wp vs hdn hS hv
        subst hS
        have e0 : vs 0 = .pointer (some ⟨bb, 0, none⟩) := hv 0 (by decide)
        have eA : vs 11 = .slice (some ⟨g, 0, none⟩) names.length cap := hv 11 (by decide)
        clear hv
        simp only [putsL, List.take_succ_cons, List.take_zero, Nat.reduceAdd, Act.put, List.setIfInBounds_toArray, List.set_cons_zero, List.set_cons_succ, e0, eA]
        change wpOps _ _ _ [12, 13, 14] _ _
        refine wpOps_step rfl rfl (fun K hK => ?_)
        go_simp
        refine hK _ _ ?_
        clear hK
        refine wpOps_step rfl rfl (fun K hK => ?_)
        go_simp
        refine hK _ _ ?_
        clear hK
        refine wpOps_step rfl rfl (fun K hK => ?_)
        go_simp
        refine hK _ _ ?_
        clear hK
        simp only [wpOps]
        simp only [List.map_append, List.map_cons, List.map_nil] at hrow
        obtain ⟨hbd, hsq⟩ := push_done (w' := wD) (v' := .slice (some ⟨g, 0, none⟩) names.length cap) (n2 := names) hlx hlxB (Kept.refl _ _ _) rfl (row_take hrow (by simp)) (fun g' e => Or.inl (by simpa [Value.ownBlock] using e))
        have hsq := hsq.trans (Stp.of_below (by simpa using hlxB) (drewN_below _ 1))
        change Stp B bb _ _ _ (World.drew _) at hsq
        generalize (wD.setCell ⟨bb, 1, none⟩ (.slice (some ⟨g, 0, none⟩) names.length cap)).drew = wE at hsq ⊢
        have S5 := S4.out.trans hsq
        go_wp2
        go_ret
        refine ⟨⟨_, rfl, ?_⟩, S5⟩
        obtain ⟨_, hl, ⟨_, _, rfl, ⟨_, _, rfl, ⟨_, _, rfl, ⟨_, _, rfl, rfl, ⟨t0, rfl, hok_t0, hdp_t0, hln_t0⟩⟩, rfl⟩, ⟨t1, rfl, hok_t1, hdp_t1, hln_t1⟩⟩, rfl⟩⟩ := hv12
        rw [hl]
        exact tree_ok (.l [.w [108, 101, 116], .l [.l [.w [107], t0]], .l [.l [.w [108, 97, 109, 98, 100, 97], .l [], .l [.w [98, 101, 103, 105, 110], .l [.w [115, 101, 116, 33], .w [107], .l [.w [43], .w [107], .w [49]]], t1]]]]) _ (by simp [Tx.pr, Tx.prs]) (by simp [Tx.fit, Tx.fits, Tx.isL, hok_t0, hok_t1] <;> decide +kernel) (by simp only [Tx.dep, Tx.deps]; omega) (by simp only [List.length_append, List.length_cons, List.length_nil]; omega)
end Go.Proofs.YtdfmimgjdchafaaGreatDoor
