/- A later source of raw things: a text of 600 bytes at most. -/
import Derived.Test.YtdfmimgjdchafaaGreatDoorKFirst
namespace Go.Proofs.YtdfmimgjdchafaaGreatDoor
set_option maxRecDepth 100000
open Go.RowKit
set_option linter.unusedVariables false
set_option linter.unusedSimpArgs false
set_option maxRecDepth 100000 in
set_option maxHeartbeats 4000000 in
theorem Later_any (w0 : World) (ra : Option Addr) (rn rc : Nat) (k x y z : Int) (hR : Raws w0 w0.heap.size ra rn) (h1 : rn ≤ rc) (h2 : rc ≤ maxLen) (hT : TabB w0 w0.heap.size) (hk : i64B k) (hx : i64B x) (hy : i64B y) :
    Calls Tryz.prog 10 #[.slice ra rn rc, .agg #[.int .i64 k, .int .i64 x, .int .i64 y, .int .i64 z]] w0 fun e w' => (∃ v, e = .returned v ∧ Sm 700 v) ∧ Below w0.heap.size w0 w' := by
  generalize hw : w0.alloc (.cells #[.int .i64 k, .int .i64 x, .int .i64 y, .int .i64 z] 46) = w
  have hb0 : Below w0.heap.size w0 w := by rw [← hw]; exact (Below.refl _ _).alloc (Nat.le_refl _) _
  have hlt : w0.heap.size < w.heap.size := by rw [← hw]; simp
  have c0 : w.cell? ⟨w0.heap.size, 0, none⟩ = some (.int .i64 k) := by rw [← hw, World.cell?_alloc_at _ _ _ _ rfl]; rfl
  have c1 : w.cell? ⟨w0.heap.size, 1, none⟩ = some (.int .i64 x) := by rw [← hw, World.cell?_alloc_at _ _ _ _ rfl]; rfl
  have c2 : w.cell? ⟨w0.heap.size, 2, none⟩ = some (.int .i64 y) := by rw [← hw, World.cell?_alloc_at _ _ _ _ rfl]; rfl
  have HR := hid ((hR.below hb0).up hb0.size)
  have HTT := hid ((hT.below hb0).up hb0.size)
  clear hR hT
  go_enter Tryz.func10, Tryz.ntmps10
  go_wp2_with fail
  try simp only [hw]
  refine wp_region_invA (fun _ w' => Below w.heap.size w w') (fun _ w' w'' => Below w'.heap.size w' w'') (fun i v w' => match i with
    | 0 => ∃ b : Nat, v = .slice (some ⟨b, 0, none⟩) 3 3 ∧ w'.heap[b]? = some (.cells #[.string ⟨#[102]⟩, .string ⟨#[103]⟩, .string ⟨#[104]⟩] 9 (0, 0))
    | 1 => v = .pointer (some ⟨w0.heap.size, 1, none⟩)
    | 2 => v = .int .i64 x
    | 3 => ∃ j : Nat, v = .int .i64 j ∧ j < 3
    | 4 => ∃ b j, v = .pointer (some ⟨b, j, none⟩) ∧ j < 3 ∧ w'.heap[b]? = some (.cells #[.string ⟨#[102]⟩, .string ⟨#[103]⟩, .string ⟨#[104]⟩] 9 (0, 0))
    | 5 => Sm 1 v
    | 6 => Sm 30 v
    | 7 => Sm 40 v
    | 8 => v = .slice ra rn rc
    | 9 => Sm 250 v
    | 10 => Sm 300 v
    | 11 => Sm 310 v
    | 12 => Sm 310 v
    | _ => True) (by kernel_rfl) (by kernel_rfl) (Below.refl _ _).drew ?hmono ⟨?o0, ?o1, ?o2, ?o3, ?o4, ?o5, ?o6, ?o7, ?o8, ?o9, ?o10, ?o11, ?o12, trivial⟩ ?hend
  case o0 =>
    intro dn a w' _ hS hF K hK
    rw [if_pos (by kernel_rfl)]
    go_simp
    exact hK _ _ _ rfl (hS.alloc hS.size _) ((Below.refl _ _).alloc (Nat.le_refl _) _) ⟨_, rfl, heap_alloc_new w' _⟩
  case o1 =>
    intro dn a w' _ hS hF K hK
    have h3 := hF.out 3 (by kernel_rfl) rfl
    rw [if_pos (by kernel_rfl)]
    go_simp
    exact hK _ _ _ rfl hS (Below.refl _ _) rfl
  case o2 =>
    intro dn a w' _ hS hF K hK
    obtain ⟨v7, h7, rfl⟩ := hF.val 1 7 (by kernel_rfl) (by kernel_rfl)
    have c0' := (hS.cell (by dsimp only; omega)).trans c0
    have c1' := (hS.cell (by dsimp only; omega)).trans c1
    have c2' := (hS.cell (by dsimp only; omega)).trans c2
    rw [if_pos (by kernel_rfl)]
    go_simp
    exact hK _ _ _ rfl hS (Below.refl _ _) rfl
  case o3 =>
    intro dn a w' _ hS hF K hK
    obtain ⟨v8, h8, rfl⟩ := hF.val 2 8 (by kernel_rfl) (by kernel_rfl)
    rw [if_pos (by kernel_rfl)]
    go_simp
    refine (picked_any x 3 w' hx.1 hx.2 (by omega) (by omega)).mono ?_
    rintro e w'' ⟨rfl, rfl⟩
    obtain ⟨j, hj, hjl⟩ := pick_ofNat x 3 (by omega)
    try rw [hj]
    exact hK _ _ _ rfl hS (Below.refl _ _) ⟨j, (by first | rfl | exact congrArg _ hj), hjl⟩
  case o4 =>
    intro dn a w' _ hS hF K hK
    obtain ⟨v6, h6, ⟨b6, rfl, hb6⟩⟩ := hF.val 0 6 (by kernel_rfl) (by kernel_rfl)
    obtain ⟨v9, h9, ⟨j9, rfl, hj9⟩⟩ := hF.val 3 9 (by kernel_rfl) (by kernel_rfl)
    rw [if_pos (by kernel_rfl)]
    have hj' : (j9 : Int) < 3 := by omega
    go_simp
    exact hK _ _ _ rfl hS (Below.refl _ _) ⟨b6, j9, rfl, hj9, hb6⟩
  case o5 =>
    intro dn a w' _ hS hF K hK
    obtain ⟨v10, h10, ⟨b10, j10, rfl, hj10, hb10⟩⟩ := hF.val 4 10 (by kernel_rfl) (by kernel_rfl)
    have c0' := (hS.cell (by dsimp only; omega)).trans c0
    have c1' := (hS.cell (by dsimp only; omega)).trans c1
    have c2' := (hS.cell (by dsimp only; omega)).trans c2
    rw [if_pos (by kernel_rfl)]
    have hcs : j10 = 0 ∨ j10 = 1 ∨ j10 = 2 := by omega
    rcases hcs with rfl | rfl | rfl
    · have hc : w'.cell? ⟨b10, 0, none⟩ = some (.string ⟨#[102]⟩) := by simp [World.cell?, hb10]
      go_simp
      exact hK _ _ _ rfl hS (Below.refl _ _) ⟨_, rfl, Nat.le_refl 1⟩
    · have hc : w'.cell? ⟨b10, 1, none⟩ = some (.string ⟨#[103]⟩) := by simp [World.cell?, hb10]
      go_simp
      exact hK _ _ _ rfl hS (Below.refl _ _) ⟨_, rfl, Nat.le_refl 1⟩
    · have hc : w'.cell? ⟨b10, 2, none⟩ = some (.string ⟨#[104]⟩) := by simp [World.cell?, hb10]
      go_simp
      exact hK _ _ _ rfl hS (Below.refl _ _) ⟨_, rfl, Nat.le_refl 1⟩
  case o6 =>
    intro dn a w' _ hS hF K hK
    obtain ⟨v11, h11, ⟨s11, rfl, hz11⟩⟩ := hF.val 5 11 (by kernel_rfl) (by kernel_rfl)
    rw [if_pos (by kernel_rfl)]
    go_simp
    rw [if_neg (by (try simp only [ByteArray.size, List.size_toArray, List.length_append, List.append_eq, List.length_cons, List.length_nil] at hz11 ⊢); omega)]
    exact hK _ _ _ rfl hS (Below.refl _ _) (Sm.cat (m := 9) (n := 1) (k := 30) (Nat.le_of_eq rfl) hz11 (by omega))
  case o7 =>
    intro dn a w' _ hS hF K hK
    obtain ⟨v12, h12, ⟨s12, rfl, hz12⟩⟩ := hF.val 6 12 (by kernel_rfl) (by kernel_rfl)
    rw [if_pos (by kernel_rfl)]
    go_simp
    rw [if_neg (by (try simp only [ByteArray.size, List.size_toArray, List.length_append, List.append_eq, List.length_cons, List.length_nil] at hz12 ⊢); omega)]
    exact hK _ _ _ rfl hS (Below.refl _ _) (Sm.cat (m := 30) (n := 4) (k := 40) hz12 (Nat.le_of_eq rfl) (by omega))
  case o8 =>
    intro dn a w' _ hS hF K hK
    have h0 := hF.out 0 (by kernel_rfl) rfl
    rw [if_pos (by kernel_rfl)]
    go_simp
    exact hK _ _ _ rfl hS (Below.refl _ _) rfl
  case o9 =>
    intro dn a w' _ hS hF K hK
    obtain ⟨v14, h14, rfl⟩ := hF.val 8 14 (by kernel_rfl) (by kernel_rfl)
    rw [if_pos (by kernel_rfl)]
    go_simp
    refine (expr_sm w' ra rn rc ((HR.out.below hS).up hS.size) h1 h2 ((HTT.out.below hS).up hS.size)).mono ?_
    rintro e w'' ⟨⟨v, rfl, hv⟩, hb⟩
    exact hK _ _ _ rfl (hS.trans (hb.mono hS.size)) hb hv
  case o10 =>
    intro dn a w' _ hS hF K hK
    obtain ⟨v13, h13, ⟨s13, rfl, hz13⟩⟩ := hF.val 7 13 (by kernel_rfl) (by kernel_rfl)
    obtain ⟨v15, h15, ⟨s15, rfl, hz15⟩⟩ := hF.val 9 15 (by kernel_rfl) (by kernel_rfl)
    rw [if_pos (by kernel_rfl)]
    go_simp
    rw [if_neg (by (try simp only [ByteArray.size, List.size_toArray, List.length_append, List.append_eq, List.length_cons, List.length_nil] at hz13 hz15 ⊢); omega)]
    exact hK _ _ _ rfl hS (Below.refl _ _) (Sm.cat (m := 40) (n := 250) (k := 300) hz13 hz15 (by omega))
  case o11 =>
    intro dn a w' _ hS hF K hK
    obtain ⟨v16, h16, ⟨s16, rfl, hz16⟩⟩ := hF.val 10 16 (by kernel_rfl) (by kernel_rfl)
    rw [if_pos (by kernel_rfl)]
    go_simp
    rw [if_neg (by (try simp only [ByteArray.size, List.size_toArray, List.length_append, List.append_eq, List.length_cons, List.length_nil] at hz16 ⊢); omega)]
    exact hK _ _ _ rfl hS (Below.refl _ _) (Sm.cat (m := 300) (n := 1) (k := 310) hz16 (Nat.le_of_eq rfl) (by omega))
  case o12 =>
    intro dn a w' _ hS hF K hK
    obtain ⟨v17, h17, ⟨s17, rfl, hz17⟩⟩ := hF.val 11 17 (by kernel_rfl) (by kernel_rfl)
    rw [if_pos (by kernel_rfl)]
    go_simp
    exact hK _ _ _ rfl hS (Below.refl _ _) ⟨_, rfl, hz17⟩
  case hmono =>
    intro i j v w1 w2 _ _ _ _ _ hv hR
    rcases i with _ | _ | _ | _ | _ | _ | _ | _ | _ | _ | _ | _ | _ | i
    all_goals first | exact hv | (obtain ⟨b, g1, g2⟩ := hv; exact ⟨b, g1, (hR.block b (Array.getElem?_eq_some_iff.1 g2).1).trans g2⟩) | (obtain ⟨b, j, g1, g2, g3⟩ := hv; exact ⟨b, j, g1, g2, (hR.block b (Array.getElem?_eq_some_iff.1 g3).1).trans g3⟩)
  case hend =>
    intro dn w5 vs hS hv
    obtain ⟨s, hvL, hz⟩ : Sm 310 (vs 12) := hv 12 (by decide)
    clear hv
    simp only [putsL, Nat.reduceAdd, Act.put, List.setIfInBounds_toArray, List.set_cons_zero, List.set_cons_succ, hvL]
    have c0 := (hS.cell (p := ⟨w0.heap.size, 0, none⟩) hlt).trans c0
    have c2 := (hS.cell (p := ⟨w0.heap.size, 2, none⟩) hlt).trans c2
    obtain ⟨j, hj, hjl⟩ := pick_ofNat k 7 (by omega)
    have HP := hid (picked_any k 7 w5 hk.1 hk.2 (by omega) (by omega))
    go_wp2_with fail
    have hcall := HP.out
    go_fit hcall
    clear hcall HP
    rintro e w6 ⟨rfl, rfl⟩
    rw [show ((7 : Nat) : Int) = 7 from rfl] at hj
    rw [hj]
    have hcs : j = 0 ∨ j = 1 ∨ j = 2 ∨ j = 3 ∨ j = 4 ∨ j = 5 ∨ j = 6 := by omega
    rcases hcs with rfl | rfl | rfl | rfl | rfl | rfl | rfl
    · go_wp2_with fail
      go_ret
      exact ⟨⟨_, rfl, _, rfl, by (try simp only [ByteArray.size_append]); (try simp only [ByteArray.size, List.size_toArray, List.length_append, List.append_eq, List.length_cons, List.length_nil] at *); omega⟩, hb0.trans (hS.mono (by omega))⟩
    · go_wp2_with fail
      go_ret
      exact ⟨⟨_, rfl, _, rfl, by (try simp only [ByteArray.size_append]); (try simp only [ByteArray.size, List.size_toArray, List.length_append, List.append_eq, List.length_cons, List.length_nil] at *); omega⟩, hb0.trans (hS.mono (by omega))⟩
    · go_wp2_with fail
      go_ret
      exact ⟨⟨_, rfl, _, rfl, by (try simp only [ByteArray.size_append]); (try simp only [ByteArray.size, List.size_toArray, List.length_append, List.append_eq, List.length_cons, List.length_nil] at *); omega⟩, hb0.trans (hS.mono (by omega))⟩
    · go_wp2_with fail
      go_ret
      exact ⟨⟨_, rfl, _, rfl, by (try simp only [ByteArray.size_append]); (try simp only [ByteArray.size, List.size_toArray, List.length_append, List.append_eq, List.length_cons, List.length_nil] at *); omega⟩, hb0.trans (hS.mono (by omega))⟩
    · obtain ⟨j2, hj2, hjl2⟩ := pick_ofNat y 9 (by omega)
      rw [show ((9 : Nat) : Int) = 9 from rfl] at hj2
      have HP := hid (picked_any y 9 w6 hy.1 hy.2 (by omega) (by omega))
      have HI := hid (fun (j : Nat) (hj : j < 9) => bItoa j (by omega) (by omega) w6 (HTT.out.below hS))
      go_wp2_with fail
      have hcall := HP.out
      go_fit hcall
      clear hcall HP
      rintro e w7 ⟨rfl, rfl⟩
      rw [hj2]
      go_wp2_with fail
      have hcall := HI.out j2 hjl2
      go_fit hcall
      clear hcall HI
      rintro e w8 ⟨rfl, hb8⟩
      have hzi : (ByteArray.mk (Lib.itoa j2).toArray).size ≤ 20 := by
        have : j2 = 0 ∨ j2 = 1 ∨ j2 = 2 ∨ j2 = 3 ∨ j2 = 4 ∨ j2 = 5 ∨ j2 = 6 ∨ j2 = 7 ∨ j2 = 8 := by omega
        rcases this with rfl | rfl | rfl | rfl | rfl | rfl | rfl | rfl | rfl <;> decide +kernel
      generalize ByteArray.mk (Lib.itoa j2).toArray = tx at hzi
      go_wp2_with fail
      go_ret
      exact ⟨⟨_, rfl, _, rfl, by simp only [ByteArray.size_append]; simp only [ByteArray.size, List.size_toArray, List.length_append, List.append_eq, List.length_cons, List.length_nil] at *; omega⟩, hb0.trans ((hS.trans (hb8.mono hS.size)).mono (by omega))⟩
    · go_wp2_with fail
      go_ret
      exact ⟨⟨_, rfl, _, rfl, by (try simp only [ByteArray.size_append]); (try simp only [ByteArray.size, List.size_toArray, List.length_append, List.append_eq, List.length_cons, List.length_nil] at *); omega⟩, hb0.trans (hS.mono (by omega))⟩
    · go_wp2_with fail
      go_ret
      exact ⟨⟨_, rfl, _, rfl, by (try simp only [ByteArray.size_append]); (try simp only [ByteArray.size, List.size_toArray, List.length_append, List.append_eq, List.length_cons, List.length_nil] at *); omega⟩, hb0.trans (hS.mono (by omega))⟩
end Go.Proofs.YtdfmimgjdchafaaGreatDoor
