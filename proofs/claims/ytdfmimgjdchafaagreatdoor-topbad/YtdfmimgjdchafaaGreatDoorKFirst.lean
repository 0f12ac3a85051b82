/- The first source of raw things: a text of 750 bytes at most. -/
import Derived.Test.YtdfmimgjdchafaaGreatDoorKSmall
namespace Go.Proofs.YtdfmimgjdchafaaGreatDoor
set_option maxRecDepth 100000
open Go.RowKit
set_option linter.unusedVariables false
set_option linter.unusedSimpArgs false
set_option maxRecDepth 100000 in
set_option maxHeartbeats 2000000 in
theorem First_any (w : World) (ra : Option Addr) (rn rc : Nat) (hR : Raws w w.heap.size ra rn) (h1 : rn ≤ rc) (h2 : rc ≤ maxLen) (hT : TabB w w.heap.size) :
    Calls Tryz.prog 8 #[.slice ra rn rc] w fun e w' => (∃ v, e = .returned v ∧ Sm 750 v) ∧ Below w.heap.size w w' := by
  obtain ⟨k, hk, hk2⟩ : ∃ k : Nat, Int.tdiv (rn : Int) 2 = (k : Int) ∧ k ≤ rn := ⟨rn / 2, by rw [Int.tdiv_eq_ediv_of_nonneg (by omega)]; omega, by omega⟩
  have HR := hid hR
  have HTT := hid hT
  have hmx : rc ≤ 9223372036854775807 := by unfold maxLen at h2; omega
  clear hR hT
  go_enter Tryz.func8, Tryz.ntmps8
  go_wp2_with fail
  refine wp_region_invA (fun _ w' => Below w.heap.size w w') (fun _ w' w'' => Below w'.heap.size w' w'') (fun i v w' => match i with
    | 0 => v = .slice ra rn rc
    | 1 => v = .int .i64 (k : Int)
    | 2 => RawsOk w w.heap.size v k
    | 3 => Sm 250 v
    | 4 => Sm 300 v
    | 5 => Sm 400 v
    | 6 => v = .slice ra rn rc
    | 7 => v = .int .i64 (k : Int)
    | 8 => RawsOk w w.heap.size v (rn - k)
    | 9 => Sm 250 v
    | 10 => Sm 650 v
    | 11 => Sm 750 v
    | 12 => Sm 750 v
    | _ => True) (by kernel_rfl) (by kernel_rfl) (Below.refl _ _).drew ?hmono ⟨?o0, ?o1, ?o2, ?o3, ?o4, ?o5, ?o6, ?o7, ?o8, ?o9, ?o10, ?o11, ?o12, trivial⟩ ?hend
  case o0 =>
    intro dn a w' _ hS hF K hK
    have h0 := hF.out 0 (by kernel_rfl) rfl
    rw [if_pos (by kernel_rfl)]
    go_simp
    exact hK _ _ _ rfl hS (Below.refl _ _) rfl
  case o1 =>
    intro dn a w' _ hS hF K hK
    have h3 := hF.out 3 (by kernel_rfl) rfl
    rw [if_pos (by kernel_rfl)]
    go_simp
    exact hK _ _ _ rfl hS (Below.refl _ _) rfl
  case o2 =>
    intro dn a w' _ hS hF K hK
    obtain ⟨v7, h7, rfl⟩ := hF.val 0 7 (by kernel_rfl) (by kernel_rfl)
    obtain ⟨v8, h8, rfl⟩ := hF.val 1 8 (by kernel_rfl) (by kernel_rfl)
    rw [if_pos (by kernel_rfl)]
    have hcap : k ≤ rc := by omega
    go_simp
    exact hK _ _ _ rfl hS (Below.refl _ _) ⟨⟨_, _, rfl, by omega, h2, raws_pre HR.out hk2⟩⟩
  case o3 =>
    intro dn a w' _ hS hF K hK
    obtain ⟨v9, h9, hr⟩ := hF.val 2 9 (by kernel_rfl) (by kernel_rfl)
    rw [if_pos (by kernel_rfl)]
    obtain ⟨a, cap, rfl, g1, g2, g3⟩ := hr.row
    go_simp
    refine (expr_sm w' a _ cap ((g3.below hS).up hS.size) g1 g2 ((HTT.out.below hS).up hS.size)).mono ?_
    rintro e w'' ⟨⟨v, rfl, hv⟩, hb⟩
    exact hK _ _ _ rfl (hS.trans (hb.mono hS.size)) hb hv
  case o4 =>
    intro dn a w' _ hS hF K hK
    obtain ⟨v10, h10, ⟨s10, rfl, hz10⟩⟩ := hF.val 3 10 (by kernel_rfl) (by kernel_rfl)
    rw [if_pos (by kernel_rfl)]
    go_simp
    rw [if_neg (by (try simp only [ByteArray.size, List.size_toArray, List.length_append, List.append_eq, List.length_cons, List.length_nil] at hz10 ⊢); omega)]
    exact hK _ _ _ rfl hS (Below.refl _ _) (Sm.cat (m := 29) (n := 250) (k := 300) (Nat.le_of_eq rfl) hz10 (by omega))
  case o5 =>
    intro dn a w' _ hS hF K hK
    obtain ⟨v11, h11, ⟨s11, rfl, hz11⟩⟩ := hF.val 4 11 (by kernel_rfl) (by kernel_rfl)
    rw [if_pos (by kernel_rfl)]
    go_simp
    rw [if_neg (by (try simp only [ByteArray.size, List.size_toArray, List.length_append, List.append_eq, List.length_cons, List.length_nil] at hz11 ⊢); omega)]
    exact hK _ _ _ rfl hS (Below.refl _ _) (Sm.cat (m := 300) (n := 58) (k := 400) hz11 (Nat.le_of_eq rfl) (by omega))
  case o6 =>
    intro dn a w' _ hS hF K hK
    have h0 := hF.out 0 (by kernel_rfl) rfl
    rw [if_pos (by kernel_rfl)]
    go_simp
    exact hK _ _ _ rfl hS (Below.refl _ _) rfl
  case o7 =>
    intro dn a w' _ hS hF K hK
    have h3 := hF.out 3 (by kernel_rfl) rfl
    rw [if_pos (by kernel_rfl)]
    go_simp
    exact hK _ _ _ rfl hS (Below.refl _ _) rfl
  case o8 =>
    intro dn a w' _ hS hF K hK
    obtain ⟨v13, h13, rfl⟩ := hF.val 6 13 (by kernel_rfl) (by kernel_rfl)
    obtain ⟨v14, h14, rfl⟩ := hF.val 7 14 (by kernel_rfl) (by kernel_rfl)
    rw [if_pos (by kernel_rfl)]
    have hcap : (rn : Int) ≤ rc := by omega
    go_simp
    exact hK _ _ _ rfl hS (Below.refl _ _) ⟨⟨_, _, rfl, by omega, by omega, raws_cut HR.out k rn rc (by omega) (by omega) h1⟩⟩
  case o9 =>
    intro dn a w' _ hS hF K hK
    obtain ⟨v15, h15, hr⟩ := hF.val 8 15 (by kernel_rfl) (by kernel_rfl)
    rw [if_pos (by kernel_rfl)]
    obtain ⟨a, cap, rfl, g1, g2, g3⟩ := hr.row
    go_simp
    refine (expr_sm w' a _ cap ((g3.below hS).up hS.size) g1 g2 ((HTT.out.below hS).up hS.size)).mono ?_
    rintro e w'' ⟨⟨v, rfl, hv⟩, hb⟩
    exact hK _ _ _ rfl (hS.trans (hb.mono hS.size)) hb hv
  case o10 =>
    intro dn a w' _ hS hF K hK
    obtain ⟨v12, h12, ⟨s12, rfl, hz12⟩⟩ := hF.val 5 12 (by kernel_rfl) (by kernel_rfl)
    obtain ⟨v16, h16, ⟨s16, rfl, hz16⟩⟩ := hF.val 9 16 (by kernel_rfl) (by kernel_rfl)
    rw [if_pos (by kernel_rfl)]
    go_simp
    rw [if_neg (by (try simp only [ByteArray.size, List.size_toArray, List.length_append, List.append_eq, List.length_cons, List.length_nil] at hz12 hz16 ⊢); omega)]
    exact hK _ _ _ rfl hS (Below.refl _ _) (Sm.cat (m := 400) (n := 250) (k := 650) hz12 hz16 (by omega))
  case o11 =>
    intro dn a w' _ hS hF K hK
    obtain ⟨v17, h17, ⟨s17, rfl, hz17⟩⟩ := hF.val 10 17 (by kernel_rfl) (by kernel_rfl)
    rw [if_pos (by kernel_rfl)]
    go_simp
    rw [if_neg (by (try simp only [ByteArray.size, List.size_toArray, List.length_append, List.append_eq, List.length_cons, List.length_nil] at hz17 ⊢); omega)]
    exact hK _ _ _ rfl hS (Below.refl _ _) (Sm.cat (m := 650) (n := 57) (k := 750) hz17 (Nat.le_of_eq rfl) (by omega))
  case o12 =>
    intro dn a w' _ hS hF K hK
    obtain ⟨v18, h18, ⟨s18, rfl, hz18⟩⟩ := hF.val 11 18 (by kernel_rfl) (by kernel_rfl)
    rw [if_pos (by kernel_rfl)]
    go_simp
    exact hK _ _ _ rfl hS (Below.refl _ _) ⟨_, rfl, hz18⟩
  case hmono =>
    intro i j v w1 w2 _ _ _ _ _ hv _
    exact hv
  case hend =>
    intro dn w5 vs hS hv
    obtain ⟨s, hvL, hz⟩ : Sm 750 (vs 12) := hv 12 (by decide)
    clear hv
    simp only [putsL, Nat.reduceAdd, Act.put, List.setIfInBounds_toArray, List.set_cons_zero, List.set_cons_succ, hvL]
    go_wp2
    go_ret
    exact ⟨⟨_, rfl, _, rfl, hz⟩, hS⟩
end Go.Proofs.YtdfmimgjdchafaaGreatDoor
