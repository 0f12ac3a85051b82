/- Closures and records on the heap: the document's thingsMay. (Written by wip/tools/mkdthings.py.) -/
import Derived.Test.YtldmanfgmadbfaaGreatDoorQ16
import Derived.Test.YtldmanfgmadbfaaGreatDoorQ09
import Derived.Test.YtldmanfgmadbfaaGreatDoorQ03
import Derived.RegionTactic
import Derived.Deep.RegionWith
import Derived.Test.YtldmanfgmadbfaaGreatDoorRShort
namespace Go.Proofs.YtldmanfgmadbfaaGreatDoor
set_option maxRecDepth 100000
open HH UU VV
open Go.RowKit Go.Maps Go.WideMaps
/-- Up to a place, all things stand. -/
def Stood (f : Th → Bool) (th : List Th) (k : Nat) : Prop := ∀ t, t ∈ th → t.h < k → f t = true
theorem Stood.skip {f : Th → Bool} {th : List Th} {k : Nat} (h : Stood f th k) (hn : (th.any fun t => t.h == k) = false) : Stood f th (k + 1) := by
 intro t ht hk
 refine h t ht ?_
 have := List.any_eq_false.1 hn t ht
 simp at this
 omega
theorem Stood.step {f : Th → Bool} {th : List Th} {t : Th} (h : Stood f th t.h) (hu : ∀ t', t' ∈ th → t'.h = t.h → t' = t) (hf : f t = true) : Stood f th (t.h + 1) := by
 intro t' ht hk
 by_cases e : t'.h = t.h
 ·
  rw [hu t' ht e]; exact hf
 ·
  exact h t' ht (by omega)
theorem Stood.full {f : Th → Bool} {th : List Th} {n : Nat} (h : Stood f th n) (hn : ∀ t, t ∈ th → t.h < n) : th.all f = true := List.all_eq_true.2 fun t ht => h t ht (hn t ht)
def NewC (N : Nat) (v : Value) (w : World) : Prop := ∃ g, v = .pointer (some ⟨g, 0, none⟩) ∧ N ≤ g ∧ w.heap[g]? = some (.cells #[.string ⟨#[]⟩, .slice none 0 0, .slice none 0 0] 58)
theorem NewC.below {N : Nat} {v : Value} {w w' : World} (h : NewC N v w) (hb : Below w.heap.size w w') : NewC N v w' := by
 obtain ⟨b, h1, h2, h3⟩ := h
 exact ⟨b, h1, h2, (hb.block b (Array.getElem?_eq_some_iff.1 h3).1).trans h3⟩
theorem stood_no {f : Th → Bool} {th : List Th} {t : Th} (ht : t ∈ th) (hf : f t = false) : th.all f = false := by rw [List.all_eq_false]; exact ⟨t, ht, by rw [hf]; simp⟩
set_option maxRecDepth 1000000 in
set_option maxHeartbeats 8000000 in
theorem thingsMay_aux (fa ga ra ha : Option Addr) (fcap gcap rcap hcap : Nat) (fs : List VV.Fn) (gs : List Gl) (rs : List Rc) (hs : List Wd) (lim : Int) (th : List Th) (w : World)
  (hS : subW w (fun b => b < w.heap.size) (⟨fa, fcap, fs, ga, gcap, gs, ra, rcap, rs, ha, hcap, hs⟩ : Wv)) (hb : bigW (⟨fa, fcap, fs, ga, gcap, gs, ra, rcap, rs, ha, hcap, hs⟩ : Wv)) (hl : hs.length ≤ 60000) (hc : ChainR hs th hs.length) (ht : ∀ t, t ∈ th → ThingIs hs t.h t.f t.e) :
  Calls Tryz.prog 19 #[.agg #[.slice fa fs.length fcap, .slice ga gs.length gcap, .slice ra rs.length rcap, .slice ha hs.length hcap, .int .i64 lim]] w fun e w' => e = .returned (.bool (th.all (standB (⟨fa, fcap, fs, ga, gcap, gs, ra, rcap, rs, ha, hcap, hs⟩ : Wv) hs))) ∧ Below w.heap.size w w' := by
 obtain ⟨f, hf⟩ : ∃ f, f = standB (⟨fa, fcap, fs, ga, gcap, gs, ra, rcap, rs, ha, hcap, hs⟩ : Wv) hs := ⟨_, rfl⟩
 rw [← hf]
 have HF := hid hf
 clear hf
 obtain ⟨w2, hw2⟩ : ∃ w2, w2 = w.alloc (.cells #[.slice fa fs.length fcap, .slice ga gs.length gcap, .slice ra rs.length rcap, .slice ha hs.length hcap, .int .i64 lim] 29) := ⟨_, rfl⟩
 have HB2 := hid (show Below w.heap.size w w2 by rw [hw2]; exact (Below.refl _ _).alloc (Nat.le_refl _) _)
 have hz2 : w2.heap.size = w.heap.size + 1 := by rw [hw2]; simp
 have c0 : w2.cell? ⟨w.heap.size, 0, none⟩ = some (.slice fa fs.length fcap) ∧ w2.cell? ⟨w.heap.size, 2, none⟩ = some (.slice ra rs.length rcap) ∧ w2.cell? ⟨w.heap.size, 3, none⟩ = some (.slice ha hs.length hcap) := by
  rw [hw2]; refine ⟨?_, ?_, ?_⟩ <;> go_simp
 have HWd := hid (wds_row (Cs.below hS.h HB2.out HB2.out.size))
 have HS := hid hS
 have HBg := hid hb
 have HT := hid ht
 have HM := hid hc.mem
 have H2 := hid hw2
 have hfl : fs.length ≤ 9223372036854775807 := by have : fs.length * 48 ≤ 140737488355328 := hb.f; omega
 have hrl : rs.length ≤ 9223372036854775807 := by have : rs.length * 64 ≤ 140737488355328 := hb.r; omega
 have hcall := beginsOf_any w2 w2.heap.size ha hs.length hcap hs HWd.out (Nat.le_refl _) rfl hl
 have HFull := hid hc
 obtain ⟨c0, c2, c3⟩ := c0
 clear hw2 hS hb ht hc
 go_enter Tryz.func19, Tryz.ntmps19
 go_wp2_with fail
 rw [← H2.out]
 go_fit hcall
 clear hcall
 rintro e w3 ⟨hb3, ⟨rfl, acc, hacc, hbeg, hlt3⟩ | ⟨rfl, acc, i, hacc, hi, hno⟩⟩
 case inr =>
  exfalso
  have := (HFull.out.same hacc HFull.out.full (hacc.stuck hno)).2
  omega
 have hsame := (HFull.out.same hacc HFull.out.full hacc.full).1
 subst hsame
 have HBeg := hid hbeg
 have HB3 := hid (HB2.out.trans (hb3.mono HB2.out.size))
 have hz3 := hb3.size
 have d0 := (hb3.cell (p := ⟨w.heap.size, 0, none⟩) (by dsimp only; omega)).trans c0
 have d2 := (hb3.cell (p := ⟨w.heap.size, 2, none⟩) (by dsimp only; omega)).trans c2
 have HU := hid (show ∀ t, t ∈ th → ∀ t', t' ∈ th → t'.h = t.h → t' = t from by
  intro t h1 t' h2 e
  have q1 := (HM.out t h1).2
  have q2 := (HM.out t' h2).2
  rw [e, q1] at q2
  injection q2 with q2
  injection q2 with q3 q4
  cases t; cases t'
  simp only [Th.mk.injEq]
  exact ⟨e, q3.symm, q4.symm⟩)
 have HB2w := hid hb3
 clear hb3 hacc hbeg c0 c2 c3
 go_wp2_with fail
 go_loopw [6] (fun i wr => ∃ k : Nat, k ≤ hs.length ∧ i = .int .i64 k ∧ Stood f th k ∧ Below w3.heap.size w3 wr) (fun i _ => hs.length - (intOf i).toNat)
 case atStart => exact ⟨0, Nat.zero_le _, rfl, fun t _ h => absurd h (by omega), Below.refl _ _⟩
 case round =>
  obtain ⟨k, hk, rfl, hst, hbr⟩ := hrel
  have HSt := hid hst
  have HBr := hid hbr
  have hzr := hbr.size
  have c0 := (hbr.cell (p := ⟨w.heap.size, 0, none⟩) (by dsimp only; omega)).trans d0
  have c2 := (hbr.cell (p := ⟨w.heap.size, 2, none⟩) (by dsimp only; omega)).trans d2
  have HBW := hid (HB3.out.trans (hbr.mono (by omega)))
  have hbg := hbr
  clear hst hbr
  by_cases hlt : k < hs.length
  case neg =>
   have hke : k = hs.length := by omega
   have hlt2 : ¬ (k : Int) < hs.length := by omega
   have HR := hid (HSt.out.full (fun t ht => by rw [hke]; exact (HM.out t ht).1))
   clear hbg hke
   go_wp2
   go_ret
   exact ⟨ret_bool HR.out.symm, HBW.out⟩
  have hlt2 : (k : Int) < hs.length := by omega
  have hbk := (HBeg.out.below hbg hlt3 k hlt).1
  rw [hz2] at hbk
  have HB23 := hid (HB2w.out.trans (hbg.mono hz3))
  clear hbg
  cases hany : (th.any fun t => t.h == k) with
  | false =>
   have HN := hid (HSt.out.skip hany)
   rw [hany] at hbk
   clear hany
   go_wp2
   go_roundw
   case rel => exact ⟨k + 1, by omega, by go_num, HN.out, HBr.out⟩
   case measure => simp [intOf]; omega
  | true =>
   rw [hany] at hbk
   obtain ⟨t, htm, hte⟩ := List.any_eq_true.1 hany
   have hte : t.h = k := by simpa using hte
   subst hte
   have hti := HT.out t htm
   obtain ⟨b, o, rfl, hbw2, k0, k1, _⟩ := (HWd.out.below HB23.out) t.h hlt
   have hlb : b < wr.heap.size := by have := HB23.out.size; omega
   have hK := kind_at hlt
   clear hte hany
   by_cases h8 : (hs[t.h]'hlt).k = 8
   ·
    obtain ⟨hp, ⟨n, hn, hn6⟩, hkind⟩ := hti
    obtain ⟨h1, m, hm, hm2, hf1, he1⟩ : ∃ h1 : t.h + 1 < hs.length, ∃ m : Nat, (hs[t.h + 1]'h1).n = m ∧ m ≤ 40 ∧ t.f = t.h + 2 ∧ t.e = t.h + 2 + m := by
     rcases hkind with ⟨q, _⟩ | ⟨q, _⟩ | ⟨_, q⟩ | ⟨q, _⟩
     ·
      rw [h8] at q; omega
     ·
      rw [h8] at q; omega
     ·
      exact q
     ·
      rw [h8] at q; omega
    have hN : nInt hs t.h = n := (nInt_at hlt).trans hn
    rw [hn] at k1
    rw [h8] at k0
    by_cases hnf : n < fs.length
    case neg =>
     have HR := hid (stood_no htm (show f t = false from by
      rw [HF.out]; unfold standB; rw [hK, if_pos h8, hN, Int.toNat_natCast, List.getElem?_eq_none (by dsimp only; omega)]))
     have hge : (fs.length : Int) ≤ n := by omega
     have hlt3 : ¬ (n : Int) < fs.length := by omega
     clear hK h8 hn hkind hm hf1 he1 hN
     go_wp2_with fail
     refine wp_region_invA (fun _ w' => Below wr.heap.size wr w') (fun _ w' w'' => Below w'.heap.size w' w'') (fun i vv w' => match i with
      | 0 => vv = .slice (some ⟨b, o, none⟩) hs.length hcap
      | 1 => vv = .int .i64 (t.h : Int)
      | 2 => vv = .pointer (some ⟨b, o + t.h * 3, none⟩)
      | 3 => vv = .pointer (some ⟨b, o + t.h * 3, none⟩)
      | 4 => vv = .int .i64 8
      | 5 => vv = .bool true
      | 6 => vv = .bool true
      | 7 => vv = .slice (some ⟨b, o, none⟩) hs.length hcap
      | 8 => vv = .int .i64 (t.h : Int)
      | 9 => vv = .pointer (some ⟨b, o + t.h * 3, none⟩)
      | 10 => vv = .pointer (some ⟨b, o + t.h * 3 + 1, none⟩)
      | 11 => vv = .int .i64 (n : Int)
      | 12 => vv = .pointer (some ⟨w.heap.size, 0, none⟩)
      | 13 => vv = .slice fa fs.length fcap
      | 14 => vv = .int .i64 (fs.length : Int)
      | 15 => vv = .bool true
      | 16 => vv = .bool true
      | 17 => vv = undef
      | 18 => vv = undef
      | 19 => vv = undef
      | 20 => vv = undef
      | 21 => vv = undef
      | 22 => vv = undef
      | 23 => vv = undef
      | 24 => vv = undef
      | 25 => vv = undef
      | 26 => vv = undef
      | 27 => vv = undef
      | 28 => vv = undef
      | 29 => vv = undef
      | 30 => vv = undef
      | 31 => vv = undef
      | 32 => vv = undef
      | 33 => vv = undef
      | 34 => vv = .bool true
      | 35 => vv = .bool true
      | _ => True) (by kernel_rfl) (by kernel_rfl) (Below.refl _ _).drew ?hmono ⟨?o0, ?o1, ?o2, ?o3, ?o4, ?o5, ?o6, ?o7, ?o8, ?o9, ?o10, ?o11, ?o12, ?o13, ?o14, ?o15, ?o16, ?o17, ?o18, ?o19, ?o20, ?o21, ?o22, ?o23, ?o24, ?o25, ?o26, ?o27, ?o28, ?o29, ?o30, ?o31, ?o32, ?o33, ?o34, ?o35, trivial⟩ ?hend
     case o0 =>
      intro dn a w' _ hS hF K hK
      have h3 := hF.out 3 (by kernel_rfl) rfl
      rw [if_pos (by kernel_rfl)]
      go_simp
      exact hK _ _ _ rfl hS (Below.refl _ _) rfl
     case o1 =>
      intro dn a w' _ hS hF K hK
      have h6 := hF.out 6 (by kernel_rfl) rfl
      rw [if_pos (by kernel_rfl)]
      go_simp
      exact hK _ _ _ rfl hS (Below.refl _ _) rfl
     case o2 =>
      intro dn a w' _ hS hF K hK
      obtain ⟨v27, h27, rfl⟩ := hF.va 0 27
      obtain ⟨v28, h28, rfl⟩ := hF.va 1 28
      rw [if_pos (by kernel_rfl)]
      go_simp
      exact hK _ _ _ rfl hS (Below.refl _ _) rfl
     case o3 =>
      intro dn a w' _ hS hF K hK
      obtain ⟨v29, h29, rfl⟩ := hF.va 2 29
      rw [if_pos (by kernel_rfl)]
      go_simp
      exact hK _ _ _ rfl hS (Below.refl _ _) rfl
     case o4 =>
      intro dn a w' _ hS hF K hK
      obtain ⟨v30, h30, rfl⟩ := hF.va 3 30
      have c0' := cx hS c0
      have c2' := cx hS c2
      have k0' := cx hS k0
      have k1' := cx hS k1
      rw [if_pos (by kernel_rfl)]
      go_simp
      exact hK _ _ _ rfl hS (Below.refl _ _) rfl
     case o5 =>
      intro dn a w' _ hS hF K hK
      obtain ⟨v31, h31, rfl⟩ := hF.va 4 31
      rw [if_pos (by kernel_rfl)]
      go_simp
      exact hK _ _ _ rfl hS (Below.refl _ _) rfl
     case o6 =>
      intro dn a w' _ hS hF K hK
      obtain ⟨v32, h32, rfl⟩ := hF.va 5 32
      rw [if_pos (by kernel_rfl)]
      go_simp
      exact hK _ _ _ rfl hS (Below.refl _ _) rfl
     case o7 =>
      intro dn a w' _ hS hF K hK
      have h3 := hF.out 3 (by kernel_rfl) rfl
      obtain ⟨v33, h33, rfl⟩ := hF.va 6 33
      rw [if_pos (wanted_yes 6 rfl (by kernel_rfl) h33)]
      go_simp
      exact hK _ _ _ rfl hS (Below.refl _ _) rfl
     case o8 =>
      intro dn a w' _ hS hF K hK
      have h6 := hF.out 6 (by kernel_rfl) rfl
      obtain ⟨v33, h33, rfl⟩ := hF.va 6 33
      rw [if_pos (wanted_yes 6 rfl (by kernel_rfl) h33)]
      go_simp
      exact hK _ _ _ rfl hS (Below.refl _ _) rfl
     case o9 =>
      intro dn a w' _ hS hF K hK
      obtain ⟨v34, h34, rfl⟩ := hF.va 7 34
      obtain ⟨v35, h35, rfl⟩ := hF.va 8 35
      obtain ⟨v33, h33, rfl⟩ := hF.va 6 33
      rw [if_pos (wanted_yes 6 rfl (by kernel_rfl) h33)]
      go_simp
      exact hK _ _ _ rfl hS (Below.refl _ _) rfl
     case o10 =>
      intro dn a w' _ hS hF K hK
      obtain ⟨v36, h36, rfl⟩ := hF.va 9 36
      obtain ⟨v33, h33, rfl⟩ := hF.va 6 33
      rw [if_pos (wanted_yes 6 rfl (by kernel_rfl) h33)]
      go_simp
      exact hK _ _ _ rfl hS (Below.refl _ _) rfl
     case o11 =>
      intro dn a w' _ hS hF K hK
      obtain ⟨v37, h37, rfl⟩ := hF.va 10 37
      obtain ⟨v33, h33, rfl⟩ := hF.va 6 33
      have c0' := cx hS c0
      have c2' := cx hS c2
      have k0' := cx hS k0
      have k1' := cx hS k1
      rw [if_pos (wanted_yes 6 rfl (by kernel_rfl) h33)]
      go_simp
      exact hK _ _ _ rfl hS (Below.refl _ _) rfl
     case o12 =>
      intro dn a w' _ hS hF K hK
      have h1 := hF.out 1 (by kernel_rfl) rfl
      obtain ⟨v33, h33, rfl⟩ := hF.va 6 33
      rw [if_pos (wanted_yes 6 rfl (by kernel_rfl) h33)]
      go_simp
      exact hK _ _ _ rfl hS (Below.refl _ _) rfl
     case o13 =>
      intro dn a w' _ hS hF K hK
      obtain ⟨v39, h39, rfl⟩ := hF.va 12 39
      obtain ⟨v33, h33, rfl⟩ := hF.va 6 33
      have c0' := cx hS c0
      have c2' := cx hS c2
      have k0' := cx hS k0
      have k1' := cx hS k1
      rw [if_pos (wanted_yes 6 rfl (by kernel_rfl) h33)]
      go_simp
      exact hK _ _ _ rfl hS (Below.refl _ _) rfl
     case o14 =>
      intro dn a w' _ hS hF K hK
      obtain ⟨v40, h40, rfl⟩ := hF.va 13 40
      obtain ⟨v33, h33, rfl⟩ := hF.va 6 33
      rw [if_pos (wanted_yes 6 rfl (by kernel_rfl) h33)]
      go_simp
      exact hK _ _ _ rfl hS (Below.refl _ _) rfl
     case o15 =>
      intro dn a w' _ hS hF K hK
      obtain ⟨v38, h38, rfl⟩ := hF.va 11 38
      obtain ⟨v41, h41, rfl⟩ := hF.va 14 41
      obtain ⟨v33, h33, rfl⟩ := hF.va 6 33
      rw [if_pos (wanted_yes 6 rfl (by kernel_rfl) h33)]
      go_simp
      exact hK _ _ _ rfl hS (Below.refl _ _) rfl
     case o16 =>
      intro dn a w' _ hS hF K hK
      obtain ⟨v42, h42, rfl⟩ := hF.va 15 42
      obtain ⟨v33, h33, rfl⟩ := hF.va 6 33
      rw [if_pos (wanted_yes 6 rfl (by kernel_rfl) h33)]
      go_simp
      exact hK _ _ _ rfl hS (Below.refl _ _) rfl
     case o17 =>
      intro dn a w' _ hS hF K hK
      obtain ⟨v43, h43, rfl⟩ := hF.va 16 43
      rw [if_neg (by rw [wanted_no 16 rfl (by kernel_rfl) h43]; decide)]
      exact hK _ _ _ rfl hS (Below.refl _ _) rfl
     case o18 =>
      intro dn a w' _ hS hF K hK
      obtain ⟨v43, h43, rfl⟩ := hF.va 16 43
      rw [if_neg (by rw [wanted_no 16 rfl (by kernel_rfl) h43]; decide)]
      exact hK _ _ _ rfl hS (Below.refl _ _) rfl
     case o19 =>
      intro dn a w' _ hS hF K hK
      obtain ⟨v43, h43, rfl⟩ := hF.va 16 43
      rw [if_neg (by rw [wanted_no 16 rfl (by kernel_rfl) h43]; decide)]
      exact hK _ _ _ rfl hS (Below.refl _ _) rfl
     case o20 =>
      intro dn a w' _ hS hF K hK
      obtain ⟨v43, h43, rfl⟩ := hF.va 16 43
      rw [if_neg (by rw [wanted_no 16 rfl (by kernel_rfl) h43]; decide)]
      exact hK _ _ _ rfl hS (Below.refl _ _) rfl
     case o21 =>
      intro dn a w' _ hS hF K hK
      obtain ⟨v43, h43, rfl⟩ := hF.va 16 43
      rw [if_neg (by rw [wanted_no 16 rfl (by kernel_rfl) h43]; decide)]
      exact hK _ _ _ rfl hS (Below.refl _ _) rfl
     case o22 =>
      intro dn a w' _ hS hF K hK
      obtain ⟨v43, h43, rfl⟩ := hF.va 16 43
      rw [if_neg (by rw [wanted_no 16 rfl (by kernel_rfl) h43]; decide)]
      exact hK _ _ _ rfl hS (Below.refl _ _) rfl
     case o23 =>
      intro dn a w' _ hS hF K hK
      obtain ⟨v43, h43, rfl⟩ := hF.va 16 43
      rw [if_neg (by rw [wanted_no 16 rfl (by kernel_rfl) h43]; decide)]
      exact hK _ _ _ rfl hS (Below.refl _ _) rfl
     case o24 =>
      intro dn a w' _ hS hF K hK
      obtain ⟨v43, h43, rfl⟩ := hF.va 16 43
      rw [if_neg (by rw [wanted_no 16 rfl (by kernel_rfl) h43]; decide)]
      exact hK _ _ _ rfl hS (Below.refl _ _) rfl
     case o25 =>
      intro dn a w' _ hS hF K hK
      obtain ⟨v43, h43, rfl⟩ := hF.va 16 43
      rw [if_neg (by rw [wanted_no 16 rfl (by kernel_rfl) h43]; decide)]
      exact hK _ _ _ rfl hS (Below.refl _ _) rfl
     case o26 =>
      intro dn a w' _ hS hF K hK
      obtain ⟨v43, h43, rfl⟩ := hF.va 16 43
      rw [if_neg (by rw [wanted_no 16 rfl (by kernel_rfl) h43]; decide)]
      exact hK _ _ _ rfl hS (Below.refl _ _) rfl
     case o27 =>
      intro dn a w' _ hS hF K hK
      obtain ⟨v43, h43, rfl⟩ := hF.va 16 43
      rw [if_neg (by rw [wanted_no 16 rfl (by kernel_rfl) h43]; decide)]
      exact hK _ _ _ rfl hS (Below.refl _ _) rfl
     case o28 =>
      intro dn a w' _ hS hF K hK
      obtain ⟨v43, h43, rfl⟩ := hF.va 16 43
      rw [if_neg (by rw [wanted_no 16 rfl (by kernel_rfl) h43]; decide)]
      exact hK _ _ _ rfl hS (Below.refl _ _) rfl
     case o29 =>
      intro dn a w' _ hS hF K hK
      obtain ⟨v43, h43, rfl⟩ := hF.va 16 43
      rw [if_neg (by rw [wanted_no 16 rfl (by kernel_rfl) h43]; decide)]
      exact hK _ _ _ rfl hS (Below.refl _ _) rfl
     case o30 =>
      intro dn a w' _ hS hF K hK
      obtain ⟨v43, h43, rfl⟩ := hF.va 16 43
      rw [if_neg (by rw [wanted_no 16 rfl (by kernel_rfl) h43]; decide)]
      exact hK _ _ _ rfl hS (Below.refl _ _) rfl
     case o31 =>
      intro dn a w' _ hS hF K hK
      obtain ⟨v43, h43, rfl⟩ := hF.va 16 43
      rw [if_neg (by rw [wanted_no 16 rfl (by kernel_rfl) h43]; decide)]
      exact hK _ _ _ rfl hS (Below.refl _ _) rfl
     case o32 =>
      intro dn a w' _ hS hF K hK
      obtain ⟨v43, h43, rfl⟩ := hF.va 16 43
      rw [if_neg (by rw [wanted_no 16 rfl (by kernel_rfl) h43]; decide)]
      exact hK _ _ _ rfl hS (Below.refl _ _) rfl
     case o33 =>
      intro dn a w' _ hS hF K hK
      obtain ⟨v43, h43, rfl⟩ := hF.va 16 43
      rw [if_neg (by rw [wanted_no 16 rfl (by kernel_rfl) h43]; decide)]
      exact hK _ _ _ rfl hS (Below.refl _ _) rfl
     case o34 =>
      intro dn a w' _ hS hF K hK
      obtain ⟨v43, h43, rfl⟩ := hF.va 16 43
      obtain ⟨v60, h60, rfl⟩ := hF.va 33 60
      obtain ⟨v33, h33, rfl⟩ := hF.va 6 33
      rw [if_pos (wanted_yes 6 rfl (by kernel_rfl) h33)]
      go_simp
      exact hK _ _ _ rfl hS (Below.refl _ _) rfl
     case o35 =>
      intro dn a w' _ hS hF K hK
      obtain ⟨v33, h33, rfl⟩ := hF.va 6 33
      obtain ⟨v61, h61, rfl⟩ := hF.va 34 61
      rw [if_pos (by kernel_rfl)]
      go_simp
      exact hK _ _ _ rfl hS (Below.refl _ _) rfl
     case hmono =>
      intro i j v w1 w2 _ _ _ _ _ hv _
      exact hv
     case hend =>
      intro dn w5 vs hS hv
      have hvL : vs 35 = .bool true := hv 35 (by decide)
      clear hv
      have HS5 := hid hS
      simp only [putsL, Nat.reduceAdd, Act.put, List.setIfInBounds_toArray, List.set_cons_zero, List.set_cons_succ, hvL]
      go_wp2
      go_ret
      exact ⟨ret_bool HR.out.symm, HBW.out.trans (HS5.out.mono HBW.out.size)⟩
    obtain ⟨q, oq, rfl, hqB, x0, x1, d2', x3⟩ := fn_at (Cs.below HS.out.f HBW.out HBW.out.size) hnf
    obtain ⟨b', o', hbo, _, _, k4, _⟩ := (HWd.out.below HB23.out) (t.h + 1) h1
    injection hbo with hbo
    injection hbo with hb1 hb2
    subst hb1 hb2
    rw [hm] at k4
    have hft : f t = decide ((m : Int) = (fs[n]'hnf).c) := by
     rw [HF.out]; unfold standB
     rw [hK, if_pos h8, hN, Int.toNat_natCast]
     dsimp only
     rw [List.getElem?_eq_getElem hnf]
     have : t.e - t.f = m := by omega
     simp only [this]
    generalize (fs[n]'hnf).c = fc at d2' hft
    have hge : ¬ (fs.length : Int) ≤ n := by omega
    have hgeN : ¬ fs.length ≤ n := by omega
    have hi0 : (0 : Int) ≤ (t.h : Int) + 1 := by omega
    have hi1 : (t.h : Int) + 1 < hs.length := by omega
    have hlt3 : (n : Int) < fs.length := by omega
    by_cases hfc : (m : Int) = fc
    ·
     have HN := hid (HSt.out.step (HU.out t htm) (show f t = true from by rw [hft]; simp [hfc]))
     have hne : (fc != (m : Int)) = false := by simp [hfc]
     clear hK h8 hn hkind hm hf1 he1 hN hft hfc x0 x1 x3
     go_wp2_with fail
     refine wp_region_invA (fun _ w' => Below wr.heap.size wr w') (fun _ w' w'' => Below w'.heap.size w' w'') (fun i vv w' => match i with
      | 0 => vv = .slice (some ⟨b, o, none⟩) hs.length hcap
      | 1 => vv = .int .i64 (t.h : Int)
      | 2 => vv = .pointer (some ⟨b, o + t.h * 3, none⟩)
      | 3 => vv = .pointer (some ⟨b, o + t.h * 3, none⟩)
      | 4 => vv = .int .i64 8
      | 5 => vv = .bool true
      | 6 => vv = .bool true
      | 7 => vv = .slice (some ⟨b, o, none⟩) hs.length hcap
      | 8 => vv = .int .i64 (t.h : Int)
      | 9 => vv = .pointer (some ⟨b, o + t.h * 3, none⟩)
      | 10 => vv = .pointer (some ⟨b, o + t.h * 3 + 1, none⟩)
      | 11 => vv = .int .i64 (n : Int)
      | 12 => vv = .pointer (some ⟨w.heap.size, 0, none⟩)
      | 13 => vv = .slice (some ⟨q, oq, none⟩) fs.length fcap
      | 14 => vv = .int .i64 (fs.length : Int)
      | 15 => vv = .bool false
      | 16 => vv = .bool false
      | 17 => vv = .pointer (some ⟨w.heap.size, 0, none⟩)
      | 18 => vv = .slice (some ⟨q, oq, none⟩) fs.length fcap
      | 19 => vv = .slice (some ⟨b, o, none⟩) hs.length hcap
      | 20 => vv = .int .i64 (t.h : Int)
      | 21 => vv = .pointer (some ⟨b, o + t.h * 3, none⟩)
      | 22 => vv = .pointer (some ⟨b, o + t.h * 3 + 1, none⟩)
      | 23 => vv = .int .i64 (n : Int)
      | 24 => vv = .pointer (some ⟨q, oq + n * 4, none⟩)
      | 25 => vv = .pointer (some ⟨q, oq + n * 4 + 2, none⟩)
      | 26 => vv = .int .i64 fc
      | 27 => vv = .slice (some ⟨b, o, none⟩) hs.length hcap
      | 28 => vv = .int .i64 (t.h : Int)
      | 29 => vv = .int .i64 ((t.h : Int) + 1)
      | 30 => vv = .pointer (some ⟨b, o + (t.h + 1) * 3, none⟩)
      | 31 => vv = .pointer (some ⟨b, o + (t.h + 1) * 3 + 1, none⟩)
      | 32 => vv = .int .i64 (m : Int)
      | 33 => vv = .bool false
      | 34 => vv = .bool false
      | 35 => vv = .bool false
      | _ => True) (by kernel_rfl) (by kernel_rfl) (Below.refl _ _).drew ?hmono ⟨?o0, ?o1, ?o2, ?o3, ?o4, ?o5, ?o6, ?o7, ?o8, ?o9, ?o10, ?o11, ?o12, ?o13, ?o14, ?o15, ?o16, ?o17, ?o18, ?o19, ?o20, ?o21, ?o22, ?o23, ?o24, ?o25, ?o26, ?o27, ?o28, ?o29, ?o30, ?o31, ?o32, ?o33, ?o34, ?o35, trivial⟩ ?hend
     case o0 =>
      intro dn a w' _ hS hF K hK
      have h3 := hF.out 3 (by kernel_rfl) rfl
      rw [if_pos (by kernel_rfl)]
      go_simp
      exact hK _ _ _ rfl hS (Below.refl _ _) rfl
     case o1 =>
      intro dn a w' _ hS hF K hK
      have h6 := hF.out 6 (by kernel_rfl) rfl
      rw [if_pos (by kernel_rfl)]
      go_simp
      exact hK _ _ _ rfl hS (Below.refl _ _) rfl
     case o2 =>
      intro dn a w' _ hS hF K hK
      obtain ⟨v27, h27, rfl⟩ := hF.va 0 27
      obtain ⟨v28, h28, rfl⟩ := hF.va 1 28
      rw [if_pos (by kernel_rfl)]
      go_simp
      exact hK _ _ _ rfl hS (Below.refl _ _) rfl
     case o3 =>
      intro dn a w' _ hS hF K hK
      obtain ⟨v29, h29, rfl⟩ := hF.va 2 29
      rw [if_pos (by kernel_rfl)]
      go_simp
      exact hK _ _ _ rfl hS (Below.refl _ _) rfl
     case o4 =>
      intro dn a w' _ hS hF K hK
      obtain ⟨v30, h30, rfl⟩ := hF.va 3 30
      have c0' := cx hS c0
      have c2' := cx hS c2
      have k0' := cx hS k0
      have k1' := cx hS k1
      have k4' := cx hS k4
      have d2'' := cx hS d2'
      rw [if_pos (by kernel_rfl)]
      go_simp
      exact hK _ _ _ rfl hS (Below.refl _ _) rfl
     case o5 =>
      intro dn a w' _ hS hF K hK
      obtain ⟨v31, h31, rfl⟩ := hF.va 4 31
      rw [if_pos (by kernel_rfl)]
      go_simp
      exact hK _ _ _ rfl hS (Below.refl _ _) rfl
     case o6 =>
      intro dn a w' _ hS hF K hK
      obtain ⟨v32, h32, rfl⟩ := hF.va 5 32
      rw [if_pos (by kernel_rfl)]
      go_simp
      exact hK _ _ _ rfl hS (Below.refl _ _) rfl
     case o7 =>
      intro dn a w' _ hS hF K hK
      have h3 := hF.out 3 (by kernel_rfl) rfl
      obtain ⟨v33, h33, rfl⟩ := hF.va 6 33
      rw [if_pos (wanted_yes 6 rfl (by kernel_rfl) h33)]
      go_simp
      exact hK _ _ _ rfl hS (Below.refl _ _) rfl
     case o8 =>
      intro dn a w' _ hS hF K hK
      have h6 := hF.out 6 (by kernel_rfl) rfl
      obtain ⟨v33, h33, rfl⟩ := hF.va 6 33
      rw [if_pos (wanted_yes 6 rfl (by kernel_rfl) h33)]
      go_simp
      exact hK _ _ _ rfl hS (Below.refl _ _) rfl
     case o9 =>
      intro dn a w' _ hS hF K hK
      obtain ⟨v34, h34, rfl⟩ := hF.va 7 34
      obtain ⟨v35, h35, rfl⟩ := hF.va 8 35
      obtain ⟨v33, h33, rfl⟩ := hF.va 6 33
      rw [if_pos (wanted_yes 6 rfl (by kernel_rfl) h33)]
      go_simp
      exact hK _ _ _ rfl hS (Below.refl _ _) rfl
     case o10 =>
      intro dn a w' _ hS hF K hK
      obtain ⟨v36, h36, rfl⟩ := hF.va 9 36
      obtain ⟨v33, h33, rfl⟩ := hF.va 6 33
      rw [if_pos (wanted_yes 6 rfl (by kernel_rfl) h33)]
      go_simp
      exact hK _ _ _ rfl hS (Below.refl _ _) rfl
     case o11 =>
      intro dn a w' _ hS hF K hK
      obtain ⟨v37, h37, rfl⟩ := hF.va 10 37
      obtain ⟨v33, h33, rfl⟩ := hF.va 6 33
      have c0' := cx hS c0
      have c2' := cx hS c2
      have k0' := cx hS k0
      have k1' := cx hS k1
      have k4' := cx hS k4
      have d2'' := cx hS d2'
      rw [if_pos (wanted_yes 6 rfl (by kernel_rfl) h33)]
      go_simp
      exact hK _ _ _ rfl hS (Below.refl _ _) rfl
     case o12 =>
      intro dn a w' _ hS hF K hK
      have h1 := hF.out 1 (by kernel_rfl) rfl
      obtain ⟨v33, h33, rfl⟩ := hF.va 6 33
      rw [if_pos (wanted_yes 6 rfl (by kernel_rfl) h33)]
      go_simp
      exact hK _ _ _ rfl hS (Below.refl _ _) rfl
     case o13 =>
      intro dn a w' _ hS hF K hK
      obtain ⟨v39, h39, rfl⟩ := hF.va 12 39
      obtain ⟨v33, h33, rfl⟩ := hF.va 6 33
      have c0' := cx hS c0
      have c2' := cx hS c2
      have k0' := cx hS k0
      have k1' := cx hS k1
      have k4' := cx hS k4
      have d2'' := cx hS d2'
      rw [if_pos (wanted_yes 6 rfl (by kernel_rfl) h33)]
      go_simp
      exact hK _ _ _ rfl hS (Below.refl _ _) rfl
     case o14 =>
      intro dn a w' _ hS hF K hK
      obtain ⟨v40, h40, rfl⟩ := hF.va 13 40
      obtain ⟨v33, h33, rfl⟩ := hF.va 6 33
      rw [if_pos (wanted_yes 6 rfl (by kernel_rfl) h33)]
      go_simp
      exact hK _ _ _ rfl hS (Below.refl _ _) rfl
     case o15 =>
      intro dn a w' _ hS hF K hK
      obtain ⟨v38, h38, rfl⟩ := hF.va 11 38
      obtain ⟨v41, h41, rfl⟩ := hF.va 14 41
      obtain ⟨v33, h33, rfl⟩ := hF.va 6 33
      rw [if_pos (wanted_yes 6 rfl (by kernel_rfl) h33)]
      go_simp
      exact hK _ _ _ rfl hS (Below.refl _ _) rfl
     case o16 =>
      intro dn a w' _ hS hF K hK
      obtain ⟨v42, h42, rfl⟩ := hF.va 15 42
      obtain ⟨v33, h33, rfl⟩ := hF.va 6 33
      rw [if_pos (wanted_yes 6 rfl (by kernel_rfl) h33)]
      go_simp
      exact hK _ _ _ rfl hS (Below.refl _ _) rfl
     case o17 =>
      intro dn a w' _ hS hF K hK
      have h1 := hF.out 1 (by kernel_rfl) rfl
      obtain ⟨v43, h43, rfl⟩ := hF.va 16 43
      rw [if_pos (wanted_yes 16 rfl (by kernel_rfl) h43)]
      go_simp
      exact hK _ _ _ rfl hS (Below.refl _ _) rfl
     case o18 =>
      intro dn a w' _ hS hF K hK
      obtain ⟨v44, h44, rfl⟩ := hF.va 17 44
      obtain ⟨v43, h43, rfl⟩ := hF.va 16 43
      have c0' := cx hS c0
      have c2' := cx hS c2
      have k0' := cx hS k0
      have k1' := cx hS k1
      have k4' := cx hS k4
      have d2'' := cx hS d2'
      rw [if_pos (wanted_yes 16 rfl (by kernel_rfl) h43)]
      go_simp
      exact hK _ _ _ rfl hS (Below.refl _ _) rfl
     case o19 =>
      intro dn a w' _ hS hF K hK
      have h3 := hF.out 3 (by kernel_rfl) rfl
      obtain ⟨v43, h43, rfl⟩ := hF.va 16 43
      rw [if_pos (wanted_yes 16 rfl (by kernel_rfl) h43)]
      go_simp
      exact hK _ _ _ rfl hS (Below.refl _ _) rfl
     case o20 =>
      intro dn a w' _ hS hF K hK
      have h6 := hF.out 6 (by kernel_rfl) rfl
      obtain ⟨v43, h43, rfl⟩ := hF.va 16 43
      rw [if_pos (wanted_yes 16 rfl (by kernel_rfl) h43)]
      go_simp
      exact hK _ _ _ rfl hS (Below.refl _ _) rfl
     case o21 =>
      intro dn a w' _ hS hF K hK
      obtain ⟨v46, h46, rfl⟩ := hF.va 19 46
      obtain ⟨v47, h47, rfl⟩ := hF.va 20 47
      obtain ⟨v43, h43, rfl⟩ := hF.va 16 43
      rw [if_pos (wanted_yes 16 rfl (by kernel_rfl) h43)]
      go_simp
      exact hK _ _ _ rfl hS (Below.refl _ _) rfl
     case o22 =>
      intro dn a w' _ hS hF K hK
      obtain ⟨v48, h48, rfl⟩ := hF.va 21 48
      obtain ⟨v43, h43, rfl⟩ := hF.va 16 43
      rw [if_pos (wanted_yes 16 rfl (by kernel_rfl) h43)]
      go_simp
      exact hK _ _ _ rfl hS (Below.refl _ _) rfl
     case o23 =>
      intro dn a w' _ hS hF K hK
      obtain ⟨v49, h49, rfl⟩ := hF.va 22 49
      obtain ⟨v43, h43, rfl⟩ := hF.va 16 43
      have c0' := cx hS c0
      have c2' := cx hS c2
      have k0' := cx hS k0
      have k1' := cx hS k1
      have k4' := cx hS k4
      have d2'' := cx hS d2'
      rw [if_pos (wanted_yes 16 rfl (by kernel_rfl) h43)]
      go_simp
      exact hK _ _ _ rfl hS (Below.refl _ _) rfl
     case o24 =>
      intro dn a w' _ hS hF K hK
      obtain ⟨v45, h45, rfl⟩ := hF.va 18 45
      obtain ⟨v50, h50, rfl⟩ := hF.va 23 50
      obtain ⟨v43, h43, rfl⟩ := hF.va 16 43
      rw [if_pos (wanted_yes 16 rfl (by kernel_rfl) h43)]
      go_simp
      exact hK _ _ _ rfl hS (Below.refl _ _) rfl
     case o25 =>
      intro dn a w' _ hS hF K hK
      obtain ⟨v51, h51, rfl⟩ := hF.va 24 51
      obtain ⟨v43, h43, rfl⟩ := hF.va 16 43
      rw [if_pos (wanted_yes 16 rfl (by kernel_rfl) h43)]
      go_simp
      exact hK _ _ _ rfl hS (Below.refl _ _) rfl
     case o26 =>
      intro dn a w' _ hS hF K hK
      obtain ⟨v52, h52, rfl⟩ := hF.va 25 52
      obtain ⟨v43, h43, rfl⟩ := hF.va 16 43
      have c0' := cx hS c0
      have c2' := cx hS c2
      have k0' := cx hS k0
      have k1' := cx hS k1
      have k4' := cx hS k4
      have d2'' := cx hS d2'
      rw [if_pos (wanted_yes 16 rfl (by kernel_rfl) h43)]
      go_simp
      exact hK _ _ _ rfl hS (Below.refl _ _) rfl
     case o27 =>
      intro dn a w' _ hS hF K hK
      have h3 := hF.out 3 (by kernel_rfl) rfl
      obtain ⟨v43, h43, rfl⟩ := hF.va 16 43
      rw [if_pos (wanted_yes 16 rfl (by kernel_rfl) h43)]
      go_simp
      exact hK _ _ _ rfl hS (Below.refl _ _) rfl
     case o28 =>
      intro dn a w' _ hS hF K hK
      have h6 := hF.out 6 (by kernel_rfl) rfl
      obtain ⟨v43, h43, rfl⟩ := hF.va 16 43
      rw [if_pos (wanted_yes 16 rfl (by kernel_rfl) h43)]
      go_simp
      exact hK _ _ _ rfl hS (Below.refl _ _) rfl
     case o29 =>
      intro dn a w' _ hS hF K hK
      obtain ⟨v55, h55, rfl⟩ := hF.va 28 55
      obtain ⟨v43, h43, rfl⟩ := hF.va 16 43
      rw [if_pos (wanted_yes 16 rfl (by kernel_rfl) h43)]
      go_simp
      rw [wrap_small (by omega) (by omega)]
      exact hK _ _ _ rfl hS (Below.refl _ _) rfl
     case o30 =>
      intro dn a w' _ hS hF K hK
      obtain ⟨v54, h54, rfl⟩ := hF.va 27 54
      obtain ⟨v56, h56, rfl⟩ := hF.va 29 56
      obtain ⟨v43, h43, rfl⟩ := hF.va 16 43
      rw [if_pos (wanted_yes 16 rfl (by kernel_rfl) h43)]
      go_simp
      exact hK _ _ _ rfl hS (Below.refl _ _) rfl
     case o31 =>
      intro dn a w' _ hS hF K hK
      obtain ⟨v57, h57, rfl⟩ := hF.va 30 57
      obtain ⟨v43, h43, rfl⟩ := hF.va 16 43
      rw [if_pos (wanted_yes 16 rfl (by kernel_rfl) h43)]
      go_simp
      exact hK _ _ _ rfl hS (Below.refl _ _) rfl
     case o32 =>
      intro dn a w' _ hS hF K hK
      obtain ⟨v58, h58, rfl⟩ := hF.va 31 58
      obtain ⟨v43, h43, rfl⟩ := hF.va 16 43
      have c0' := cx hS c0
      have c2' := cx hS c2
      have k0' := cx hS k0
      have k1' := cx hS k1
      have k4' := cx hS k4
      have d2'' := cx hS d2'
      rw [if_pos (wanted_yes 16 rfl (by kernel_rfl) h43)]
      go_simp
      exact hK _ _ _ rfl hS (Below.refl _ _) rfl
     case o33 =>
      intro dn a w' _ hS hF K hK
      obtain ⟨v53, h53, rfl⟩ := hF.va 26 53
      obtain ⟨v59, h59, rfl⟩ := hF.va 32 59
      obtain ⟨v43, h43, rfl⟩ := hF.va 16 43
      rw [if_pos (wanted_yes 16 rfl (by kernel_rfl) h43)]
      go_simp
      exact hK _ _ _ rfl hS (Below.refl _ _) rfl
     case o34 =>
      intro dn a w' _ hS hF K hK
      obtain ⟨v43, h43, rfl⟩ := hF.va 16 43
      obtain ⟨v60, h60, rfl⟩ := hF.va 33 60
      obtain ⟨v33, h33, rfl⟩ := hF.va 6 33
      rw [if_pos (wanted_yes 6 rfl (by kernel_rfl) h33)]
      go_simp
      exact hK _ _ _ rfl hS (Below.refl _ _) rfl
     case o35 =>
      intro dn a w' _ hS hF K hK
      obtain ⟨v33, h33, rfl⟩ := hF.va 6 33
      obtain ⟨v61, h61, rfl⟩ := hF.va 34 61
      rw [if_pos (by kernel_rfl)]
      go_simp
      exact hK _ _ _ rfl hS (Below.refl _ _) rfl
     case hmono =>
      intro i j v w1 w2 _ _ _ _ _ hv _
      exact hv
     case hend =>
      intro dn w5 vs hS hv
      have hvL : vs 35 = .bool false := hv 35 (by decide)
      clear hv
      have HS5 := hid hS
      simp only [putsL, Nat.reduceAdd, Act.put, List.setIfInBounds_toArray, List.set_cons_zero, List.set_cons_succ, hvL]
      have k0 := (HS5.out.cell (p := ⟨b, o + t.h * 3, none⟩) hlb).trans k0
      go_wp2_with fail
      go_roundw
      case rel => exact ⟨t.h + 1, by omega, by go_num, HN.out, HBr.out.trans (HS5.out.mono hzr)⟩
      case measure => simp [intOf]; omega
    ·
     have HR := hid (stood_no htm (show f t = false from by rw [hft]; simp [hfc]))
     have hne : (fc != (m : Int)) = true := by simp only [bne_iff_ne, ne_eq]; omega
     clear hK h8 hn hkind hm hf1 he1 hN hft hfc x0 x1 x3
     go_wp2_with fail
     refine wp_region_invA (fun _ w' => Below wr.heap.size wr w') (fun _ w' w'' => Below w'.heap.size w' w'') (fun i vv w' => match i with
      | 0 => vv = .slice (some ⟨b, o, none⟩) hs.length hcap
      | 1 => vv = .int .i64 (t.h : Int)
      | 2 => vv = .pointer (some ⟨b, o + t.h * 3, none⟩)
      | 3 => vv = .pointer (some ⟨b, o + t.h * 3, none⟩)
      | 4 => vv = .int .i64 8
      | 5 => vv = .bool true
      | 6 => vv = .bool true
      | 7 => vv = .slice (some ⟨b, o, none⟩) hs.length hcap
      | 8 => vv = .int .i64 (t.h : Int)
      | 9 => vv = .pointer (some ⟨b, o + t.h * 3, none⟩)
      | 10 => vv = .pointer (some ⟨b, o + t.h * 3 + 1, none⟩)
      | 11 => vv = .int .i64 (n : Int)
      | 12 => vv = .pointer (some ⟨w.heap.size, 0, none⟩)
      | 13 => vv = .slice (some ⟨q, oq, none⟩) fs.length fcap
      | 14 => vv = .int .i64 (fs.length : Int)
      | 15 => vv = .bool false
      | 16 => vv = .bool false
      | 17 => vv = .pointer (some ⟨w.heap.size, 0, none⟩)
      | 18 => vv = .slice (some ⟨q, oq, none⟩) fs.length fcap
      | 19 => vv = .slice (some ⟨b, o, none⟩) hs.length hcap
      | 20 => vv = .int .i64 (t.h : Int)
      | 21 => vv = .pointer (some ⟨b, o + t.h * 3, none⟩)
      | 22 => vv = .pointer (some ⟨b, o + t.h * 3 + 1, none⟩)
      | 23 => vv = .int .i64 (n : Int)
      | 24 => vv = .pointer (some ⟨q, oq + n * 4, none⟩)
      | 25 => vv = .pointer (some ⟨q, oq + n * 4 + 2, none⟩)
      | 26 => vv = .int .i64 fc
      | 27 => vv = .slice (some ⟨b, o, none⟩) hs.length hcap
      | 28 => vv = .int .i64 (t.h : Int)
      | 29 => vv = .int .i64 ((t.h : Int) + 1)
      | 30 => vv = .pointer (some ⟨b, o + (t.h + 1) * 3, none⟩)
      | 31 => vv = .pointer (some ⟨b, o + (t.h + 1) * 3 + 1, none⟩)
      | 32 => vv = .int .i64 (m : Int)
      | 33 => vv = .bool true
      | 34 => vv = .bool true
      | 35 => vv = .bool true
      | _ => True) (by kernel_rfl) (by kernel_rfl) (Below.refl _ _).drew ?hmono ⟨?o0, ?o1, ?o2, ?o3, ?o4, ?o5, ?o6, ?o7, ?o8, ?o9, ?o10, ?o11, ?o12, ?o13, ?o14, ?o15, ?o16, ?o17, ?o18, ?o19, ?o20, ?o21, ?o22, ?o23, ?o24, ?o25, ?o26, ?o27, ?o28, ?o29, ?o30, ?o31, ?o32, ?o33, ?o34, ?o35, trivial⟩ ?hend
     case o0 =>
      intro dn a w' _ hS hF K hK
      have h3 := hF.out 3 (by kernel_rfl) rfl
      rw [if_pos (by kernel_rfl)]
      go_simp
      exact hK _ _ _ rfl hS (Below.refl _ _) rfl
     case o1 =>
      intro dn a w' _ hS hF K hK
      have h6 := hF.out 6 (by kernel_rfl) rfl
      rw [if_pos (by kernel_rfl)]
      go_simp
      exact hK _ _ _ rfl hS (Below.refl _ _) rfl
     case o2 =>
      intro dn a w' _ hS hF K hK
      obtain ⟨v27, h27, rfl⟩ := hF.va 0 27
      obtain ⟨v28, h28, rfl⟩ := hF.va 1 28
      rw [if_pos (by kernel_rfl)]
      go_simp
      exact hK _ _ _ rfl hS (Below.refl _ _) rfl
     case o3 =>
      intro dn a w' _ hS hF K hK
      obtain ⟨v29, h29, rfl⟩ := hF.va 2 29
      rw [if_pos (by kernel_rfl)]
      go_simp
      exact hK _ _ _ rfl hS (Below.refl _ _) rfl
     case o4 =>
      intro dn a w' _ hS hF K hK
      obtain ⟨v30, h30, rfl⟩ := hF.va 3 30
      have c0' := cx hS c0
      have c2' := cx hS c2
      have k0' := cx hS k0
      have k1' := cx hS k1
      have k4' := cx hS k4
      have d2'' := cx hS d2'
      rw [if_pos (by kernel_rfl)]
      go_simp
      exact hK _ _ _ rfl hS (Below.refl _ _) rfl
     case o5 =>
      intro dn a w' _ hS hF K hK
      obtain ⟨v31, h31, rfl⟩ := hF.va 4 31
      rw [if_pos (by kernel_rfl)]
      go_simp
      exact hK _ _ _ rfl hS (Below.refl _ _) rfl
     case o6 =>
      intro dn a w' _ hS hF K hK
      obtain ⟨v32, h32, rfl⟩ := hF.va 5 32
      rw [if_pos (by kernel_rfl)]
      go_simp
      exact hK _ _ _ rfl hS (Below.refl _ _) rfl
     case o7 =>
      intro dn a w' _ hS hF K hK
      have h3 := hF.out 3 (by kernel_rfl) rfl
      obtain ⟨v33, h33, rfl⟩ := hF.va 6 33
      rw [if_pos (wanted_yes 6 rfl (by kernel_rfl) h33)]
      go_simp
      exact hK _ _ _ rfl hS (Below.refl _ _) rfl
     case o8 =>
      intro dn a w' _ hS hF K hK
      have h6 := hF.out 6 (by kernel_rfl) rfl
      obtain ⟨v33, h33, rfl⟩ := hF.va 6 33
      rw [if_pos (wanted_yes 6 rfl (by kernel_rfl) h33)]
      go_simp
      exact hK _ _ _ rfl hS (Below.refl _ _) rfl
     case o9 =>
      intro dn a w' _ hS hF K hK
      obtain ⟨v34, h34, rfl⟩ := hF.va 7 34
      obtain ⟨v35, h35, rfl⟩ := hF.va 8 35
      obtain ⟨v33, h33, rfl⟩ := hF.va 6 33
      rw [if_pos (wanted_yes 6 rfl (by kernel_rfl) h33)]
      go_simp
      exact hK _ _ _ rfl hS (Below.refl _ _) rfl
     case o10 =>
      intro dn a w' _ hS hF K hK
      obtain ⟨v36, h36, rfl⟩ := hF.va 9 36
      obtain ⟨v33, h33, rfl⟩ := hF.va 6 33
      rw [if_pos (wanted_yes 6 rfl (by kernel_rfl) h33)]
      go_simp
      exact hK _ _ _ rfl hS (Below.refl _ _) rfl
     case o11 =>
      intro dn a w' _ hS hF K hK
      obtain ⟨v37, h37, rfl⟩ := hF.va 10 37
      obtain ⟨v33, h33, rfl⟩ := hF.va 6 33
      have c0' := cx hS c0
      have c2' := cx hS c2
      have k0' := cx hS k0
      have k1' := cx hS k1
      have k4' := cx hS k4
      have d2'' := cx hS d2'
      rw [if_pos (wanted_yes 6 rfl (by kernel_rfl) h33)]
      go_simp
      exact hK _ _ _ rfl hS (Below.refl _ _) rfl
     case o12 =>
      intro dn a w' _ hS hF K hK
      have h1 := hF.out 1 (by kernel_rfl) rfl
      obtain ⟨v33, h33, rfl⟩ := hF.va 6 33
      rw [if_pos (wanted_yes 6 rfl (by kernel_rfl) h33)]
      go_simp
      exact hK _ _ _ rfl hS (Below.refl _ _) rfl
     case o13 =>
      intro dn a w' _ hS hF K hK
      obtain ⟨v39, h39, rfl⟩ := hF.va 12 39
      obtain ⟨v33, h33, rfl⟩ := hF.va 6 33
      have c0' := cx hS c0
      have c2' := cx hS c2
      have k0' := cx hS k0
      have k1' := cx hS k1
      have k4' := cx hS k4
      have d2'' := cx hS d2'
      rw [if_pos (wanted_yes 6 rfl (by kernel_rfl) h33)]
      go_simp
      exact hK _ _ _ rfl hS (Below.refl _ _) rfl
     case o14 =>
      intro dn a w' _ hS hF K hK
      obtain ⟨v40, h40, rfl⟩ := hF.va 13 40
      obtain ⟨v33, h33, rfl⟩ := hF.va 6 33
      rw [if_pos (wanted_yes 6 rfl (by kernel_rfl) h33)]
      go_simp
      exact hK _ _ _ rfl hS (Below.refl _ _) rfl
     case o15 =>
      intro dn a w' _ hS hF K hK
      obtain ⟨v38, h38, rfl⟩ := hF.va 11 38
      obtain ⟨v41, h41, rfl⟩ := hF.va 14 41
      obtain ⟨v33, h33, rfl⟩ := hF.va 6 33
      rw [if_pos (wanted_yes 6 rfl (by kernel_rfl) h33)]
      go_simp
      exact hK _ _ _ rfl hS (Below.refl _ _) rfl
     case o16 =>
      intro dn a w' _ hS hF K hK
      obtain ⟨v42, h42, rfl⟩ := hF.va 15 42
      obtain ⟨v33, h33, rfl⟩ := hF.va 6 33
      rw [if_pos (wanted_yes 6 rfl (by kernel_rfl) h33)]
      go_simp
      exact hK _ _ _ rfl hS (Below.refl _ _) rfl
     case o17 =>
      intro dn a w' _ hS hF K hK
      have h1 := hF.out 1 (by kernel_rfl) rfl
      obtain ⟨v43, h43, rfl⟩ := hF.va 16 43
      rw [if_pos (wanted_yes 16 rfl (by kernel_rfl) h43)]
      go_simp
      exact hK _ _ _ rfl hS (Below.refl _ _) rfl
     case o18 =>
      intro dn a w' _ hS hF K hK
      obtain ⟨v44, h44, rfl⟩ := hF.va 17 44
      obtain ⟨v43, h43, rfl⟩ := hF.va 16 43
      have c0' := cx hS c0
      have c2' := cx hS c2
      have k0' := cx hS k0
      have k1' := cx hS k1
      have k4' := cx hS k4
      have d2'' := cx hS d2'
      rw [if_pos (wanted_yes 16 rfl (by kernel_rfl) h43)]
      go_simp
      exact hK _ _ _ rfl hS (Below.refl _ _) rfl
     case o19 =>
      intro dn a w' _ hS hF K hK
      have h3 := hF.out 3 (by kernel_rfl) rfl
      obtain ⟨v43, h43, rfl⟩ := hF.va 16 43
      rw [if_pos (wanted_yes 16 rfl (by kernel_rfl) h43)]
      go_simp
      exact hK _ _ _ rfl hS (Below.refl _ _) rfl
     case o20 =>
      intro dn a w' _ hS hF K hK
      have h6 := hF.out 6 (by kernel_rfl) rfl
      obtain ⟨v43, h43, rfl⟩ := hF.va 16 43
      rw [if_pos (wanted_yes 16 rfl (by kernel_rfl) h43)]
      go_simp
      exact hK _ _ _ rfl hS (Below.refl _ _) rfl
     case o21 =>
      intro dn a w' _ hS hF K hK
      obtain ⟨v46, h46, rfl⟩ := hF.va 19 46
      obtain ⟨v47, h47, rfl⟩ := hF.va 20 47
      obtain ⟨v43, h43, rfl⟩ := hF.va 16 43
      rw [if_pos (wanted_yes 16 rfl (by kernel_rfl) h43)]
      go_simp
      exact hK _ _ _ rfl hS (Below.refl _ _) rfl
     case o22 =>
      intro dn a w' _ hS hF K hK
      obtain ⟨v48, h48, rfl⟩ := hF.va 21 48
      obtain ⟨v43, h43, rfl⟩ := hF.va 16 43
      rw [if_pos (wanted_yes 16 rfl (by kernel_rfl) h43)]
      go_simp
      exact hK _ _ _ rfl hS (Below.refl _ _) rfl
     case o23 =>
      intro dn a w' _ hS hF K hK
      obtain ⟨v49, h49, rfl⟩ := hF.va 22 49
      obtain ⟨v43, h43, rfl⟩ := hF.va 16 43
      have c0' := cx hS c0
      have c2' := cx hS c2
      have k0' := cx hS k0
      have k1' := cx hS k1
      have k4' := cx hS k4
      have d2'' := cx hS d2'
      rw [if_pos (wanted_yes 16 rfl (by kernel_rfl) h43)]
      go_simp
      exact hK _ _ _ rfl hS (Below.refl _ _) rfl
     case o24 =>
      intro dn a w' _ hS hF K hK
      obtain ⟨v45, h45, rfl⟩ := hF.va 18 45
      obtain ⟨v50, h50, rfl⟩ := hF.va 23 50
      obtain ⟨v43, h43, rfl⟩ := hF.va 16 43
      rw [if_pos (wanted_yes 16 rfl (by kernel_rfl) h43)]
      go_simp
      exact hK _ _ _ rfl hS (Below.refl _ _) rfl
     case o25 =>
      intro dn a w' _ hS hF K hK
      obtain ⟨v51, h51, rfl⟩ := hF.va 24 51
      obtain ⟨v43, h43, rfl⟩ := hF.va 16 43
      rw [if_pos (wanted_yes 16 rfl (by kernel_rfl) h43)]
      go_simp
      exact hK _ _ _ rfl hS (Below.refl _ _) rfl
     case o26 =>
      intro dn a w' _ hS hF K hK
      obtain ⟨v52, h52, rfl⟩ := hF.va 25 52
      obtain ⟨v43, h43, rfl⟩ := hF.va 16 43
      have c0' := cx hS c0
      have c2' := cx hS c2
      have k0' := cx hS k0
      have k1' := cx hS k1
      have k4' := cx hS k4
      have d2'' := cx hS d2'
      rw [if_pos (wanted_yes 16 rfl (by kernel_rfl) h43)]
      go_simp
      exact hK _ _ _ rfl hS (Below.refl _ _) rfl
     case o27 =>
      intro dn a w' _ hS hF K hK
      have h3 := hF.out 3 (by kernel_rfl) rfl
      obtain ⟨v43, h43, rfl⟩ := hF.va 16 43
      rw [if_pos (wanted_yes 16 rfl (by kernel_rfl) h43)]
      go_simp
      exact hK _ _ _ rfl hS (Below.refl _ _) rfl
     case o28 =>
      intro dn a w' _ hS hF K hK
      have h6 := hF.out 6 (by kernel_rfl) rfl
      obtain ⟨v43, h43, rfl⟩ := hF.va 16 43
      rw [if_pos (wanted_yes 16 rfl (by kernel_rfl) h43)]
      go_simp
      exact hK _ _ _ rfl hS (Below.refl _ _) rfl
     case o29 =>
      intro dn a w' _ hS hF K hK
      obtain ⟨v55, h55, rfl⟩ := hF.va 28 55
      obtain ⟨v43, h43, rfl⟩ := hF.va 16 43
      rw [if_pos (wanted_yes 16 rfl (by kernel_rfl) h43)]
      go_simp
      rw [wrap_small (by omega) (by omega)]
      exact hK _ _ _ rfl hS (Below.refl _ _) rfl
     case o30 =>
      intro dn a w' _ hS hF K hK
      obtain ⟨v54, h54, rfl⟩ := hF.va 27 54
      obtain ⟨v56, h56, rfl⟩ := hF.va 29 56
      obtain ⟨v43, h43, rfl⟩ := hF.va 16 43
      rw [if_pos (wanted_yes 16 rfl (by kernel_rfl) h43)]
      go_simp
      exact hK _ _ _ rfl hS (Below.refl _ _) rfl
     case o31 =>
      intro dn a w' _ hS hF K hK
      obtain ⟨v57, h57, rfl⟩ := hF.va 30 57
      obtain ⟨v43, h43, rfl⟩ := hF.va 16 43
      rw [if_pos (wanted_yes 16 rfl (by kernel_rfl) h43)]
      go_simp
      exact hK _ _ _ rfl hS (Below.refl _ _) rfl
     case o32 =>
      intro dn a w' _ hS hF K hK
      obtain ⟨v58, h58, rfl⟩ := hF.va 31 58
      obtain ⟨v43, h43, rfl⟩ := hF.va 16 43
      have c0' := cx hS c0
      have c2' := cx hS c2
      have k0' := cx hS k0
      have k1' := cx hS k1
      have k4' := cx hS k4
      have d2'' := cx hS d2'
      rw [if_pos (wanted_yes 16 rfl (by kernel_rfl) h43)]
      go_simp
      exact hK _ _ _ rfl hS (Below.refl _ _) rfl
     case o33 =>
      intro dn a w' _ hS hF K hK
      obtain ⟨v53, h53, rfl⟩ := hF.va 26 53
      obtain ⟨v59, h59, rfl⟩ := hF.va 32 59
      obtain ⟨v43, h43, rfl⟩ := hF.va 16 43
      rw [if_pos (wanted_yes 16 rfl (by kernel_rfl) h43)]
      go_simp
      exact hK _ _ _ rfl hS (Below.refl _ _) rfl
     case o34 =>
      intro dn a w' _ hS hF K hK
      obtain ⟨v43, h43, rfl⟩ := hF.va 16 43
      obtain ⟨v60, h60, rfl⟩ := hF.va 33 60
      obtain ⟨v33, h33, rfl⟩ := hF.va 6 33
      rw [if_pos (wanted_yes 6 rfl (by kernel_rfl) h33)]
      go_simp
      exact hK _ _ _ rfl hS (Below.refl _ _) rfl
     case o35 =>
      intro dn a w' _ hS hF K hK
      obtain ⟨v33, h33, rfl⟩ := hF.va 6 33
      obtain ⟨v61, h61, rfl⟩ := hF.va 34 61
      rw [if_pos (by kernel_rfl)]
      go_simp
      exact hK _ _ _ rfl hS (Below.refl _ _) rfl
     case hmono =>
      intro i j v w1 w2 _ _ _ _ _ hv _
      exact hv
     case hend =>
      intro dn w5 vs hS hv
      have hvL : vs 35 = .bool true := hv 35 (by decide)
      clear hv
      have HS5 := hid hS
      simp only [putsL, Nat.reduceAdd, Act.put, List.setIfInBounds_toArray, List.set_cons_zero, List.set_cons_succ, hvL]
      go_wp2
      go_ret
      exact ⟨ret_bool HR.out.symm, HBW.out.trans (HS5.out.mono HBW.out.size)⟩
   by_cases h9 : (hs[t.h]'hlt).k = 9
   ·
    obtain ⟨hp, ⟨n, hn, hn6⟩, hkind⟩ := hti
    obtain ⟨h1, h2, m, nn, hm, hm2, hq, hq2, hf1, he1⟩ : ∃ h1 : t.h + 1 < hs.length, ∃ h2 : t.h + 2 < hs.length, ∃ m nn : Nat, (hs[t.h + 1]'h1).n = m ∧ m < 20 ∧ (hs[t.h + 2]'h2).n = nn ∧ nn ≤ 6 ∧ t.f = t.h + 3 ∧ t.e = t.h + 3 + nn := by
     rcases hkind with ⟨q, _⟩ | ⟨q, _⟩ | ⟨q, _⟩ | ⟨_, q⟩
     ·
      rw [h9] at q; omega
     ·
      rw [h9] at q; omega
     ·
      rw [h9] at q; omega
     ·
      exact q
    have hN : nInt hs t.h = n := (nInt_at hlt).trans hn
    have hM : nInt hs (t.h + 1) = m := (nInt_at h1).trans hm
    rw [hn] at k1
    rw [h9] at k0
    obtain ⟨b', o', hbo, _, _, k4, _⟩ := (HWd.out.below HB23.out) (t.h + 1) h1
    injection hbo with hbo
    injection hbo with hb1 hb2
    subst hb1 hb2
    obtain ⟨b', o', hbo, _, _, k5, _⟩ := (HWd.out.below HB23.out) (t.h + 2) h2
    injection hbo with hbo
    injection hbo with hb1 hb2
    subst hb1 hb2
    rw [hm] at k4
    rw [hq] at k5
    have hi0 : (0 : Int) ≤ (t.h : Int) + 1 := by omega
    have hi1 : (t.h : Int) + 1 < hs.length := by omega
    have hj0 : (0 : Int) ≤ (t.h : Int) + 2 := by omega
    have hj1 : (t.h : Int) + 2 < hs.length := by omega
    by_cases hnr : n < rs.length
    case neg =>
     have HR := hid (stood_no htm (show f t = false from by
      rw [HF.out]; unfold standB; rw [hK, if_neg h8, if_pos h9, hN, Int.toNat_natCast, List.getElem?_eq_none (by dsimp only; omega)]))
     have hge : rs.length ≤ n := by omega
     clear hK h8 h9 hn hkind hm hf1 he1 hN hM hq
     go_wp2_with fail
     refine wp_region_invA (fun _ w' => Below wr.heap.size wr w') (fun _ w' w'' => Below w'.heap.size w' w'') (fun i vv w' => match i with
      | 0 => vv = .slice (some ⟨b, o, none⟩) hs.length hcap
      | 1 => vv = .int .i64 (t.h : Int)
      | 2 => vv = .pointer (some ⟨b, o + t.h * 3, none⟩)
      | 3 => vv = .pointer (some ⟨b, o + t.h * 3, none⟩)
      | 4 => vv = .int .i64 9
      | 5 => vv = .bool false
      | 6 => vv = .bool false
      | 7 => vv = undef
      | 8 => vv = undef
      | 9 => vv = undef
      | 10 => vv = undef
      | 11 => vv = undef
      | 12 => vv = undef
      | 13 => vv = undef
      | 14 => vv = undef
      | 15 => vv = undef
      | 16 => vv = undef
      | 17 => vv = undef
      | 18 => vv = undef
      | 19 => vv = undef
      | 20 => vv = undef
      | 21 => vv = undef
      | 22 => vv = undef
      | 23 => vv = undef
      | 24 => vv = undef
      | 25 => vv = undef
      | 26 => vv = undef
      | 27 => vv = undef
      | 28 => vv = undef
      | 29 => vv = undef
      | 30 => vv = undef
      | 31 => vv = undef
      | 32 => vv = undef
      | 33 => vv = undef
      | 34 => vv = undef
      | 35 => vv = .bool false
      | _ => True) (by kernel_rfl) (by kernel_rfl) (Below.refl _ _).drew ?hmono ⟨?o0, ?o1, ?o2, ?o3, ?o4, ?o5, ?o6, ?o7, ?o8, ?o9, ?o10, ?o11, ?o12, ?o13, ?o14, ?o15, ?o16, ?o17, ?o18, ?o19, ?o20, ?o21, ?o22, ?o23, ?o24, ?o25, ?o26, ?o27, ?o28, ?o29, ?o30, ?o31, ?o32, ?o33, ?o34, ?o35, trivial⟩ ?hend
     case o0 =>
      intro dn a w' _ hS hF K hK
      have h3 := hF.out 3 (by kernel_rfl) rfl
      rw [if_pos (by kernel_rfl)]
      go_simp
      exact hK _ _ _ rfl hS (Below.refl _ _) rfl
     case o1 =>
      intro dn a w' _ hS hF K hK
      have h6 := hF.out 6 (by kernel_rfl) rfl
      rw [if_pos (by kernel_rfl)]
      go_simp
      exact hK _ _ _ rfl hS (Below.refl _ _) rfl
     case o2 =>
      intro dn a w' _ hS hF K hK
      obtain ⟨v27, h27, rfl⟩ := hF.va 0 27
      obtain ⟨v28, h28, rfl⟩ := hF.va 1 28
      rw [if_pos (by kernel_rfl)]
      go_simp
      exact hK _ _ _ rfl hS (Below.refl _ _) rfl
     case o3 =>
      intro dn a w' _ hS hF K hK
      obtain ⟨v29, h29, rfl⟩ := hF.va 2 29
      rw [if_pos (by kernel_rfl)]
      go_simp
      exact hK _ _ _ rfl hS (Below.refl _ _) rfl
     case o4 =>
      intro dn a w' _ hS hF K hK
      obtain ⟨v30, h30, rfl⟩ := hF.va 3 30
      have c0' := cx hS c0
      have c2' := cx hS c2
      have k0' := cx hS k0
      rw [if_pos (by kernel_rfl)]
      go_simp
      exact hK _ _ _ rfl hS (Below.refl _ _) rfl
     case o5 =>
      intro dn a w' _ hS hF K hK
      obtain ⟨v31, h31, rfl⟩ := hF.va 4 31
      rw [if_pos (by kernel_rfl)]
      go_simp
      exact hK _ _ _ rfl hS (Below.refl _ _) rfl
     case o6 =>
      intro dn a w' _ hS hF K hK
      obtain ⟨v32, h32, rfl⟩ := hF.va 5 32
      rw [if_pos (by kernel_rfl)]
      go_simp
      exact hK _ _ _ rfl hS (Below.refl _ _) rfl
     case o7 =>
      intro dn a w' _ hS hF K hK
      obtain ⟨v33, h33, rfl⟩ := hF.va 6 33
      rw [if_neg (by rw [wanted_no 6 rfl (by kernel_rfl) h33]; decide)]
      exact hK _ _ _ rfl hS (Below.refl _ _) rfl
     case o8 =>
      intro dn a w' _ hS hF K hK
      obtain ⟨v33, h33, rfl⟩ := hF.va 6 33
      rw [if_neg (by rw [wanted_no 6 rfl (by kernel_rfl) h33]; decide)]
      exact hK _ _ _ rfl hS (Below.refl _ _) rfl
     case o9 =>
      intro dn a w' _ hS hF K hK
      obtain ⟨v33, h33, rfl⟩ := hF.va 6 33
      rw [if_neg (by rw [wanted_no 6 rfl (by kernel_rfl) h33]; decide)]
      exact hK _ _ _ rfl hS (Below.refl _ _) rfl
     case o10 =>
      intro dn a w' _ hS hF K hK
      obtain ⟨v33, h33, rfl⟩ := hF.va 6 33
      rw [if_neg (by rw [wanted_no 6 rfl (by kernel_rfl) h33]; decide)]
      exact hK _ _ _ rfl hS (Below.refl _ _) rfl
     case o11 =>
      intro dn a w' _ hS hF K hK
      obtain ⟨v33, h33, rfl⟩ := hF.va 6 33
      rw [if_neg (by rw [wanted_no 6 rfl (by kernel_rfl) h33]; decide)]
      exact hK _ _ _ rfl hS (Below.refl _ _) rfl
     case o12 =>
      intro dn a w' _ hS hF K hK
      obtain ⟨v33, h33, rfl⟩ := hF.va 6 33
      rw [if_neg (by rw [wanted_no 6 rfl (by kernel_rfl) h33]; decide)]
      exact hK _ _ _ rfl hS (Below.refl _ _) rfl
     case o13 =>
      intro dn a w' _ hS hF K hK
      obtain ⟨v33, h33, rfl⟩ := hF.va 6 33
      rw [if_neg (by rw [wanted_no 6 rfl (by kernel_rfl) h33]; decide)]
      exact hK _ _ _ rfl hS (Below.refl _ _) rfl
     case o14 =>
      intro dn a w' _ hS hF K hK
      obtain ⟨v33, h33, rfl⟩ := hF.va 6 33
      rw [if_neg (by rw [wanted_no 6 rfl (by kernel_rfl) h33]; decide)]
      exact hK _ _ _ rfl hS (Below.refl _ _) rfl
     case o15 =>
      intro dn a w' _ hS hF K hK
      obtain ⟨v33, h33, rfl⟩ := hF.va 6 33
      rw [if_neg (by rw [wanted_no 6 rfl (by kernel_rfl) h33]; decide)]
      exact hK _ _ _ rfl hS (Below.refl _ _) rfl
     case o16 =>
      intro dn a w' _ hS hF K hK
      obtain ⟨v33, h33, rfl⟩ := hF.va 6 33
      rw [if_neg (by rw [wanted_no 6 rfl (by kernel_rfl) h33]; decide)]
      exact hK _ _ _ rfl hS (Below.refl _ _) rfl
     case o17 =>
      intro dn a w' _ hS hF K hK
      obtain ⟨v43, h43, rfl⟩ := hF.va 16 43
      rw [if_neg (by rw [wanted_undef 16 rfl (by kernel_rfl) h43]; decide)]
      exact hK _ _ _ rfl hS (Below.refl _ _) rfl
     case o18 =>
      intro dn a w' _ hS hF K hK
      obtain ⟨v43, h43, rfl⟩ := hF.va 16 43
      rw [if_neg (by rw [wanted_undef 16 rfl (by kernel_rfl) h43]; decide)]
      exact hK _ _ _ rfl hS (Below.refl _ _) rfl
     case o19 =>
      intro dn a w' _ hS hF K hK
      obtain ⟨v43, h43, rfl⟩ := hF.va 16 43
      rw [if_neg (by rw [wanted_undef 16 rfl (by kernel_rfl) h43]; decide)]
      exact hK _ _ _ rfl hS (Below.refl _ _) rfl
     case o20 =>
      intro dn a w' _ hS hF K hK
      obtain ⟨v43, h43, rfl⟩ := hF.va 16 43
      rw [if_neg (by rw [wanted_undef 16 rfl (by kernel_rfl) h43]; decide)]
      exact hK _ _ _ rfl hS (Below.refl _ _) rfl
     case o21 =>
      intro dn a w' _ hS hF K hK
      obtain ⟨v43, h43, rfl⟩ := hF.va 16 43
      rw [if_neg (by rw [wanted_undef 16 rfl (by kernel_rfl) h43]; decide)]
      exact hK _ _ _ rfl hS (Below.refl _ _) rfl
     case o22 =>
      intro dn a w' _ hS hF K hK
      obtain ⟨v43, h43, rfl⟩ := hF.va 16 43
      rw [if_neg (by rw [wanted_undef 16 rfl (by kernel_rfl) h43]; decide)]
      exact hK _ _ _ rfl hS (Below.refl _ _) rfl
     case o23 =>
      intro dn a w' _ hS hF K hK
      obtain ⟨v43, h43, rfl⟩ := hF.va 16 43
      rw [if_neg (by rw [wanted_undef 16 rfl (by kernel_rfl) h43]; decide)]
      exact hK _ _ _ rfl hS (Below.refl _ _) rfl
     case o24 =>
      intro dn a w' _ hS hF K hK
      obtain ⟨v43, h43, rfl⟩ := hF.va 16 43
      rw [if_neg (by rw [wanted_undef 16 rfl (by kernel_rfl) h43]; decide)]
      exact hK _ _ _ rfl hS (Below.refl _ _) rfl
     case o25 =>
      intro dn a w' _ hS hF K hK
      obtain ⟨v43, h43, rfl⟩ := hF.va 16 43
      rw [if_neg (by rw [wanted_undef 16 rfl (by kernel_rfl) h43]; decide)]
      exact hK _ _ _ rfl hS (Below.refl _ _) rfl
     case o26 =>
      intro dn a w' _ hS hF K hK
      obtain ⟨v43, h43, rfl⟩ := hF.va 16 43
      rw [if_neg (by rw [wanted_undef 16 rfl (by kernel_rfl) h43]; decide)]
      exact hK _ _ _ rfl hS (Below.refl _ _) rfl
     case o27 =>
      intro dn a w' _ hS hF K hK
      obtain ⟨v43, h43, rfl⟩ := hF.va 16 43
      rw [if_neg (by rw [wanted_undef 16 rfl (by kernel_rfl) h43]; decide)]
      exact hK _ _ _ rfl hS (Below.refl _ _) rfl
     case o28 =>
      intro dn a w' _ hS hF K hK
      obtain ⟨v43, h43, rfl⟩ := hF.va 16 43
      rw [if_neg (by rw [wanted_undef 16 rfl (by kernel_rfl) h43]; decide)]
      exact hK _ _ _ rfl hS (Below.refl _ _) rfl
     case o29 =>
      intro dn a w' _ hS hF K hK
      obtain ⟨v43, h43, rfl⟩ := hF.va 16 43
      rw [if_neg (by rw [wanted_undef 16 rfl (by kernel_rfl) h43]; decide)]
      exact hK _ _ _ rfl hS (Below.refl _ _) rfl
     case o30 =>
      intro dn a w' _ hS hF K hK
      obtain ⟨v43, h43, rfl⟩ := hF.va 16 43
      rw [if_neg (by rw [wanted_undef 16 rfl (by kernel_rfl) h43]; decide)]
      exact hK _ _ _ rfl hS (Below.refl _ _) rfl
     case o31 =>
      intro dn a w' _ hS hF K hK
      obtain ⟨v43, h43, rfl⟩ := hF.va 16 43
      rw [if_neg (by rw [wanted_undef 16 rfl (by kernel_rfl) h43]; decide)]
      exact hK _ _ _ rfl hS (Below.refl _ _) rfl
     case o32 =>
      intro dn a w' _ hS hF K hK
      obtain ⟨v43, h43, rfl⟩ := hF.va 16 43
      rw [if_neg (by rw [wanted_undef 16 rfl (by kernel_rfl) h43]; decide)]
      exact hK _ _ _ rfl hS (Below.refl _ _) rfl
     case o33 =>
      intro dn a w' _ hS hF K hK
      obtain ⟨v43, h43, rfl⟩ := hF.va 16 43
      rw [if_neg (by rw [wanted_undef 16 rfl (by kernel_rfl) h43]; decide)]
      exact hK _ _ _ rfl hS (Below.refl _ _) rfl
     case o34 =>
      intro dn a w' _ hS hF K hK
      obtain ⟨v33, h33, rfl⟩ := hF.va 6 33
      rw [if_neg (by rw [wanted_no 6 rfl (by kernel_rfl) h33]; decide)]
      exact hK _ _ _ rfl hS (Below.refl _ _) rfl
     case o35 =>
      intro dn a w' _ hS hF K hK
      obtain ⟨v33, h33, rfl⟩ := hF.va 6 33
      obtain ⟨v61, h61, rfl⟩ := hF.va 34 61
      rw [if_pos (by kernel_rfl)]
      go_simp
      exact hK _ _ _ rfl hS (Below.refl _ _) rfl
     case hmono =>
      intro i j v w1 w2 _ _ _ _ _ hv _
      exact hv
     case hend =>
      intro dn w5 vs hS hv
      have hvL : vs 35 = .bool false := hv 35 (by decide)
      clear hv
      have HS5 := hid hS
      simp only [putsL, Nat.reduceAdd, Act.put, List.setIfInBounds_toArray, List.set_cons_zero, List.set_cons_succ, hvL]
      have k0 := (HS5.out.cell (p := ⟨b, o + t.h * 3, none⟩) hlb).trans k0
      have k1 := (HS5.out.cell (p := ⟨b, o + t.h * 3 + 1, none⟩) hlb).trans k1
      have c2 := (HS5.out.cell (p := ⟨w.heap.size, 2, none⟩) (by dsimp only; omega)).trans c2
      have hz5 := HS5.out.size
      go_wp2_with fail
      refine wp_region_invA (fun _ w' => Below w5.heap.size w5 w') (fun _ w' w'' => Below w'.heap.size w' w'') (fun i vv w' => match i with
       | 0 => vv = .slice (some ⟨b, o, none⟩) hs.length hcap
       | 1 => vv = .int .i64 (t.h : Int)
       | 2 => vv = .pointer (some ⟨b, o + t.h * 3, none⟩)
       | 3 => vv = .pointer (some ⟨b, o + t.h * 3 + 1, none⟩)
       | 4 => vv = .int .i64 (n : Int)
       | 5 => vv = .pointer (some ⟨w.heap.size, 2, none⟩)
       | 6 => vv = .slice ra rs.length rcap
       | 7 => vv = .int .i64 (rs.length : Int)
       | 8 => vv = .bool true
       | _ => True) (by kernel_rfl) (by kernel_rfl) (Below.refl _ _).drew ?hmono ⟨?o0, ?o1, ?o2, ?o3, ?o4, ?o5, ?o6, ?o7, ?o8, trivial⟩ ?hend
      case o0 =>
       intro dn a w' _ hS hF K hK
       have h3 := hF.out 3 (by kernel_rfl) rfl
       rw [if_pos (by kernel_rfl)]
       go_simp
       exact hK _ _ _ rfl hS (Below.refl _ _) rfl
      case o1 =>
       intro dn a w' _ hS hF K hK
       have h6 := hF.out 6 (by kernel_rfl) rfl
       rw [if_pos (by kernel_rfl)]
       go_simp
       exact hK _ _ _ rfl hS (Below.refl _ _) rfl
      case o2 =>
       intro dn a w' _ hS hF K hK
       obtain ⟨v69, h69, rfl⟩ := hF.va 0 69
       obtain ⟨v70, h70, rfl⟩ := hF.va 1 70
       rw [if_pos (by kernel_rfl)]
       go_simp
       exact hK _ _ _ rfl hS (Below.refl _ _) rfl
      case o3 =>
       intro dn a w' _ hS hF K hK
       obtain ⟨v71, h71, rfl⟩ := hF.va 2 71
       rw [if_pos (by kernel_rfl)]
       go_simp
       exact hK _ _ _ rfl hS (Below.refl _ _) rfl
      case o4 =>
       intro dn a w' _ hS hF K hK
       obtain ⟨v72, h72, rfl⟩ := hF.va 3 72
       have c2' := cx hS c2
       have k1' := cx hS k1
       rw [if_pos (by kernel_rfl)]
       go_simp
       exact hK _ _ _ rfl hS (Below.refl _ _) rfl
      case o5 =>
       intro dn a w' _ hS hF K hK
       have h1 := hF.out 1 (by kernel_rfl) rfl
       rw [if_pos (by kernel_rfl)]
       go_simp
       exact hK _ _ _ rfl hS (Below.refl _ _) rfl
      case o6 =>
       intro dn a w' _ hS hF K hK
       obtain ⟨v74, h74, rfl⟩ := hF.va 5 74
       have c2' := cx hS c2
       have k1' := cx hS k1
       rw [if_pos (by kernel_rfl)]
       go_simp
       exact hK _ _ _ rfl hS (Below.refl _ _) rfl
      case o7 =>
       intro dn a w' _ hS hF K hK
       obtain ⟨v75, h75, rfl⟩ := hF.va 6 75
       rw [if_pos (by kernel_rfl)]
       go_simp
       exact hK _ _ _ rfl hS (Below.refl _ _) rfl
      case o8 =>
       intro dn a w' _ hS hF K hK
       obtain ⟨v73, h73, rfl⟩ := hF.va 4 73
       obtain ⟨v76, h76, rfl⟩ := hF.va 7 76
       rw [if_pos (by kernel_rfl)]
       go_simp
       exact hK _ _ _ rfl hS (Below.refl _ _) rfl
      case hmono =>
       intro i j v w1 w2 _ _ _ _ _ hv _
       exact hv
      case hend =>
       intro dn w6 vs hS hv
       have hvL : vs 8 = .bool true := hv 8 (by decide)
       clear hv
       have HS6 := hid hS
       simp only [putsL, Nat.reduceAdd, Act.put, List.setIfInBounds_toArray, List.set_cons_zero, List.set_cons_succ, hvL]
       go_wp2
       go_ret
       exact ⟨ret_bool HR.out.symm, HBW.out.trans ((HS5.out.trans (HS6.out.mono hz5)).mono HBW.out.size)⟩
    obtain ⟨q, oq, rfl, hqB, y0, y1, y2⟩ := rc_at (Cs.below HS.out.r HBW.out HBW.out.size) hnr
    have hVs := hid (Cs.below (HS.out.rs _ (List.getElem_mem hnr)).v HBW.out HBW.out.size)
    have hvb : (rs[n]'hnr).vs.length ≤ 9223372036854775807 := by have := (HBg.out.rs _ (List.getElem_mem hnr)).v; omega
    have hft : f t = (match (rs[n]'hnr).vs[m]? with | none => false | some s => decide (nn = s.fs.length)) := by
     rw [HF.out]; unfold standB
     rw [hK, if_neg h8, if_pos h9, hN, hM, Int.toNat_natCast, Int.toNat_natCast]
     dsimp only
     rw [List.getElem?_eq_getElem hnr]
     have : t.e - t.f = nn := by omega
     simp only [this]
     cases (rs[n]'hnr).vs[m]? <;> rfl
    have hb2 := HBg.out.rs _ (List.getElem_mem hnr)
    generalize (rs[n]'hnr) = r at y0 y1 y2 hVs hvb hft hb2
    obtain ⟨nm, va, vcap, vs', ma, mcap, ms⟩ := r
    dsimp only at y0 y1 y2 hVs hvb hft
    have HBR := hid hb2
    have hgeN : ¬ rs.length ≤ n := by omega
    have hgeI : ¬ (rs.length : Int) ≤ n := by omega
    have hltI : (n : Int) < rs.length := by omega
    clear hK h8 h9 hn hkind hm hf1 he1 hN hM hq hb2
    go_wp2_with fail
    refine wp_region_invA (fun _ w' => Below wr.heap.size wr w') (fun _ w' w'' => Below w'.heap.size w' w'') (fun i vv w' => match i with
     | 0 => vv = .slice (some ⟨b, o, none⟩) hs.length hcap
     | 1 => vv = .int .i64 (t.h : Int)
     | 2 => vv = .pointer (some ⟨b, o + t.h * 3, none⟩)
     | 3 => vv = .pointer (some ⟨b, o + t.h * 3, none⟩)
     | 4 => vv = .int .i64 9
     | 5 => vv = .bool false
     | 6 => vv = .bool false
     | 7 => vv = undef
     | 8 => vv = undef
     | 9 => vv = undef
     | 10 => vv = undef
     | 11 => vv = undef
     | 12 => vv = undef
     | 13 => vv = undef
     | 14 => vv = undef
     | 15 => vv = undef
     | 16 => vv = undef
     | 17 => vv = undef
     | 18 => vv = undef
     | 19 => vv = undef
     | 20 => vv = undef
     | 21 => vv = undef
     | 22 => vv = undef
     | 23 => vv = undef
     | 24 => vv = undef
     | 25 => vv = undef
     | 26 => vv = undef
     | 27 => vv = undef
     | 28 => vv = undef
     | 29 => vv = undef
     | 30 => vv = undef
     | 31 => vv = undef
     | 32 => vv = undef
     | 33 => vv = undef
     | 34 => vv = undef
     | 35 => vv = .bool false
     | _ => True) (by kernel_rfl) (by kernel_rfl) (Below.refl _ _).drew ?hmono ⟨?o0, ?o1, ?o2, ?o3, ?o4, ?o5, ?o6, ?o7, ?o8, ?o9, ?o10, ?o11, ?o12, ?o13, ?o14, ?o15, ?o16, ?o17, ?o18, ?o19, ?o20, ?o21, ?o22, ?o23, ?o24, ?o25, ?o26, ?o27, ?o28, ?o29, ?o30, ?o31, ?o32, ?o33, ?o34, ?o35, trivial⟩ ?hend
    case o0 =>
     intro dn a w' _ hS hF K hK
     have h3 := hF.out 3 (by kernel_rfl) rfl
     rw [if_pos (by kernel_rfl)]
     go_simp
     exact hK _ _ _ rfl hS (Below.refl _ _) rfl
    case o1 =>
     intro dn a w' _ hS hF K hK
     have h6 := hF.out 6 (by kernel_rfl) rfl
     rw [if_pos (by kernel_rfl)]
     go_simp
     exact hK _ _ _ rfl hS (Below.refl _ _) rfl
    case o2 =>
     intro dn a w' _ hS hF K hK
     obtain ⟨v27, h27, rfl⟩ := hF.va 0 27
     obtain ⟨v28, h28, rfl⟩ := hF.va 1 28
     rw [if_pos (by kernel_rfl)]
     go_simp
     exact hK _ _ _ rfl hS (Below.refl _ _) rfl
    case o3 =>
     intro dn a w' _ hS hF K hK
     obtain ⟨v29, h29, rfl⟩ := hF.va 2 29
     rw [if_pos (by kernel_rfl)]
     go_simp
     exact hK _ _ _ rfl hS (Below.refl _ _) rfl
    case o4 =>
     intro dn a w' _ hS hF K hK
     obtain ⟨v30, h30, rfl⟩ := hF.va 3 30
     have c0' := cx hS c0
     have c2' := cx hS c2
     have k0' := cx hS k0
     rw [if_pos (by kernel_rfl)]
     go_simp
     exact hK _ _ _ rfl hS (Below.refl _ _) rfl
    case o5 =>
     intro dn a w' _ hS hF K hK
     obtain ⟨v31, h31, rfl⟩ := hF.va 4 31
     rw [if_pos (by kernel_rfl)]
     go_simp
     exact hK _ _ _ rfl hS (Below.refl _ _) rfl
    case o6 =>
     intro dn a w' _ hS hF K hK
     obtain ⟨v32, h32, rfl⟩ := hF.va 5 32
     rw [if_pos (by kernel_rfl)]
     go_simp
     exact hK _ _ _ rfl hS (Below.refl _ _) rfl
    case o7 =>
     intro dn a w' _ hS hF K hK
     obtain ⟨v33, h33, rfl⟩ := hF.va 6 33
     rw [if_neg (by rw [wanted_no 6 rfl (by kernel_rfl) h33]; decide)]
     exact hK _ _ _ rfl hS (Below.refl _ _) rfl
    case o8 =>
     intro dn a w' _ hS hF K hK
     obtain ⟨v33, h33, rfl⟩ := hF.va 6 33
     rw [if_neg (by rw [wanted_no 6 rfl (by kernel_rfl) h33]; decide)]
     exact hK _ _ _ rfl hS (Below.refl _ _) rfl
    case o9 =>
     intro dn a w' _ hS hF K hK
     obtain ⟨v33, h33, rfl⟩ := hF.va 6 33
     rw [if_neg (by rw [wanted_no 6 rfl (by kernel_rfl) h33]; decide)]
     exact hK _ _ _ rfl hS (Below.refl _ _) rfl
    case o10 =>
     intro dn a w' _ hS hF K hK
     obtain ⟨v33, h33, rfl⟩ := hF.va 6 33
     rw [if_neg (by rw [wanted_no 6 rfl (by kernel_rfl) h33]; decide)]
     exact hK _ _ _ rfl hS (Below.refl _ _) rfl
    case o11 =>
     intro dn a w' _ hS hF K hK
     obtain ⟨v33, h33, rfl⟩ := hF.va 6 33
     rw [if_neg (by rw [wanted_no 6 rfl (by kernel_rfl) h33]; decide)]
     exact hK _ _ _ rfl hS (Below.refl _ _) rfl
    case o12 =>
     intro dn a w' _ hS hF K hK
     obtain ⟨v33, h33, rfl⟩ := hF.va 6 33
     rw [if_neg (by rw [wanted_no 6 rfl (by kernel_rfl) h33]; decide)]
     exact hK _ _ _ rfl hS (Below.refl _ _) rfl
    case o13 =>
     intro dn a w' _ hS hF K hK
     obtain ⟨v33, h33, rfl⟩ := hF.va 6 33
     rw [if_neg (by rw [wanted_no 6 rfl (by kernel_rfl) h33]; decide)]
     exact hK _ _ _ rfl hS (Below.refl _ _) rfl
    case o14 =>
     intro dn a w' _ hS hF K hK
     obtain ⟨v33, h33, rfl⟩ := hF.va 6 33
     rw [if_neg (by rw [wanted_no 6 rfl (by kernel_rfl) h33]; decide)]
     exact hK _ _ _ rfl hS (Below.refl _ _) rfl
    case o15 =>
     intro dn a w' _ hS hF K hK
     obtain ⟨v33, h33, rfl⟩ := hF.va 6 33
     rw [if_neg (by rw [wanted_no 6 rfl (by kernel_rfl) h33]; decide)]
     exact hK _ _ _ rfl hS (Below.refl _ _) rfl
    case o16 =>
     intro dn a w' _ hS hF K hK
     obtain ⟨v33, h33, rfl⟩ := hF.va 6 33
     rw [if_neg (by rw [wanted_no 6 rfl (by kernel_rfl) h33]; decide)]
     exact hK _ _ _ rfl hS (Below.refl _ _) rfl
    case o17 =>
     intro dn a w' _ hS hF K hK
     obtain ⟨v43, h43, rfl⟩ := hF.va 16 43
     rw [if_neg (by rw [wanted_undef 16 rfl (by kernel_rfl) h43]; decide)]
     exact hK _ _ _ rfl hS (Below.refl _ _) rfl
    case o18 =>
     intro dn a w' _ hS hF K hK
     obtain ⟨v43, h43, rfl⟩ := hF.va 16 43
     rw [if_neg (by rw [wanted_undef 16 rfl (by kernel_rfl) h43]; decide)]
     exact hK _ _ _ rfl hS (Below.refl _ _) rfl
    case o19 =>
     intro dn a w' _ hS hF K hK
     obtain ⟨v43, h43, rfl⟩ := hF.va 16 43
     rw [if_neg (by rw [wanted_undef 16 rfl (by kernel_rfl) h43]; decide)]
     exact hK _ _ _ rfl hS (Below.refl _ _) rfl
    case o20 =>
     intro dn a w' _ hS hF K hK
     obtain ⟨v43, h43, rfl⟩ := hF.va 16 43
     rw [if_neg (by rw [wanted_undef 16 rfl (by kernel_rfl) h43]; decide)]
     exact hK _ _ _ rfl hS (Below.refl _ _) rfl
    case o21 =>
     intro dn a w' _ hS hF K hK
     obtain ⟨v43, h43, rfl⟩ := hF.va 16 43
     rw [if_neg (by rw [wanted_undef 16 rfl (by kernel_rfl) h43]; decide)]
     exact hK _ _ _ rfl hS (Below.refl _ _) rfl
    case o22 =>
     intro dn a w' _ hS hF K hK
     obtain ⟨v43, h43, rfl⟩ := hF.va 16 43
     rw [if_neg (by rw [wanted_undef 16 rfl (by kernel_rfl) h43]; decide)]
     exact hK _ _ _ rfl hS (Below.refl _ _) rfl
    case o23 =>
     intro dn a w' _ hS hF K hK
     obtain ⟨v43, h43, rfl⟩ := hF.va 16 43
     rw [if_neg (by rw [wanted_undef 16 rfl (by kernel_rfl) h43]; decide)]
     exact hK _ _ _ rfl hS (Below.refl _ _) rfl
    case o24 =>
     intro dn a w' _ hS hF K hK
     obtain ⟨v43, h43, rfl⟩ := hF.va 16 43
     rw [if_neg (by rw [wanted_undef 16 rfl (by kernel_rfl) h43]; decide)]
     exact hK _ _ _ rfl hS (Below.refl _ _) rfl
    case o25 =>
     intro dn a w' _ hS hF K hK
     obtain ⟨v43, h43, rfl⟩ := hF.va 16 43
     rw [if_neg (by rw [wanted_undef 16 rfl (by kernel_rfl) h43]; decide)]
     exact hK _ _ _ rfl hS (Below.refl _ _) rfl
    case o26 =>
     intro dn a w' _ hS hF K hK
     obtain ⟨v43, h43, rfl⟩ := hF.va 16 43
     rw [if_neg (by rw [wanted_undef 16 rfl (by kernel_rfl) h43]; decide)]
     exact hK _ _ _ rfl hS (Below.refl _ _) rfl
    case o27 =>
     intro dn a w' _ hS hF K hK
     obtain ⟨v43, h43, rfl⟩ := hF.va 16 43
     rw [if_neg (by rw [wanted_undef 16 rfl (by kernel_rfl) h43]; decide)]
     exact hK _ _ _ rfl hS (Below.refl _ _) rfl
    case o28 =>
     intro dn a w' _ hS hF K hK
     obtain ⟨v43, h43, rfl⟩ := hF.va 16 43
     rw [if_neg (by rw [wanted_undef 16 rfl (by kernel_rfl) h43]; decide)]
     exact hK _ _ _ rfl hS (Below.refl _ _) rfl
    case o29 =>
     intro dn a w' _ hS hF K hK
     obtain ⟨v43, h43, rfl⟩ := hF.va 16 43
     rw [if_neg (by rw [wanted_undef 16 rfl (by kernel_rfl) h43]; decide)]
     exact hK _ _ _ rfl hS (Below.refl _ _) rfl
    case o30 =>
     intro dn a w' _ hS hF K hK
     obtain ⟨v43, h43, rfl⟩ := hF.va 16 43
     rw [if_neg (by rw [wanted_undef 16 rfl (by kernel_rfl) h43]; decide)]
     exact hK _ _ _ rfl hS (Below.refl _ _) rfl
    case o31 =>
     intro dn a w' _ hS hF K hK
     obtain ⟨v43, h43, rfl⟩ := hF.va 16 43
     rw [if_neg (by rw [wanted_undef 16 rfl (by kernel_rfl) h43]; decide)]
     exact hK _ _ _ rfl hS (Below.refl _ _) rfl
    case o32 =>
     intro dn a w' _ hS hF K hK
     obtain ⟨v43, h43, rfl⟩ := hF.va 16 43
     rw [if_neg (by rw [wanted_undef 16 rfl (by kernel_rfl) h43]; decide)]
     exact hK _ _ _ rfl hS (Below.refl _ _) rfl
    case o33 =>
     intro dn a w' _ hS hF K hK
     obtain ⟨v43, h43, rfl⟩ := hF.va 16 43
     rw [if_neg (by rw [wanted_undef 16 rfl (by kernel_rfl) h43]; decide)]
     exact hK _ _ _ rfl hS (Below.refl _ _) rfl
    case o34 =>
     intro dn a w' _ hS hF K hK
     obtain ⟨v33, h33, rfl⟩ := hF.va 6 33
     rw [if_neg (by rw [wanted_no 6 rfl (by kernel_rfl) h33]; decide)]
     exact hK _ _ _ rfl hS (Below.refl _ _) rfl
    case o35 =>
     intro dn a w' _ hS hF K hK
     obtain ⟨v33, h33, rfl⟩ := hF.va 6 33
     obtain ⟨v61, h61, rfl⟩ := hF.va 34 61
     rw [if_pos (by kernel_rfl)]
     go_simp
     exact hK _ _ _ rfl hS (Below.refl _ _) rfl
    case hmono =>
     intro i j v w1 w2 _ _ _ _ _ hv _
     exact hv
    case hend =>
     intro dn w5 vs hS hv
     have hvL : vs 35 = .bool false := hv 35 (by decide)
     clear hv
     have HS5 := hid hS
     simp only [putsL, Nat.reduceAdd, Act.put, List.setIfInBounds_toArray, List.set_cons_zero, List.set_cons_succ, hvL]
     have k0 := (HS5.out.cell (p := ⟨b, o + t.h * 3, none⟩) hlb).trans k0
     have k1' := (HS5.out.cell (p := ⟨b, o + t.h * 3 + 1, none⟩) hlb).trans k1
     have c2' := (HS5.out.cell (p := ⟨w.heap.size, 2, none⟩) (by dsimp only; omega)).trans c2
     have hz5 := HS5.out.size
     go_wp2_with fail
     refine wp_region_invA (fun _ w' => Below w5.heap.size w5 w') (fun _ w' w'' => Below w'.heap.size w' w'') (fun i vv w' => match i with
      | 0 => vv = .slice (some ⟨b, o, none⟩) hs.length hcap
      | 1 => vv = .int .i64 (t.h : Int)
      | 2 => vv = .pointer (some ⟨b, o + t.h * 3, none⟩)
      | 3 => vv = .pointer (some ⟨b, o + t.h * 3 + 1, none⟩)
      | 4 => vv = .int .i64 (n : Int)
      | 5 => vv = .pointer (some ⟨w.heap.size, 2, none⟩)
      | 6 => vv = .slice (some ⟨q, oq, none⟩) rs.length rcap
      | 7 => vv = .int .i64 (rs.length : Int)
      | 8 => vv = .bool false
      | _ => True) (by kernel_rfl) (by kernel_rfl) (Below.refl _ _).drew ?hmono ⟨?o0, ?o1, ?o2, ?o3, ?o4, ?o5, ?o6, ?o7, ?o8, trivial⟩ ?hend
     case o0 =>
      intro dn a w' _ hS hF K hK
      have h3 := hF.out 3 (by kernel_rfl) rfl
      rw [if_pos (by kernel_rfl)]
      go_simp
      exact hK _ _ _ rfl hS (Below.refl _ _) rfl
     case o1 =>
      intro dn a w' _ hS hF K hK
      have h6 := hF.out 6 (by kernel_rfl) rfl
      rw [if_pos (by kernel_rfl)]
      go_simp
      exact hK _ _ _ rfl hS (Below.refl _ _) rfl
     case o2 =>
      intro dn a w' _ hS hF K hK
      obtain ⟨v69, h69, rfl⟩ := hF.va 0 69
      obtain ⟨v70, h70, rfl⟩ := hF.va 1 70
      rw [if_pos (by kernel_rfl)]
      go_simp
      exact hK _ _ _ rfl hS (Below.refl _ _) rfl
     case o3 =>
      intro dn a w' _ hS hF K hK
      obtain ⟨v71, h71, rfl⟩ := hF.va 2 71
      rw [if_pos (by kernel_rfl)]
      go_simp
      exact hK _ _ _ rfl hS (Below.refl _ _) rfl
     case o4 =>
      intro dn a w' _ hS hF K hK
      obtain ⟨v72, h72, rfl⟩ := hF.va 3 72
      have c2'' := cx hS c2'
      have k1'' := cx hS k1'
      rw [if_pos (by kernel_rfl)]
      go_simp
      exact hK _ _ _ rfl hS (Below.refl _ _) rfl
     case o5 =>
      intro dn a w' _ hS hF K hK
      have h1 := hF.out 1 (by kernel_rfl) rfl
      rw [if_pos (by kernel_rfl)]
      go_simp
      exact hK _ _ _ rfl hS (Below.refl _ _) rfl
     case o6 =>
      intro dn a w' _ hS hF K hK
      obtain ⟨v74, h74, rfl⟩ := hF.va 5 74
      have c2'' := cx hS c2'
      have k1'' := cx hS k1'
      rw [if_pos (by kernel_rfl)]
      go_simp
      exact hK _ _ _ rfl hS (Below.refl _ _) rfl
     case o7 =>
      intro dn a w' _ hS hF K hK
      obtain ⟨v75, h75, rfl⟩ := hF.va 6 75
      rw [if_pos (by kernel_rfl)]
      go_simp
      exact hK _ _ _ rfl hS (Below.refl _ _) rfl
     case o8 =>
      intro dn a w' _ hS hF K hK
      obtain ⟨v73, h73, rfl⟩ := hF.va 4 73
      obtain ⟨v76, h76, rfl⟩ := hF.va 7 76
      rw [if_pos (by kernel_rfl)]
      go_simp
      exact hK _ _ _ rfl hS (Below.refl _ _) rfl
     case hmono =>
      intro i j v w1 w2 _ _ _ _ _ hv _
      exact hv
     case hend =>
      intro dn w6 vs hS hv
      have hvL : vs 8 = .bool false := hv 8 (by decide)
      clear hv
      have HS6 := hid hS
      simp only [putsL, Nat.reduceAdd, Act.put, List.setIfInBounds_toArray, List.set_cons_zero, List.set_cons_succ, hvL]
      have HS56 := hid (HS5.out.trans (HS6.out.mono hz5))
      have hz6 := HS56.out.size
      have k1'' := (HS56.out.cell (p := ⟨b, o + t.h * 3 + 1, none⟩) hlb).trans k1
      have c2'' := (HS56.out.cell (p := ⟨w.heap.size, 2, none⟩) (by dsimp only; omega)).trans c2
      have y0' := (HS56.out.cell (p := ⟨q, oq + n * 3, none⟩) hqB).trans y0
      have y1' := (HS56.out.cell (p := ⟨q, oq + n * 3 + 1, none⟩) hqB).trans y1
      have y2' := (HS56.out.cell (p := ⟨q, oq + n * 3 + 2, none⟩) hqB).trans y2
      go_wp2_with fail
      refine wp_region_invL 10 (fun _ w' => Below w6.heap.size w6 w') (fun _ w' w'' => Below w'.heap.size w' w'') (fun i vv w' => match i with
       | 0 => vv = .pointer (some ⟨w.heap.size, 2, none⟩)
       | 1 => vv = .slice (some ⟨q, oq, none⟩) rs.length rcap
       | 2 => vv = .slice (some ⟨b, o, none⟩) hs.length hcap
       | 3 => vv = .int .i64 (t.h : Int)
       | 4 => vv = .pointer (some ⟨b, o + t.h * 3, none⟩)
       | 5 => vv = .pointer (some ⟨b, o + t.h * 3 + 1, none⟩)
       | 6 => vv = .int .i64 (n : Int)
       | 7 => vv = .pointer (some ⟨q, oq + n * 3, none⟩)
       | 8 => vv = .agg #[.string nm, .slice va vs'.length vcap, .slice ma ms.length mcap]
       | 9 => NewC w6.heap.size vv w'
       | _ => True) (by kernel_rfl) (by kernel_rfl) (by kernel_rfl) (Below.refl _ _).drew ?hmono ⟨?o0, ?o1, ?o2, ?o3, ?o4, ?o5, ?o6, ?o7, ?o8, ?o9, trivial⟩ ?hend
      case o0 =>
       intro dn a w' _ hS hF K hK
       have h1 := hF.out 1 (by kernel_rfl) rfl
       rw [if_pos (by kernel_rfl)]
       go_simp
       exact hK _ _ _ rfl hS (Below.refl _ _) rfl
      case o1 =>
       intro dn a w' _ hS hF K hK
       obtain ⟨v78, h78, rfl⟩ := hF.va 0 78
       have c2''' := cx hS c2''
       have k1''' := cx hS k1''
       have y0'' := cx hS y0'
       have y1'' := cx hS y1'
       have y2'' := cx hS y2'
       rw [if_pos (by kernel_rfl)]
       go_simp
       exact hK _ _ _ rfl hS (Below.refl _ _) rfl
      case o2 =>
       intro dn a w' _ hS hF K hK
       have h3 := hF.out 3 (by kernel_rfl) rfl
       rw [if_pos (by kernel_rfl)]
       go_simp
       exact hK _ _ _ rfl hS (Below.refl _ _) rfl
      case o3 =>
       intro dn a w' _ hS hF K hK
       have h6 := hF.out 6 (by kernel_rfl) rfl
       rw [if_pos (by kernel_rfl)]
       go_simp
       exact hK _ _ _ rfl hS (Below.refl _ _) rfl
      case o4 =>
       intro dn a w' _ hS hF K hK
       obtain ⟨v80, h80, rfl⟩ := hF.va 2 80
       obtain ⟨v81, h81, rfl⟩ := hF.va 3 81
       rw [if_pos (by kernel_rfl)]
       go_simp
       exact hK _ _ _ rfl hS (Below.refl _ _) rfl
      case o5 =>
       intro dn a w' _ hS hF K hK
       obtain ⟨v82, h82, rfl⟩ := hF.va 4 82
       rw [if_pos (by kernel_rfl)]
       go_simp
       exact hK _ _ _ rfl hS (Below.refl _ _) rfl
      case o6 =>
       intro dn a w' _ hS hF K hK
       obtain ⟨v83, h83, rfl⟩ := hF.va 5 83
       have c2''' := cx hS c2''
       have k1''' := cx hS k1''
       have y0'' := cx hS y0'
       have y1'' := cx hS y1'
       have y2'' := cx hS y2'
       rw [if_pos (by kernel_rfl)]
       go_simp
       exact hK _ _ _ rfl hS (Below.refl _ _) rfl
      case o7 =>
       intro dn a w' _ hS hF K hK
       obtain ⟨v79, h79, rfl⟩ := hF.va 1 79
       obtain ⟨v84, h84, rfl⟩ := hF.va 6 84
       rw [if_pos (by kernel_rfl)]
       go_simp
       exact hK _ _ _ rfl hS (Below.refl _ _) rfl
      case o8 =>
       intro dn a w' _ hS hF K hK
       obtain ⟨v85, h85, rfl⟩ := hF.va 7 85
       have c2''' := cx hS c2''
       have k1''' := cx hS k1''
       have y0'' := cx hS y0'
       have y1'' := cx hS y1'
       have y2'' := cx hS y2'
       rw [if_pos (by kernel_rfl)]
       go_simp
       exact hK _ _ _ rfl hS (Below.refl _ _) rfl
      case o9 =>
       intro dn a w' _ hS hF K hK
       rw [if_pos (by kernel_rfl)]
       go_simp
       exact hK _ _ _ rfl (hS.alloc hS.size _) ((Below.refl _ _).alloc (Nat.le_refl _) _) ⟨_, rfl, hS.size, World.alloc_heap_new w' _⟩
      case hmono =>
       intro i j v w1 w2 _ _ hne hwt _ hv hR
       rcases i with _ | _ | _ | _ | _ | _ | _ | _ | _ | _ | i
       all_goals first | exact hv | exact NewC.below hv hR
      case hend =>
       intro dn w7 vs _ hS hv
       have hP8 : vs 8 = .agg #[.string nm, .slice va vs'.length vcap, .slice ma ms.length mcap] := hv 8 (by decide)
       have hP9 : NewC w6.heap.size (vs 9) w7 := hv 9 (by decide)
       clear hv
       simp only [putsL, List.take_succ_cons, List.take_zero, Nat.reduceAdd, Act.put, List.setIfInBounds_toArray, List.set_cons_zero, List.set_cons_succ]
       generalize vs 8 = vC at hP8 ⊢
       generalize vs 9 = vD at hP9 ⊢
       change wpOps _ _ _ [10] _ _
       subst hP8
       obtain ⟨g, rfl, hg, hgb⟩ := hP9
       have g0 : w7.cell? ⟨g, 0, none⟩ = some (.string ⟨#[]⟩) := by simp [World.cell?, hgb]
       have g1 : w7.cell? ⟨g, 1, none⟩ = some (.slice none 0 0) := by simp [World.cell?, hgb]
       have g2 : w7.cell? ⟨g, 2, none⟩ = some (.slice none 0 0) := by simp [World.cell?, hgb]
       have f0 : w7.frozen? ⟨g, 0, none⟩ = false := by simp [World.frozen?, hgb]
       have f1 : w7.frozen? ⟨g, 1, none⟩ = false := by simp [World.frozen?, hgb]
       have f2 : w7.frozen? ⟨g, 2, none⟩ = false := by simp [World.frozen?, hgb]
       refine wpOps_step rfl rfl (fun K hK => ?_)
       go_simp
       refine hK _ _ ?_
       clear hK
       simp only [wpOps]
       obtain ⟨w8, hw8⟩ : ∃ w8, w8 = ((w7.setCell ⟨g, 0, none⟩ (.string nm)).setCell ⟨g, 1, none⟩ (.slice va vs'.length vcap)).setCell ⟨g, 2, none⟩ (.slice ma ms.length mcap) := ⟨_, rfl⟩
       rw [← hw8]
       have hg1 : w8.cell? ⟨g, 1, none⟩ = some (.slice va vs'.length vcap) := by rw [hw8]; go_simp
       have HS8 := hid (show Below w6.heap.size w6 w8 from by rw [hw8]; exact ((hS.setCell (p := ⟨g, 0, none⟩) hg _).setCell (p := ⟨g, 1, none⟩) hg _).setCell (p := ⟨g, 2, none⟩) hg _)
       have HSr := hid (HS56.out.trans (HS8.out.mono hz6))
       have hgw : g < w8.heap.size := by
        have h1 : w8.heap.size = w7.heap.size := by rw [hw8]; simp
        rw [h1]; exact (Array.getElem?_eq_some_iff.1 hgb).1
       have q4 := (HSr.out.cell (p := ⟨b, o + (t.h + 1) * 3 + 1, none⟩) hlb).trans k4
       have q5 := (HSr.out.cell (p := ⟨b, o + (t.h + 2) * 3 + 1, none⟩) hlb).trans k5
       clear hw8 g0 g1 g2 f0 f1 f2 hgb y0' y1' y2' k1'' c2''
       by_cases hvm : m < vs'.length
       case neg =>
        have HR := hid (stood_no htm (show f t = false from by rw [hft, List.getElem?_eq_none (by omega)]))
        have hv1 : vs'.length ≤ m := by omega
        clear hft
        go_wp2_with fail
        refine wp_region_invA (fun _ w' => Below w8.heap.size w8 w') (fun _ w' w'' => Below w'.heap.size w' w'') (fun i vv w' => match i with
         | 0 => vv = .slice (some ⟨b, o, none⟩) hs.length hcap
         | 1 => vv = .int .i64 (t.h : Int)
         | 2 => vv = .int .i64 ((t.h : Int) + 1)
         | 3 => vv = .pointer (some ⟨b, o + (t.h + 1) * 3, none⟩)
         | 4 => vv = .pointer (some ⟨b, o + (t.h + 1) * 3 + 1, none⟩)
         | 5 => vv = .int .i64 (m : Int)
         | 6 => vv = .pointer (some ⟨g, 1, none⟩)
         | 7 => vv = .slice va vs'.length vcap
         | 8 => vv = .int .i64 (vs'.length : Int)
         | 9 => vv = .bool true
         | 10 => vv = .bool true
         | 11 => vv = undef
         | 12 => vv = undef
         | 13 => vv = undef
         | 14 => vv = undef
         | 15 => vv = undef
         | 16 => vv = undef
         | 17 => vv = undef
         | 18 => vv = undef
         | 19 => vv = undef
         | 20 => vv = undef
         | 21 => vv = undef
         | 22 => vv = undef
         | 23 => vv = undef
         | 24 => vv = undef
         | 25 => vv = undef
         | 26 => vv = undef
         | 27 => vv = undef
         | 28 => vv = undef
         | 29 => vv = undef
         | 30 => vv = .bool true
         | _ => True) (by kernel_rfl) (by kernel_rfl) (Below.refl _ _).drew ?hmono ⟨?o0, ?o1, ?o2, ?o3, ?o4, ?o5, ?o6, ?o7, ?o8, ?o9, ?o10, ?o11, ?o12, ?o13, ?o14, ?o15, ?o16, ?o17, ?o18, ?o19, ?o20, ?o21, ?o22, ?o23, ?o24, ?o25, ?o26, ?o27, ?o28, ?o29, ?o30, trivial⟩ ?hend
        case o0 =>
         intro dn a w' _ hS hF K hK
         have h3 := hF.out 3 (by kernel_rfl) rfl
         rw [if_pos (by kernel_rfl)]
         go_simp
         exact hK _ _ _ rfl hS (Below.refl _ _) rfl
        case o1 =>
         intro dn a w' _ hS hF K hK
         have h6 := hF.out 6 (by kernel_rfl) rfl
         rw [if_pos (by kernel_rfl)]
         go_simp
         exact hK _ _ _ rfl hS (Below.refl _ _) rfl
        case o2 =>
         intro dn a w' _ hS hF K hK
         obtain ⟨v88, h88, rfl⟩ := hF.va 1 88
         rw [if_pos (by kernel_rfl)]
         go_simp
         rw [wrap_small (by omega) (by omega)]
         exact hK _ _ _ rfl hS (Below.refl _ _) rfl
        case o3 =>
         intro dn a w' _ hS hF K hK
         obtain ⟨v87, h87, rfl⟩ := hF.va 0 87
         obtain ⟨v89, h89, rfl⟩ := hF.va 2 89
         rw [if_pos (by kernel_rfl)]
         go_simp
         exact hK _ _ _ rfl hS (Below.refl _ _) rfl
        case o4 =>
         intro dn a w' _ hS hF K hK
         obtain ⟨v90, h90, rfl⟩ := hF.va 3 90
         rw [if_pos (by kernel_rfl)]
         go_simp
         exact hK _ _ _ rfl hS (Below.refl _ _) rfl
        case o5 =>
         intro dn a w' _ hS hF K hK
         obtain ⟨v91, h91, rfl⟩ := hF.va 4 91
         have hg1' := cx hS hg1
         have q4' := cx hS q4
         have q5' := cx hS q5
         rw [if_pos (by kernel_rfl)]
         go_simp
         exact hK _ _ _ rfl hS (Below.refl _ _) rfl
        case o6 =>
         intro dn a w' _ hS hF K hK
         have h7 := hF.out 7 (by kernel_rfl) rfl
         rw [if_pos (by kernel_rfl)]
         go_simp
         exact hK _ _ _ rfl hS (Below.refl _ _) rfl
        case o7 =>
         intro dn a w' _ hS hF K hK
         obtain ⟨v93, h93, rfl⟩ := hF.va 6 93
         have hg1' := cx hS hg1
         have q4' := cx hS q4
         have q5' := cx hS q5
         rw [if_pos (by kernel_rfl)]
         go_simp
         exact hK _ _ _ rfl hS (Below.refl _ _) rfl
        case o8 =>
         intro dn a w' _ hS hF K hK
         obtain ⟨v94, h94, rfl⟩ := hF.va 7 94
         rw [if_pos (by kernel_rfl)]
         go_simp
         exact hK _ _ _ rfl hS (Below.refl _ _) rfl
        case o9 =>
         intro dn a w' _ hS hF K hK
         obtain ⟨v92, h92, rfl⟩ := hF.va 5 92
         obtain ⟨v95, h95, rfl⟩ := hF.va 8 95
         rw [if_pos (by kernel_rfl)]
         go_simp
         exact hK _ _ _ rfl hS (Below.refl _ _) rfl
        case o10 =>
         intro dn a w' _ hS hF K hK
         obtain ⟨v96, h96, rfl⟩ := hF.va 9 96
         rw [if_pos (by kernel_rfl)]
         go_simp
         exact hK _ _ _ rfl hS (Below.refl _ _) rfl
        case o11 =>
         intro dn a w' _ hS hF K hK
         obtain ⟨v97, h97, rfl⟩ := hF.va 10 97
         rw [if_neg (by rw [wanted_no 10 rfl (by kernel_rfl) h97]; decide)]
         exact hK _ _ _ rfl hS (Below.refl _ _) rfl
        case o12 =>
         intro dn a w' _ hS hF K hK
         obtain ⟨v97, h97, rfl⟩ := hF.va 10 97
         rw [if_neg (by rw [wanted_no 10 rfl (by kernel_rfl) h97]; decide)]
         exact hK _ _ _ rfl hS (Below.refl _ _) rfl
        case o13 =>
         intro dn a w' _ hS hF K hK
         obtain ⟨v97, h97, rfl⟩ := hF.va 10 97
         rw [if_neg (by rw [wanted_no 10 rfl (by kernel_rfl) h97]; decide)]
         exact hK _ _ _ rfl hS (Below.refl _ _) rfl
        case o14 =>
         intro dn a w' _ hS hF K hK
         obtain ⟨v97, h97, rfl⟩ := hF.va 10 97
         rw [if_neg (by rw [wanted_no 10 rfl (by kernel_rfl) h97]; decide)]
         exact hK _ _ _ rfl hS (Below.refl _ _) rfl
        case o15 =>
         intro dn a w' _ hS hF K hK
         obtain ⟨v97, h97, rfl⟩ := hF.va 10 97
         rw [if_neg (by rw [wanted_no 10 rfl (by kernel_rfl) h97]; decide)]
         exact hK _ _ _ rfl hS (Below.refl _ _) rfl
        case o16 =>
         intro dn a w' _ hS hF K hK
         obtain ⟨v97, h97, rfl⟩ := hF.va 10 97
         rw [if_neg (by rw [wanted_no 10 rfl (by kernel_rfl) h97]; decide)]
         exact hK _ _ _ rfl hS (Below.refl _ _) rfl
        case o17 =>
         intro dn a w' _ hS hF K hK
         obtain ⟨v97, h97, rfl⟩ := hF.va 10 97
         rw [if_neg (by rw [wanted_no 10 rfl (by kernel_rfl) h97]; decide)]
         exact hK _ _ _ rfl hS (Below.refl _ _) rfl
        case o18 =>
         intro dn a w' _ hS hF K hK
         obtain ⟨v97, h97, rfl⟩ := hF.va 10 97
         rw [if_neg (by rw [wanted_no 10 rfl (by kernel_rfl) h97]; decide)]
         exact hK _ _ _ rfl hS (Below.refl _ _) rfl
        case o19 =>
         intro dn a w' _ hS hF K hK
         obtain ⟨v97, h97, rfl⟩ := hF.va 10 97
         rw [if_neg (by rw [wanted_no 10 rfl (by kernel_rfl) h97]; decide)]
         exact hK _ _ _ rfl hS (Below.refl _ _) rfl
        case o20 =>
         intro dn a w' _ hS hF K hK
         obtain ⟨v97, h97, rfl⟩ := hF.va 10 97
         rw [if_neg (by rw [wanted_no 10 rfl (by kernel_rfl) h97]; decide)]
         exact hK _ _ _ rfl hS (Below.refl _ _) rfl
        case o21 =>
         intro dn a w' _ hS hF K hK
         obtain ⟨v97, h97, rfl⟩ := hF.va 10 97
         rw [if_neg (by rw [wanted_no 10 rfl (by kernel_rfl) h97]; decide)]
         exact hK _ _ _ rfl hS (Below.refl _ _) rfl
        case o22 =>
         intro dn a w' _ hS hF K hK
         obtain ⟨v97, h97, rfl⟩ := hF.va 10 97
         rw [if_neg (by rw [wanted_no 10 rfl (by kernel_rfl) h97]; decide)]
         exact hK _ _ _ rfl hS (Below.refl _ _) rfl
        case o23 =>
         intro dn a w' _ hS hF K hK
         obtain ⟨v97, h97, rfl⟩ := hF.va 10 97
         rw [if_neg (by rw [wanted_no 10 rfl (by kernel_rfl) h97]; decide)]
         exact hK _ _ _ rfl hS (Below.refl _ _) rfl
        case o24 =>
         intro dn a w' _ hS hF K hK
         obtain ⟨v97, h97, rfl⟩ := hF.va 10 97
         rw [if_neg (by rw [wanted_no 10 rfl (by kernel_rfl) h97]; decide)]
         exact hK _ _ _ rfl hS (Below.refl _ _) rfl
        case o25 =>
         intro dn a w' _ hS hF K hK
         obtain ⟨v97, h97, rfl⟩ := hF.va 10 97
         rw [if_neg (by rw [wanted_no 10 rfl (by kernel_rfl) h97]; decide)]
         exact hK _ _ _ rfl hS (Below.refl _ _) rfl
        case o26 =>
         intro dn a w' _ hS hF K hK
         obtain ⟨v97, h97, rfl⟩ := hF.va 10 97
         rw [if_neg (by rw [wanted_no 10 rfl (by kernel_rfl) h97]; decide)]
         exact hK _ _ _ rfl hS (Below.refl _ _) rfl
        case o27 =>
         intro dn a w' _ hS hF K hK
         obtain ⟨v97, h97, rfl⟩ := hF.va 10 97
         rw [if_neg (by rw [wanted_no 10 rfl (by kernel_rfl) h97]; decide)]
         exact hK _ _ _ rfl hS (Below.refl _ _) rfl
        case o28 =>
         intro dn a w' _ hS hF K hK
         obtain ⟨v97, h97, rfl⟩ := hF.va 10 97
         rw [if_neg (by rw [wanted_no 10 rfl (by kernel_rfl) h97]; decide)]
         exact hK _ _ _ rfl hS (Below.refl _ _) rfl
        case o29 =>
         intro dn a w' _ hS hF K hK
         obtain ⟨v97, h97, rfl⟩ := hF.va 10 97
         rw [if_neg (by rw [wanted_no 10 rfl (by kernel_rfl) h97]; decide)]
         exact hK _ _ _ rfl hS (Below.refl _ _) rfl
        case o30 =>
         intro dn a w' _ hS hF K hK
         obtain ⟨v97, h97, rfl⟩ := hF.va 10 97
         obtain ⟨v116, h116, rfl⟩ := hF.va 29 116
         rw [if_pos (by kernel_rfl)]
         go_simp
         exact hK _ _ _ rfl hS (Below.refl _ _) rfl
        case hmono =>
         intro i j v w1 w2 _ _ _ _ _ hv _
         exact hv
        case hend =>
         intro dn w9 vs hS hv
         have hvL : vs 30 = .bool true := hv 30 (by decide)
         clear hv
         have HS9 := hid hS
         simp only [putsL, Nat.reduceAdd, Act.put, List.setIfInBounds_toArray, List.set_cons_zero, List.set_cons_succ, hvL]
         go_wp2
         go_ret
         exact ⟨ret_bool HR.out.symm, HBW.out.trans ((HSr.out.trans (HS9.out.mono HSr.out.size)).mono HBW.out.size)⟩
       obtain ⟨q2, o2, rfl, hq2B, _, z1⟩ := sh_at hVs.out hvm
       rw [List.getElem?_eq_getElem hvm] at hft
       dsimp only at hft
       have hsl : (vs'[m]'hvm).fs.length * 16 ≤ 140737488355328 := HBR.out.vs _ (List.getElem_mem hvm)
       generalize (vs'[m]'hvm) = sh at z1 hft hsl
       obtain ⟨sn, sa, scap, sf⟩ := sh
       dsimp only at z1 hft hsl
       have hsl2 : sf.length ≤ 9223372036854775807 := by omega
       have z1' := (HSr.out.cell (p := ⟨q2, o2 + m * 2 + 1, none⟩) hq2B).trans z1
       have hv1 : ¬ vs'.length ≤ m := by omega
       have hv2 : (m : Int) < vs'.length := by omega
       have hv3 : ¬ (vs'.length : Int) ≤ m := by omega
       by_cases hfc : nn = sf.length
       ·
        have HN := hid (HSt.out.step (HU.out t htm) (show f t = true from by rw [hft]; simp [hfc]))
        have hne : ((sf.length : Int) != (nn : Int)) = false := by rw [hfc]; simp
        clear hft hfc
        go_wp2_with fail
        refine wp_region_invA (fun _ w' => Below w8.heap.size w8 w') (fun _ w' w'' => Below w'.heap.size w' w'') (fun i vv w' => match i with
         | 0 => vv = .slice (some ⟨b, o, none⟩) hs.length hcap
         | 1 => vv = .int .i64 (t.h : Int)
         | 2 => vv = .int .i64 ((t.h : Int) + 1)
         | 3 => vv = .pointer (some ⟨b, o + (t.h + 1) * 3, none⟩)
         | 4 => vv = .pointer (some ⟨b, o + (t.h + 1) * 3 + 1, none⟩)
         | 5 => vv = .int .i64 (m : Int)
         | 6 => vv = .pointer (some ⟨g, 1, none⟩)
         | 7 => vv = .slice (some ⟨q2, o2, none⟩) vs'.length vcap
         | 8 => vv = .int .i64 (vs'.length : Int)
         | 9 => vv = .bool false
         | 10 => vv = .bool false
         | 11 => vv = .pointer (some ⟨g, 1, none⟩)
         | 12 => vv = .slice (some ⟨q2, o2, none⟩) vs'.length vcap
         | 13 => vv = .slice (some ⟨b, o, none⟩) hs.length hcap
         | 14 => vv = .int .i64 (t.h : Int)
         | 15 => vv = .int .i64 ((t.h : Int) + 1)
         | 16 => vv = .pointer (some ⟨b, o + (t.h + 1) * 3, none⟩)
         | 17 => vv = .pointer (some ⟨b, o + (t.h + 1) * 3 + 1, none⟩)
         | 18 => vv = .int .i64 (m : Int)
         | 19 => vv = .pointer (some ⟨q2, o2 + m * 2, none⟩)
         | 20 => vv = .pointer (some ⟨q2, o2 + m * 2 + 1, none⟩)
         | 21 => vv = .slice sa sf.length scap
         | 22 => vv = .int .i64 (sf.length : Int)
         | 23 => vv = .slice (some ⟨b, o, none⟩) hs.length hcap
         | 24 => vv = .int .i64 (t.h : Int)
         | 25 => vv = .int .i64 ((t.h : Int) + 2)
         | 26 => vv = .pointer (some ⟨b, o + (t.h + 2) * 3, none⟩)
         | 27 => vv = .pointer (some ⟨b, o + (t.h + 2) * 3 + 1, none⟩)
         | 28 => vv = .int .i64 (nn : Int)
         | 29 => vv = .bool false
         | 30 => vv = .bool false
         | _ => True) (by kernel_rfl) (by kernel_rfl) (Below.refl _ _).drew ?hmono ⟨?o0, ?o1, ?o2, ?o3, ?o4, ?o5, ?o6, ?o7, ?o8, ?o9, ?o10, ?o11, ?o12, ?o13, ?o14, ?o15, ?o16, ?o17, ?o18, ?o19, ?o20, ?o21, ?o22, ?o23, ?o24, ?o25, ?o26, ?o27, ?o28, ?o29, ?o30, trivial⟩ ?hend
        case o0 =>
         intro dn a w' _ hS hF K hK
         have h3 := hF.out 3 (by kernel_rfl) rfl
         rw [if_pos (by kernel_rfl)]
         go_simp
         exact hK _ _ _ rfl hS (Below.refl _ _) rfl
        case o1 =>
         intro dn a w' _ hS hF K hK
         have h6 := hF.out 6 (by kernel_rfl) rfl
         rw [if_pos (by kernel_rfl)]
         go_simp
         exact hK _ _ _ rfl hS (Below.refl _ _) rfl
        case o2 =>
         intro dn a w' _ hS hF K hK
         obtain ⟨v88, h88, rfl⟩ := hF.va 1 88
         rw [if_pos (by kernel_rfl)]
         go_simp
         rw [wrap_small (by omega) (by omega)]
         exact hK _ _ _ rfl hS (Below.refl _ _) rfl
        case o3 =>
         intro dn a w' _ hS hF K hK
         obtain ⟨v87, h87, rfl⟩ := hF.va 0 87
         obtain ⟨v89, h89, rfl⟩ := hF.va 2 89
         rw [if_pos (by kernel_rfl)]
         go_simp
         exact hK _ _ _ rfl hS (Below.refl _ _) rfl
        case o4 =>
         intro dn a w' _ hS hF K hK
         obtain ⟨v90, h90, rfl⟩ := hF.va 3 90
         rw [if_pos (by kernel_rfl)]
         go_simp
         exact hK _ _ _ rfl hS (Below.refl _ _) rfl
        case o5 =>
         intro dn a w' _ hS hF K hK
         obtain ⟨v91, h91, rfl⟩ := hF.va 4 91
         have hg1' := cx hS hg1
         have q4' := cx hS q4
         have q5' := cx hS q5
         have z1'' := cx hS z1'
         rw [if_pos (by kernel_rfl)]
         go_simp
         exact hK _ _ _ rfl hS (Below.refl _ _) rfl
        case o6 =>
         intro dn a w' _ hS hF K hK
         have h7 := hF.out 7 (by kernel_rfl) rfl
         rw [if_pos (by kernel_rfl)]
         go_simp
         exact hK _ _ _ rfl hS (Below.refl _ _) rfl
        case o7 =>
         intro dn a w' _ hS hF K hK
         obtain ⟨v93, h93, rfl⟩ := hF.va 6 93
         have hg1' := cx hS hg1
         have q4' := cx hS q4
         have q5' := cx hS q5
         have z1'' := cx hS z1'
         rw [if_pos (by kernel_rfl)]
         go_simp
         exact hK _ _ _ rfl hS (Below.refl _ _) rfl
        case o8 =>
         intro dn a w' _ hS hF K hK
         obtain ⟨v94, h94, rfl⟩ := hF.va 7 94
         rw [if_pos (by kernel_rfl)]
         go_simp
         exact hK _ _ _ rfl hS (Below.refl _ _) rfl
        case o9 =>
         intro dn a w' _ hS hF K hK
         obtain ⟨v92, h92, rfl⟩ := hF.va 5 92
         obtain ⟨v95, h95, rfl⟩ := hF.va 8 95
         rw [if_pos (by kernel_rfl)]
         go_simp
         exact hK _ _ _ rfl hS (Below.refl _ _) rfl
        case o10 =>
         intro dn a w' _ hS hF K hK
         obtain ⟨v96, h96, rfl⟩ := hF.va 9 96
         rw [if_pos (by kernel_rfl)]
         go_simp
         exact hK _ _ _ rfl hS (Below.refl _ _) rfl
        case o11 =>
         intro dn a w' _ hS hF K hK
         have h7 := hF.out 7 (by kernel_rfl) rfl
         obtain ⟨v97, h97, rfl⟩ := hF.va 10 97
         rw [if_pos (wanted_yes 10 rfl (by kernel_rfl) h97)]
         go_simp
         exact hK _ _ _ rfl hS (Below.refl _ _) rfl
        case o12 =>
         intro dn a w' _ hS hF K hK
         obtain ⟨v98, h98, rfl⟩ := hF.va 11 98
         obtain ⟨v97, h97, rfl⟩ := hF.va 10 97
         have hg1' := cx hS hg1
         have q4' := cx hS q4
         have q5' := cx hS q5
         have z1'' := cx hS z1'
         rw [if_pos (wanted_yes 10 rfl (by kernel_rfl) h97)]
         go_simp
         exact hK _ _ _ rfl hS (Below.refl _ _) rfl
        case o13 =>
         intro dn a w' _ hS hF K hK
         have h3 := hF.out 3 (by kernel_rfl) rfl
         obtain ⟨v97, h97, rfl⟩ := hF.va 10 97
         rw [if_pos (wanted_yes 10 rfl (by kernel_rfl) h97)]
         go_simp
         exact hK _ _ _ rfl hS (Below.refl _ _) rfl
        case o14 =>
         intro dn a w' _ hS hF K hK
         have h6 := hF.out 6 (by kernel_rfl) rfl
         obtain ⟨v97, h97, rfl⟩ := hF.va 10 97
         rw [if_pos (wanted_yes 10 rfl (by kernel_rfl) h97)]
         go_simp
         exact hK _ _ _ rfl hS (Below.refl _ _) rfl
        case o15 =>
         intro dn a w' _ hS hF K hK
         obtain ⟨v101, h101, rfl⟩ := hF.va 14 101
         obtain ⟨v97, h97, rfl⟩ := hF.va 10 97
         rw [if_pos (wanted_yes 10 rfl (by kernel_rfl) h97)]
         go_simp
         rw [wrap_small (by omega) (by omega)]
         exact hK _ _ _ rfl hS (Below.refl _ _) rfl
        case o16 =>
         intro dn a w' _ hS hF K hK
         obtain ⟨v100, h100, rfl⟩ := hF.va 13 100
         obtain ⟨v102, h102, rfl⟩ := hF.va 15 102
         obtain ⟨v97, h97, rfl⟩ := hF.va 10 97
         rw [if_pos (wanted_yes 10 rfl (by kernel_rfl) h97)]
         go_simp
         exact hK _ _ _ rfl hS (Below.refl _ _) rfl
        case o17 =>
         intro dn a w' _ hS hF K hK
         obtain ⟨v103, h103, rfl⟩ := hF.va 16 103
         obtain ⟨v97, h97, rfl⟩ := hF.va 10 97
         rw [if_pos (wanted_yes 10 rfl (by kernel_rfl) h97)]
         go_simp
         exact hK _ _ _ rfl hS (Below.refl _ _) rfl
        case o18 =>
         intro dn a w' _ hS hF K hK
         obtain ⟨v104, h104, rfl⟩ := hF.va 17 104
         obtain ⟨v97, h97, rfl⟩ := hF.va 10 97
         have hg1' := cx hS hg1
         have q4' := cx hS q4
         have q5' := cx hS q5
         have z1'' := cx hS z1'
         rw [if_pos (wanted_yes 10 rfl (by kernel_rfl) h97)]
         go_simp
         exact hK _ _ _ rfl hS (Below.refl _ _) rfl
        case o19 =>
         intro dn a w' _ hS hF K hK
         obtain ⟨v99, h99, rfl⟩ := hF.va 12 99
         obtain ⟨v105, h105, rfl⟩ := hF.va 18 105
         obtain ⟨v97, h97, rfl⟩ := hF.va 10 97
         rw [if_pos (wanted_yes 10 rfl (by kernel_rfl) h97)]
         go_simp
         exact hK _ _ _ rfl hS (Below.refl _ _) rfl
        case o20 =>
         intro dn a w' _ hS hF K hK
         obtain ⟨v106, h106, rfl⟩ := hF.va 19 106
         obtain ⟨v97, h97, rfl⟩ := hF.va 10 97
         rw [if_pos (wanted_yes 10 rfl (by kernel_rfl) h97)]
         go_simp
         exact hK _ _ _ rfl hS (Below.refl _ _) rfl
        case o21 =>
         intro dn a w' _ hS hF K hK
         obtain ⟨v107, h107, rfl⟩ := hF.va 20 107
         obtain ⟨v97, h97, rfl⟩ := hF.va 10 97
         have hg1' := cx hS hg1
         have q4' := cx hS q4
         have q5' := cx hS q5
         have z1'' := cx hS z1'
         rw [if_pos (wanted_yes 10 rfl (by kernel_rfl) h97)]
         go_simp
         exact hK _ _ _ rfl hS (Below.refl _ _) rfl
        case o22 =>
         intro dn a w' _ hS hF K hK
         obtain ⟨v108, h108, rfl⟩ := hF.va 21 108
         obtain ⟨v97, h97, rfl⟩ := hF.va 10 97
         rw [if_pos (wanted_yes 10 rfl (by kernel_rfl) h97)]
         go_simp
         exact hK _ _ _ rfl hS (Below.refl _ _) rfl
        case o23 =>
         intro dn a w' _ hS hF K hK
         have h3 := hF.out 3 (by kernel_rfl) rfl
         obtain ⟨v97, h97, rfl⟩ := hF.va 10 97
         rw [if_pos (wanted_yes 10 rfl (by kernel_rfl) h97)]
         go_simp
         exact hK _ _ _ rfl hS (Below.refl _ _) rfl
        case o24 =>
         intro dn a w' _ hS hF K hK
         have h6 := hF.out 6 (by kernel_rfl) rfl
         obtain ⟨v97, h97, rfl⟩ := hF.va 10 97
         rw [if_pos (wanted_yes 10 rfl (by kernel_rfl) h97)]
         go_simp
         exact hK _ _ _ rfl hS (Below.refl _ _) rfl
        case o25 =>
         intro dn a w' _ hS hF K hK
         obtain ⟨v111, h111, rfl⟩ := hF.va 24 111
         obtain ⟨v97, h97, rfl⟩ := hF.va 10 97
         rw [if_pos (wanted_yes 10 rfl (by kernel_rfl) h97)]
         go_simp
         rw [wrap_small (by omega) (by omega)]
         exact hK _ _ _ rfl hS (Below.refl _ _) rfl
        case o26 =>
         intro dn a w' _ hS hF K hK
         obtain ⟨v110, h110, rfl⟩ := hF.va 23 110
         obtain ⟨v112, h112, rfl⟩ := hF.va 25 112
         obtain ⟨v97, h97, rfl⟩ := hF.va 10 97
         rw [if_pos (wanted_yes 10 rfl (by kernel_rfl) h97)]
         go_simp
         exact hK _ _ _ rfl hS (Below.refl _ _) rfl
        case o27 =>
         intro dn a w' _ hS hF K hK
         obtain ⟨v113, h113, rfl⟩ := hF.va 26 113
         obtain ⟨v97, h97, rfl⟩ := hF.va 10 97
         rw [if_pos (wanted_yes 10 rfl (by kernel_rfl) h97)]
         go_simp
         exact hK _ _ _ rfl hS (Below.refl _ _) rfl
        case o28 =>
         intro dn a w' _ hS hF K hK
         obtain ⟨v114, h114, rfl⟩ := hF.va 27 114
         obtain ⟨v97, h97, rfl⟩ := hF.va 10 97
         have hg1' := cx hS hg1
         have q4' := cx hS q4
         have q5' := cx hS q5
         have z1'' := cx hS z1'
         rw [if_pos (wanted_yes 10 rfl (by kernel_rfl) h97)]
         go_simp
         exact hK _ _ _ rfl hS (Below.refl _ _) rfl
        case o29 =>
         intro dn a w' _ hS hF K hK
         obtain ⟨v109, h109, rfl⟩ := hF.va 22 109
         obtain ⟨v115, h115, rfl⟩ := hF.va 28 115
         obtain ⟨v97, h97, rfl⟩ := hF.va 10 97
         rw [if_pos (wanted_yes 10 rfl (by kernel_rfl) h97)]
         go_simp
         exact hK _ _ _ rfl hS (Below.refl _ _) rfl
        case o30 =>
         intro dn a w' _ hS hF K hK
         obtain ⟨v97, h97, rfl⟩ := hF.va 10 97
         obtain ⟨v116, h116, rfl⟩ := hF.va 29 116
         rw [if_pos (by kernel_rfl)]
         go_simp
         exact hK _ _ _ rfl hS (Below.refl _ _) rfl
        case hmono =>
         intro i j v w1 w2 _ _ _ _ _ hv _
         exact hv
        case hend =>
         intro dn w9 vs hS hv
         have hvL : vs 30 = .bool false := hv 30 (by decide)
         clear hv
         have HS9 := hid hS
         simp only [putsL, Nat.reduceAdd, Act.put, List.setIfInBounds_toArray, List.set_cons_zero, List.set_cons_succ, hvL]
         go_wp2_with fail
         go_roundw
         case rel => exact ⟨t.h + 1, by omega, by go_num, HN.out, HBr.out.trans ((HSr.out.trans (HS9.out.mono HSr.out.size)).mono hzr)⟩
         case measure => simp [intOf]; omega
       ·
        have HR := hid (stood_no htm (show f t = false from by rw [hft]; simp [hfc]))
        have hne : ((sf.length : Int) != (nn : Int)) = true := by simp only [bne_iff_ne, ne_eq]; omega
        clear hft hfc
        go_wp2_with fail
        refine wp_region_invA (fun _ w' => Below w8.heap.size w8 w') (fun _ w' w'' => Below w'.heap.size w' w'') (fun i vv w' => match i with
         | 0 => vv = .slice (some ⟨b, o, none⟩) hs.length hcap
         | 1 => vv = .int .i64 (t.h : Int)
         | 2 => vv = .int .i64 ((t.h : Int) + 1)
         | 3 => vv = .pointer (some ⟨b, o + (t.h + 1) * 3, none⟩)
         | 4 => vv = .pointer (some ⟨b, o + (t.h + 1) * 3 + 1, none⟩)
         | 5 => vv = .int .i64 (m : Int)
         | 6 => vv = .pointer (some ⟨g, 1, none⟩)
         | 7 => vv = .slice (some ⟨q2, o2, none⟩) vs'.length vcap
         | 8 => vv = .int .i64 (vs'.length : Int)
         | 9 => vv = .bool false
         | 10 => vv = .bool false
         | 11 => vv = .pointer (some ⟨g, 1, none⟩)
         | 12 => vv = .slice (some ⟨q2, o2, none⟩) vs'.length vcap
         | 13 => vv = .slice (some ⟨b, o, none⟩) hs.length hcap
         | 14 => vv = .int .i64 (t.h : Int)
         | 15 => vv = .int .i64 ((t.h : Int) + 1)
         | 16 => vv = .pointer (some ⟨b, o + (t.h + 1) * 3, none⟩)
         | 17 => vv = .pointer (some ⟨b, o + (t.h + 1) * 3 + 1, none⟩)
         | 18 => vv = .int .i64 (m : Int)
         | 19 => vv = .pointer (some ⟨q2, o2 + m * 2, none⟩)
         | 20 => vv = .pointer (some ⟨q2, o2 + m * 2 + 1, none⟩)
         | 21 => vv = .slice sa sf.length scap
         | 22 => vv = .int .i64 (sf.length : Int)
         | 23 => vv = .slice (some ⟨b, o, none⟩) hs.length hcap
         | 24 => vv = .int .i64 (t.h : Int)
         | 25 => vv = .int .i64 ((t.h : Int) + 2)
         | 26 => vv = .pointer (some ⟨b, o + (t.h + 2) * 3, none⟩)
         | 27 => vv = .pointer (some ⟨b, o + (t.h + 2) * 3 + 1, none⟩)
         | 28 => vv = .int .i64 (nn : Int)
         | 29 => vv = .bool true
         | 30 => vv = .bool true
         | _ => True) (by kernel_rfl) (by kernel_rfl) (Below.refl _ _).drew ?hmono ⟨?o0, ?o1, ?o2, ?o3, ?o4, ?o5, ?o6, ?o7, ?o8, ?o9, ?o10, ?o11, ?o12, ?o13, ?o14, ?o15, ?o16, ?o17, ?o18, ?o19, ?o20, ?o21, ?o22, ?o23, ?o24, ?o25, ?o26, ?o27, ?o28, ?o29, ?o30, trivial⟩ ?hend
        case o0 =>
         intro dn a w' _ hS hF K hK
         have h3 := hF.out 3 (by kernel_rfl) rfl
         rw [if_pos (by kernel_rfl)]
         go_simp
         exact hK _ _ _ rfl hS (Below.refl _ _) rfl
        case o1 =>
         intro dn a w' _ hS hF K hK
         have h6 := hF.out 6 (by kernel_rfl) rfl
         rw [if_pos (by kernel_rfl)]
         go_simp
         exact hK _ _ _ rfl hS (Below.refl _ _) rfl
        case o2 =>
         intro dn a w' _ hS hF K hK
         obtain ⟨v88, h88, rfl⟩ := hF.va 1 88
         rw [if_pos (by kernel_rfl)]
         go_simp
         rw [wrap_small (by omega) (by omega)]
         exact hK _ _ _ rfl hS (Below.refl _ _) rfl
        case o3 =>
         intro dn a w' _ hS hF K hK
         obtain ⟨v87, h87, rfl⟩ := hF.va 0 87
         obtain ⟨v89, h89, rfl⟩ := hF.va 2 89
         rw [if_pos (by kernel_rfl)]
         go_simp
         exact hK _ _ _ rfl hS (Below.refl _ _) rfl
        case o4 =>
         intro dn a w' _ hS hF K hK
         obtain ⟨v90, h90, rfl⟩ := hF.va 3 90
         rw [if_pos (by kernel_rfl)]
         go_simp
         exact hK _ _ _ rfl hS (Below.refl _ _) rfl
        case o5 =>
         intro dn a w' _ hS hF K hK
         obtain ⟨v91, h91, rfl⟩ := hF.va 4 91
         have hg1' := cx hS hg1
         have q4' := cx hS q4
         have q5' := cx hS q5
         have z1'' := cx hS z1'
         rw [if_pos (by kernel_rfl)]
         go_simp
         exact hK _ _ _ rfl hS (Below.refl _ _) rfl
        case o6 =>
         intro dn a w' _ hS hF K hK
         have h7 := hF.out 7 (by kernel_rfl) rfl
         rw [if_pos (by kernel_rfl)]
         go_simp
         exact hK _ _ _ rfl hS (Below.refl _ _) rfl
        case o7 =>
         intro dn a w' _ hS hF K hK
         obtain ⟨v93, h93, rfl⟩ := hF.va 6 93
         have hg1' := cx hS hg1
         have q4' := cx hS q4
         have q5' := cx hS q5
         have z1'' := cx hS z1'
         rw [if_pos (by kernel_rfl)]
         go_simp
         exact hK _ _ _ rfl hS (Below.refl _ _) rfl
        case o8 =>
         intro dn a w' _ hS hF K hK
         obtain ⟨v94, h94, rfl⟩ := hF.va 7 94
         rw [if_pos (by kernel_rfl)]
         go_simp
         exact hK _ _ _ rfl hS (Below.refl _ _) rfl
        case o9 =>
         intro dn a w' _ hS hF K hK
         obtain ⟨v92, h92, rfl⟩ := hF.va 5 92
         obtain ⟨v95, h95, rfl⟩ := hF.va 8 95
         rw [if_pos (by kernel_rfl)]
         go_simp
         exact hK _ _ _ rfl hS (Below.refl _ _) rfl
        case o10 =>
         intro dn a w' _ hS hF K hK
         obtain ⟨v96, h96, rfl⟩ := hF.va 9 96
         rw [if_pos (by kernel_rfl)]
         go_simp
         exact hK _ _ _ rfl hS (Below.refl _ _) rfl
        case o11 =>
         intro dn a w' _ hS hF K hK
         have h7 := hF.out 7 (by kernel_rfl) rfl
         obtain ⟨v97, h97, rfl⟩ := hF.va 10 97
         rw [if_pos (wanted_yes 10 rfl (by kernel_rfl) h97)]
         go_simp
         exact hK _ _ _ rfl hS (Below.refl _ _) rfl
        case o12 =>
         intro dn a w' _ hS hF K hK
         obtain ⟨v98, h98, rfl⟩ := hF.va 11 98
         obtain ⟨v97, h97, rfl⟩ := hF.va 10 97
         have hg1' := cx hS hg1
         have q4' := cx hS q4
         have q5' := cx hS q5
         have z1'' := cx hS z1'
         rw [if_pos (wanted_yes 10 rfl (by kernel_rfl) h97)]
         go_simp
         exact hK _ _ _ rfl hS (Below.refl _ _) rfl
        case o13 =>
         intro dn a w' _ hS hF K hK
         have h3 := hF.out 3 (by kernel_rfl) rfl
         obtain ⟨v97, h97, rfl⟩ := hF.va 10 97
         rw [if_pos (wanted_yes 10 rfl (by kernel_rfl) h97)]
         go_simp
         exact hK _ _ _ rfl hS (Below.refl _ _) rfl
        case o14 =>
         intro dn a w' _ hS hF K hK
         have h6 := hF.out 6 (by kernel_rfl) rfl
         obtain ⟨v97, h97, rfl⟩ := hF.va 10 97
         rw [if_pos (wanted_yes 10 rfl (by kernel_rfl) h97)]
         go_simp
         exact hK _ _ _ rfl hS (Below.refl _ _) rfl
        case o15 =>
         intro dn a w' _ hS hF K hK
         obtain ⟨v101, h101, rfl⟩ := hF.va 14 101
         obtain ⟨v97, h97, rfl⟩ := hF.va 10 97
         rw [if_pos (wanted_yes 10 rfl (by kernel_rfl) h97)]
         go_simp
         rw [wrap_small (by omega) (by omega)]
         exact hK _ _ _ rfl hS (Below.refl _ _) rfl
        case o16 =>
         intro dn a w' _ hS hF K hK
         obtain ⟨v100, h100, rfl⟩ := hF.va 13 100
         obtain ⟨v102, h102, rfl⟩ := hF.va 15 102
         obtain ⟨v97, h97, rfl⟩ := hF.va 10 97
         rw [if_pos (wanted_yes 10 rfl (by kernel_rfl) h97)]
         go_simp
         exact hK _ _ _ rfl hS (Below.refl _ _) rfl
        case o17 =>
         intro dn a w' _ hS hF K hK
         obtain ⟨v103, h103, rfl⟩ := hF.va 16 103
         obtain ⟨v97, h97, rfl⟩ := hF.va 10 97
         rw [if_pos (wanted_yes 10 rfl (by kernel_rfl) h97)]
         go_simp
         exact hK _ _ _ rfl hS (Below.refl _ _) rfl
        case o18 =>
         intro dn a w' _ hS hF K hK
         obtain ⟨v104, h104, rfl⟩ := hF.va 17 104
         obtain ⟨v97, h97, rfl⟩ := hF.va 10 97
         have hg1' := cx hS hg1
         have q4' := cx hS q4
         have q5' := cx hS q5
         have z1'' := cx hS z1'
         rw [if_pos (wanted_yes 10 rfl (by kernel_rfl) h97)]
         go_simp
         exact hK _ _ _ rfl hS (Below.refl _ _) rfl
        case o19 =>
         intro dn a w' _ hS hF K hK
         obtain ⟨v99, h99, rfl⟩ := hF.va 12 99
         obtain ⟨v105, h105, rfl⟩ := hF.va 18 105
         obtain ⟨v97, h97, rfl⟩ := hF.va 10 97
         rw [if_pos (wanted_yes 10 rfl (by kernel_rfl) h97)]
         go_simp
         exact hK _ _ _ rfl hS (Below.refl _ _) rfl
        case o20 =>
         intro dn a w' _ hS hF K hK
         obtain ⟨v106, h106, rfl⟩ := hF.va 19 106
         obtain ⟨v97, h97, rfl⟩ := hF.va 10 97
         rw [if_pos (wanted_yes 10 rfl (by kernel_rfl) h97)]
         go_simp
         exact hK _ _ _ rfl hS (Below.refl _ _) rfl
        case o21 =>
         intro dn a w' _ hS hF K hK
         obtain ⟨v107, h107, rfl⟩ := hF.va 20 107
         obtain ⟨v97, h97, rfl⟩ := hF.va 10 97
         have hg1' := cx hS hg1
         have q4' := cx hS q4
         have q5' := cx hS q5
         have z1'' := cx hS z1'
         rw [if_pos (wanted_yes 10 rfl (by kernel_rfl) h97)]
         go_simp
         exact hK _ _ _ rfl hS (Below.refl _ _) rfl
        case o22 =>
         intro dn a w' _ hS hF K hK
         obtain ⟨v108, h108, rfl⟩ := hF.va 21 108
         obtain ⟨v97, h97, rfl⟩ := hF.va 10 97
         rw [if_pos (wanted_yes 10 rfl (by kernel_rfl) h97)]
         go_simp
         exact hK _ _ _ rfl hS (Below.refl _ _) rfl
        case o23 =>
         intro dn a w' _ hS hF K hK
         have h3 := hF.out 3 (by kernel_rfl) rfl
         obtain ⟨v97, h97, rfl⟩ := hF.va 10 97
         rw [if_pos (wanted_yes 10 rfl (by kernel_rfl) h97)]
         go_simp
         exact hK _ _ _ rfl hS (Below.refl _ _) rfl
        case o24 =>
         intro dn a w' _ hS hF K hK
         have h6 := hF.out 6 (by kernel_rfl) rfl
         obtain ⟨v97, h97, rfl⟩ := hF.va 10 97
         rw [if_pos (wanted_yes 10 rfl (by kernel_rfl) h97)]
         go_simp
         exact hK _ _ _ rfl hS (Below.refl _ _) rfl
        case o25 =>
         intro dn a w' _ hS hF K hK
         obtain ⟨v111, h111, rfl⟩ := hF.va 24 111
         obtain ⟨v97, h97, rfl⟩ := hF.va 10 97
         rw [if_pos (wanted_yes 10 rfl (by kernel_rfl) h97)]
         go_simp
         rw [wrap_small (by omega) (by omega)]
         exact hK _ _ _ rfl hS (Below.refl _ _) rfl
        case o26 =>
         intro dn a w' _ hS hF K hK
         obtain ⟨v110, h110, rfl⟩ := hF.va 23 110
         obtain ⟨v112, h112, rfl⟩ := hF.va 25 112
         obtain ⟨v97, h97, rfl⟩ := hF.va 10 97
         rw [if_pos (wanted_yes 10 rfl (by kernel_rfl) h97)]
         go_simp
         exact hK _ _ _ rfl hS (Below.refl _ _) rfl
        case o27 =>
         intro dn a w' _ hS hF K hK
         obtain ⟨v113, h113, rfl⟩ := hF.va 26 113
         obtain ⟨v97, h97, rfl⟩ := hF.va 10 97
         rw [if_pos (wanted_yes 10 rfl (by kernel_rfl) h97)]
         go_simp
         exact hK _ _ _ rfl hS (Below.refl _ _) rfl
        case o28 =>
         intro dn a w' _ hS hF K hK
         obtain ⟨v114, h114, rfl⟩ := hF.va 27 114
         obtain ⟨v97, h97, rfl⟩ := hF.va 10 97
         have hg1' := cx hS hg1
         have q4' := cx hS q4
         have q5' := cx hS q5
         have z1'' := cx hS z1'
         rw [if_pos (wanted_yes 10 rfl (by kernel_rfl) h97)]
         go_simp
         exact hK _ _ _ rfl hS (Below.refl _ _) rfl
        case o29 =>
         intro dn a w' _ hS hF K hK
         obtain ⟨v109, h109, rfl⟩ := hF.va 22 109
         obtain ⟨v115, h115, rfl⟩ := hF.va 28 115
         obtain ⟨v97, h97, rfl⟩ := hF.va 10 97
         rw [if_pos (wanted_yes 10 rfl (by kernel_rfl) h97)]
         go_simp
         exact hK _ _ _ rfl hS (Below.refl _ _) rfl
        case o30 =>
         intro dn a w' _ hS hF K hK
         obtain ⟨v97, h97, rfl⟩ := hF.va 10 97
         obtain ⟨v116, h116, rfl⟩ := hF.va 29 116
         rw [if_pos (by kernel_rfl)]
         go_simp
         exact hK _ _ _ rfl hS (Below.refl _ _) rfl
        case hmono =>
         intro i j v w1 w2 _ _ _ _ _ hv _
         exact hv
        case hend =>
         intro dn w9 vs hS hv
         have hvL : vs 30 = .bool true := hv 30 (by decide)
         clear hv
         have HS9 := hid hS
         simp only [putsL, Nat.reduceAdd, Act.put, List.setIfInBounds_toArray, List.set_cons_zero, List.set_cons_succ, hvL]
         go_wp2
         go_ret
         exact ⟨ret_bool HR.out.symm, HBW.out.trans ((HSr.out.trans (HS9.out.mono HSr.out.size)).mono HBW.out.size)⟩
   have HN := hid (HSt.out.step (HU.out t htm) (show f t = true from by rw [HF.out]; unfold standB; rw [hK, if_neg h8, if_neg h9]))
   clear hK hti k1
   generalize (hs[t.h]'hlt).k = kd at k0 h8 h9
   have e8 : (kd == 8) = false := by simp [h8]
   have e9 : (kd == 9) = false := by simp [h9]
   clear h8 h9
   go_wp2_with fail
   refine wp_region_invA (fun _ w' => Below wr.heap.size wr w') (fun _ w' w'' => Below w'.heap.size w' w'') (fun i vv w' => match i with
    | 0 => vv = .slice (some ⟨b, o, none⟩) hs.length hcap
    | 1 => vv = .int .i64 (t.h : Int)
    | 2 => vv = .pointer (some ⟨b, o + t.h * 3, none⟩)
    | 3 => vv = .pointer (some ⟨b, o + t.h * 3, none⟩)
    | 4 => vv = .int .i64 kd
    | 5 => vv = .bool false
    | 6 => vv = .bool false
    | 7 => vv = undef
    | 8 => vv = undef
    | 9 => vv = undef
    | 10 => vv = undef
    | 11 => vv = undef
    | 12 => vv = undef
    | 13 => vv = undef
    | 14 => vv = undef
    | 15 => vv = undef
    | 16 => vv = undef
    | 17 => vv = undef
    | 18 => vv = undef
    | 19 => vv = undef
    | 20 => vv = undef
    | 21 => vv = undef
    | 22 => vv = undef
    | 23 => vv = undef
    | 24 => vv = undef
    | 25 => vv = undef
    | 26 => vv = undef
    | 27 => vv = undef
    | 28 => vv = undef
    | 29 => vv = undef
    | 30 => vv = undef
    | 31 => vv = undef
    | 32 => vv = undef
    | 33 => vv = undef
    | 34 => vv = undef
    | 35 => vv = .bool false
    | _ => True) (by kernel_rfl) (by kernel_rfl) (Below.refl _ _).drew ?hmono ⟨?o0, ?o1, ?o2, ?o3, ?o4, ?o5, ?o6, ?o7, ?o8, ?o9, ?o10, ?o11, ?o12, ?o13, ?o14, ?o15, ?o16, ?o17, ?o18, ?o19, ?o20, ?o21, ?o22, ?o23, ?o24, ?o25, ?o26, ?o27, ?o28, ?o29, ?o30, ?o31, ?o32, ?o33, ?o34, ?o35, trivial⟩ ?hend
   case o0 =>
    intro dn a w' _ hS hF K hK
    have h3 := hF.out 3 (by kernel_rfl) rfl
    rw [if_pos (by kernel_rfl)]
    go_simp
    exact hK _ _ _ rfl hS (Below.refl _ _) rfl
   case o1 =>
    intro dn a w' _ hS hF K hK
    have h6 := hF.out 6 (by kernel_rfl) rfl
    rw [if_pos (by kernel_rfl)]
    go_simp
    exact hK _ _ _ rfl hS (Below.refl _ _) rfl
   case o2 =>
    intro dn a w' _ hS hF K hK
    obtain ⟨v27, h27, rfl⟩ := hF.va 0 27
    obtain ⟨v28, h28, rfl⟩ := hF.va 1 28
    rw [if_pos (by kernel_rfl)]
    go_simp
    exact hK _ _ _ rfl hS (Below.refl _ _) rfl
   case o3 =>
    intro dn a w' _ hS hF K hK
    obtain ⟨v29, h29, rfl⟩ := hF.va 2 29
    rw [if_pos (by kernel_rfl)]
    go_simp
    exact hK _ _ _ rfl hS (Below.refl _ _) rfl
   case o4 =>
    intro dn a w' _ hS hF K hK
    obtain ⟨v30, h30, rfl⟩ := hF.va 3 30
    have c0' := cx hS c0
    have c2' := cx hS c2
    have k0' := cx hS k0
    rw [if_pos (by kernel_rfl)]
    go_simp
    exact hK _ _ _ rfl hS (Below.refl _ _) rfl
   case o5 =>
    intro dn a w' _ hS hF K hK
    obtain ⟨v31, h31, rfl⟩ := hF.va 4 31
    rw [if_pos (by kernel_rfl)]
    go_simp
    exact hK _ _ _ rfl hS (Below.refl _ _) rfl
   case o6 =>
    intro dn a w' _ hS hF K hK
    obtain ⟨v32, h32, rfl⟩ := hF.va 5 32
    rw [if_pos (by kernel_rfl)]
    go_simp
    exact hK _ _ _ rfl hS (Below.refl _ _) rfl
   case o7 =>
    intro dn a w' _ hS hF K hK
    obtain ⟨v33, h33, rfl⟩ := hF.va 6 33
    rw [if_neg (by rw [wanted_no 6 rfl (by kernel_rfl) h33]; decide)]
    exact hK _ _ _ rfl hS (Below.refl _ _) rfl
   case o8 =>
    intro dn a w' _ hS hF K hK
    obtain ⟨v33, h33, rfl⟩ := hF.va 6 33
    rw [if_neg (by rw [wanted_no 6 rfl (by kernel_rfl) h33]; decide)]
    exact hK _ _ _ rfl hS (Below.refl _ _) rfl
   case o9 =>
    intro dn a w' _ hS hF K hK
    obtain ⟨v33, h33, rfl⟩ := hF.va 6 33
    rw [if_neg (by rw [wanted_no 6 rfl (by kernel_rfl) h33]; decide)]
    exact hK _ _ _ rfl hS (Below.refl _ _) rfl
   case o10 =>
    intro dn a w' _ hS hF K hK
    obtain ⟨v33, h33, rfl⟩ := hF.va 6 33
    rw [if_neg (by rw [wanted_no 6 rfl (by kernel_rfl) h33]; decide)]
    exact hK _ _ _ rfl hS (Below.refl _ _) rfl
   case o11 =>
    intro dn a w' _ hS hF K hK
    obtain ⟨v33, h33, rfl⟩ := hF.va 6 33
    rw [if_neg (by rw [wanted_no 6 rfl (by kernel_rfl) h33]; decide)]
    exact hK _ _ _ rfl hS (Below.refl _ _) rfl
   case o12 =>
    intro dn a w' _ hS hF K hK
    obtain ⟨v33, h33, rfl⟩ := hF.va 6 33
    rw [if_neg (by rw [wanted_no 6 rfl (by kernel_rfl) h33]; decide)]
    exact hK _ _ _ rfl hS (Below.refl _ _) rfl
   case o13 =>
    intro dn a w' _ hS hF K hK
    obtain ⟨v33, h33, rfl⟩ := hF.va 6 33
    rw [if_neg (by rw [wanted_no 6 rfl (by kernel_rfl) h33]; decide)]
    exact hK _ _ _ rfl hS (Below.refl _ _) rfl
   case o14 =>
    intro dn a w' _ hS hF K hK
    obtain ⟨v33, h33, rfl⟩ := hF.va 6 33
    rw [if_neg (by rw [wanted_no 6 rfl (by kernel_rfl) h33]; decide)]
    exact hK _ _ _ rfl hS (Below.refl _ _) rfl
   case o15 =>
    intro dn a w' _ hS hF K hK
    obtain ⟨v33, h33, rfl⟩ := hF.va 6 33
    rw [if_neg (by rw [wanted_no 6 rfl (by kernel_rfl) h33]; decide)]
    exact hK _ _ _ rfl hS (Below.refl _ _) rfl
   case o16 =>
    intro dn a w' _ hS hF K hK
    obtain ⟨v33, h33, rfl⟩ := hF.va 6 33
    rw [if_neg (by rw [wanted_no 6 rfl (by kernel_rfl) h33]; decide)]
    exact hK _ _ _ rfl hS (Below.refl _ _) rfl
   case o17 =>
    intro dn a w' _ hS hF K hK
    obtain ⟨v43, h43, rfl⟩ := hF.va 16 43
    rw [if_neg (by rw [wanted_undef 16 rfl (by kernel_rfl) h43]; decide)]
    exact hK _ _ _ rfl hS (Below.refl _ _) rfl
   case o18 =>
    intro dn a w' _ hS hF K hK
    obtain ⟨v43, h43, rfl⟩ := hF.va 16 43
    rw [if_neg (by rw [wanted_undef 16 rfl (by kernel_rfl) h43]; decide)]
    exact hK _ _ _ rfl hS (Below.refl _ _) rfl
   case o19 =>
    intro dn a w' _ hS hF K hK
    obtain ⟨v43, h43, rfl⟩ := hF.va 16 43
    rw [if_neg (by rw [wanted_undef 16 rfl (by kernel_rfl) h43]; decide)]
    exact hK _ _ _ rfl hS (Below.refl _ _) rfl
   case o20 =>
    intro dn a w' _ hS hF K hK
    obtain ⟨v43, h43, rfl⟩ := hF.va 16 43
    rw [if_neg (by rw [wanted_undef 16 rfl (by kernel_rfl) h43]; decide)]
    exact hK _ _ _ rfl hS (Below.refl _ _) rfl
   case o21 =>
    intro dn a w' _ hS hF K hK
    obtain ⟨v43, h43, rfl⟩ := hF.va 16 43
    rw [if_neg (by rw [wanted_undef 16 rfl (by kernel_rfl) h43]; decide)]
    exact hK _ _ _ rfl hS (Below.refl _ _) rfl
   case o22 =>
    intro dn a w' _ hS hF K hK
    obtain ⟨v43, h43, rfl⟩ := hF.va 16 43
    rw [if_neg (by rw [wanted_undef 16 rfl (by kernel_rfl) h43]; decide)]
    exact hK _ _ _ rfl hS (Below.refl _ _) rfl
   case o23 =>
    intro dn a w' _ hS hF K hK
    obtain ⟨v43, h43, rfl⟩ := hF.va 16 43
    rw [if_neg (by rw [wanted_undef 16 rfl (by kernel_rfl) h43]; decide)]
    exact hK _ _ _ rfl hS (Below.refl _ _) rfl
   case o24 =>
    intro dn a w' _ hS hF K hK
    obtain ⟨v43, h43, rfl⟩ := hF.va 16 43
    rw [if_neg (by rw [wanted_undef 16 rfl (by kernel_rfl) h43]; decide)]
    exact hK _ _ _ rfl hS (Below.refl _ _) rfl
   case o25 =>
    intro dn a w' _ hS hF K hK
    obtain ⟨v43, h43, rfl⟩ := hF.va 16 43
    rw [if_neg (by rw [wanted_undef 16 rfl (by kernel_rfl) h43]; decide)]
    exact hK _ _ _ rfl hS (Below.refl _ _) rfl
   case o26 =>
    intro dn a w' _ hS hF K hK
    obtain ⟨v43, h43, rfl⟩ := hF.va 16 43
    rw [if_neg (by rw [wanted_undef 16 rfl (by kernel_rfl) h43]; decide)]
    exact hK _ _ _ rfl hS (Below.refl _ _) rfl
   case o27 =>
    intro dn a w' _ hS hF K hK
    obtain ⟨v43, h43, rfl⟩ := hF.va 16 43
    rw [if_neg (by rw [wanted_undef 16 rfl (by kernel_rfl) h43]; decide)]
    exact hK _ _ _ rfl hS (Below.refl _ _) rfl
   case o28 =>
    intro dn a w' _ hS hF K hK
    obtain ⟨v43, h43, rfl⟩ := hF.va 16 43
    rw [if_neg (by rw [wanted_undef 16 rfl (by kernel_rfl) h43]; decide)]
    exact hK _ _ _ rfl hS (Below.refl _ _) rfl
   case o29 =>
    intro dn a w' _ hS hF K hK
    obtain ⟨v43, h43, rfl⟩ := hF.va 16 43
    rw [if_neg (by rw [wanted_undef 16 rfl (by kernel_rfl) h43]; decide)]
    exact hK _ _ _ rfl hS (Below.refl _ _) rfl
   case o30 =>
    intro dn a w' _ hS hF K hK
    obtain ⟨v43, h43, rfl⟩ := hF.va 16 43
    rw [if_neg (by rw [wanted_undef 16 rfl (by kernel_rfl) h43]; decide)]
    exact hK _ _ _ rfl hS (Below.refl _ _) rfl
   case o31 =>
    intro dn a w' _ hS hF K hK
    obtain ⟨v43, h43, rfl⟩ := hF.va 16 43
    rw [if_neg (by rw [wanted_undef 16 rfl (by kernel_rfl) h43]; decide)]
    exact hK _ _ _ rfl hS (Below.refl _ _) rfl
   case o32 =>
    intro dn a w' _ hS hF K hK
    obtain ⟨v43, h43, rfl⟩ := hF.va 16 43
    rw [if_neg (by rw [wanted_undef 16 rfl (by kernel_rfl) h43]; decide)]
    exact hK _ _ _ rfl hS (Below.refl _ _) rfl
   case o33 =>
    intro dn a w' _ hS hF K hK
    obtain ⟨v43, h43, rfl⟩ := hF.va 16 43
    rw [if_neg (by rw [wanted_undef 16 rfl (by kernel_rfl) h43]; decide)]
    exact hK _ _ _ rfl hS (Below.refl _ _) rfl
   case o34 =>
    intro dn a w' _ hS hF K hK
    obtain ⟨v33, h33, rfl⟩ := hF.va 6 33
    rw [if_neg (by rw [wanted_no 6 rfl (by kernel_rfl) h33]; decide)]
    exact hK _ _ _ rfl hS (Below.refl _ _) rfl
   case o35 =>
    intro dn a w' _ hS hF K hK
    obtain ⟨v33, h33, rfl⟩ := hF.va 6 33
    obtain ⟨v61, h61, rfl⟩ := hF.va 34 61
    rw [if_pos (by kernel_rfl)]
    go_simp
    exact hK _ _ _ rfl hS (Below.refl _ _) rfl
   case hmono =>
    intro i j v w1 w2 _ _ _ _ _ hv _
    exact hv
   case hend =>
    intro dn w5 vs hS hv
    have hvL : vs 35 = .bool false := hv 35 (by decide)
    clear hv
    have HS5 := hid hS
    simp only [putsL, Nat.reduceAdd, Act.put, List.setIfInBounds_toArray, List.set_cons_zero, List.set_cons_succ, hvL]
    have k0 := (HS5.out.cell (p := ⟨b, o + t.h * 3, none⟩) hlb).trans k0
    go_wp2_with fail
    go_roundw
    case rel => exact ⟨t.h + 1, by omega, by go_num, HN.out, HBr.out.trans (HS5.out.mono hzr)⟩
    case measure => simp [intOf]; omega
/-- Closures and records on the heap, as the document has them. -/
theorem thingsMay_any (x : Wv) (lim : Int) (th : List Th) (w : World) (hS : subW w (fun b => b < w.heap.size) x) (hb : bigW x) (hl : x.hs.length ≤ 60000) (hc : ChainR x.hs th x.hs.length) (ht : ∀ t, t ∈ th → ThingIs x.hs t.h t.f t.e) :
  Calls Tryz.prog 19 #[.agg #[.slice x.fa x.fs.length x.fcap, .slice x.ga x.gs.length x.gcap, .slice x.ra x.rs.length x.rcap, .slice x.ha x.hs.length x.hcap, .int .i64 lim]] w fun e w' => e = .returned (.bool (th.all (standB x x.hs))) ∧ Below w.heap.size w w' := by
 obtain ⟨fa, fcap, fs, ga, gcap, gs, ra, rcap, rs, ha, hcap, hs⟩ := x
 exact thingsMay_aux fa ga ra ha fcap gcap rcap hcap fs gs rs hs lim th w hS hb hl hc ht
end Go.Proofs.YtldmanfgmadbfaaGreatDoor
