/- The document's HeapMay: P3.3. -/
import Derived.Test.YtfjfobpdlmdddaaHMay
import Derived.Test.YtfjfobpdlmdddaaHMoved
namespace Go.Proofs.Ytfjfobpdlmdddaa
set_option maxRecDepth 100000
open Go.RowKit
def okM (n : Nat) (l : List Wd) (acc : List Th) (h : Nat) (x : Int) : Bool := refB n acc x && (decide (kindAt l x = 9) || (decide (kindAt l x = 10) && decide ((h : Int) < x)))
def okV (n : Nat) (acc : List Th) (x : Wd) : Bool := wmB x.k x.n x.s && (decide (¬ x.k = 5) || refB n acc x.n)
def okT (n : Nat) (l : List Wd) (acc : List Th) (t : Th) : Bool := if kindAt l t.h = 10 then okM n l acc t.h (nInt l t.h) else (sub l t.f t.e).all (okV n acc)
def OkR (lim : Int) (l : List Wd) : Prop := 50 ≤ lim ∧ lim ≤ 60000 ∧ (l.length : Int) ≤ lim ∧ ∃ acc, ChainR l acc l.length ∧ ∀ t, t ∈ acc → okT l.length l acc t = true
def BadR (lim : Int) (l : List Wd) : Prop := ¬ (50 ≤ lim ∧ lim ≤ 60000 ∧ (l.length : Int) ≤ lim) ∨ (∃ acc i, ChainR l acc i ∧ i < l.length ∧ tRef l i = none) ∨ (∃ acc, ChainR l acc l.length ∧ ∃ t, t ∈ acc ∧ okT l.length l acc t = false)
theorem ChainR.mem {l : List Wd} {acc : List Th} {a : Nat} (h : ChainR l acc a) : ∀ t, t ∈ acc → t.h < l.length ∧ tRef l t.h = some (t.f, t.e) := by
  induction h with
  | nil => intro t ht; cases ht
  | snoc h1 h2 h3 ih =>
    intro t ht
    rcases List.mem_append.1 ht with h | h
    · exact ih t h
    · simp at h; subst h; exact ⟨h2, h3⟩
set_option maxRecDepth 100000 in
set_option maxHeartbeats 8000000 in
theorem HeapMay_any (w : World) (B : Nat) (a : Option Addr) (len cap : Nat) (l : List Wd) (lim : Int) (hW : Wds w B a l) (hB : B ≤ w.heap.size) (hlen : len = l.length) (hl : len ≤ 9223372036854775807) :
    Calls Try.prog 28 #[.agg #[.slice a len cap, .int .i64 lim]] w fun e w' => Below w.heap.size w w' ∧ ((e = .returned (.bool true) ∧ OkR lim l) ∨ (e = .returned (.bool false) ∧ BadR lim l)) := by
  have hL := hid hlen
  clear hlen
  have hb0 := hid ((Below.refl w.heap.size w).alloc (Nat.le_refl _) (.cells #[.slice a len cap, .int .i64 lim] 24))
  have HIn := hid (In_any lim 50 60000)
  by_cases hlims : 50 ≤ lim ∧ lim ≤ 60000 ∧ (len : Int) ≤ lim
  · obtain ⟨h1, h2, h3⟩ := hlims
    have hin : inB lim 50 60000 = true := by simp [inB, h1, h2]
    have n3 : ¬ lim < len := by omega
    have hlen6 : len ≤ 60000 := by omega
    go_enter Try.func28, Try.ntmps28
    go_wp2_with (go_at_call 42; refine (HIn.out _).mono ?_; rw [hin]; rintro e w' ⟨rfl, rfl⟩)
    have hcall := beginsOf_any (w.alloc (.cells #[.slice a len cap, .int .i64 lim] 24)) B a len cap l (hW.below (hb0.out.mono hB)) (by simp; omega) hL.out hlen6
    rw [World.size_alloc] at hcall
    go_fit hcall
    clear hcall
    rintro e w1 ⟨hb1, ⟨rfl, acc, hch, hbeg, hgl⟩ | ⟨rfl, acc, i, hch, hi, hno⟩⟩
    · have e0 := (hb1.cell (p := ⟨w.heap.size, 0, none⟩) (show w.heap.size < w.heap.size + 1 by omega)).trans (show _ = some (Value.slice a len cap) by go_simp)
      have hB1 := hid (hb0.out.trans (hb1.mono (by omega)))
      have hW1 := hid (hW.below (hB1.out.mono hB))
      have HCh := hid hch
      have HBeg := hid hbeg
      have hz1 : w.heap.size + 1 < w1.heap.size := hgl
      clear hb1 hch hbeg hgl HIn hin
      go_wp2_with fail
      go_loopw [5] (fun i wr => ∃ k : Nat, k ≤ len ∧ i = .int .i64 k ∧ (∀ t, t ∈ acc → t.h < k → okT l.length l acc t = true) ∧ Below w1.heap.size w1 wr) (fun i _ => len - (intOf i).toNat)
      case atStart => exact ⟨0, Nat.zero_le _, rfl, fun t _ h => absurd h (by omega), Below.refl _ _⟩
      case round =>
        obtain ⟨k, hk, rfl, hall, hbr⟩ := hrel
        have HA := hid hall
        have HBr := hid hbr
        clear hall
        have f0 := (hbr.cell (p := ⟨w.heap.size, 0, none⟩) (show w.heap.size < w1.heap.size by omega)).trans e0
        have hszr := hbr.size
        by_cases hlt : k < len
        · have hlt2 : (k : Int) < len := by omega
          have hk2 : k < l.length := by rw [← hL.out]; exact hlt
          have HWr := hid (hW1.out.below (hbr.mono (by omega)))
          have HBe := hid (HBeg.out.below hbr hz1)
          obtain ⟨g0, _⟩ := HBe.out k hlt
          obtain ⟨bb, o, rfl, hbb, c0, c1, c2⟩ := HWr.out k hk2
          have hbl : bb < wr.heap.size := by omega
          cases hany : acc.any fun t => t.h == k
          · rw [hany] at g0
            have HS := hid (show ∀ t, t ∈ acc → t.h < k + 1 → okT l.length l acc t = true from fun t ht h => HA.out t ht (by
              rcases Nat.lt_or_ge t.h k with h' | h'
              · exact h'
              · have : acc.any (fun t => t.h == k) = true := List.any_eq_true.2 ⟨t, ht, by simp; omega⟩
                rw [hany] at this; cases this))
            clear hany
            go_wp2_with fail
            go_roundw
            case rel => exact ⟨k + 1, by omega, by go_num, HS.out, HBr.out⟩
            case measure => simp [intOf]; omega
          · rw [hany] at g0
            obtain ⟨t, ht, htk⟩ := List.any_eq_true.1 hany
            have htk2 : t.h = k := by simpa using htk
            have htr := (HCh.out.mem t ht).2
            rw [htk2] at htr
            obtain ⟨th, tf, te⟩ := t
            dsimp only at htk2 htr
            subst htk2
            have HTr := hid htr
            have hle := tRef_le htr
            rw [← hL.out] at hle
            have HS0 := hid (show okT l.length l acc ⟨th, tf, te⟩ = true → ∀ t, t ∈ acc → t.h < th + 1 → okT l.length l acc t = true from fun hok t ht' h => by
              rcases Nat.lt_or_ge t.h th with h' | h'
              · exact HA.out t ht' h'
              · have e1 : t.h = th := by omega
                have e2 := (HCh.out.mem t ht').2
                rw [e1, HTr.out] at e2
                obtain ⟨t1, t2, t3⟩ := t
                simp at e1 e2
                rw [e1, ← e2.1, ← e2.2]; exact hok)
            have HX0 := hid (show okT l.length l acc ⟨th, tf, te⟩ = false → BadR lim l from fun h => Or.inr (Or.inr ⟨acc, HCh.out, _, ht, h⟩))
            clear hany htk htr ht
            have HK := hid (kindAt_nat hk2)
            have HN := hid (show nInt l th = l[th].n by unfold nInt; rw [List.getElem?_eq_getElem hk2])
            generalize l[th].k = kk at c0 HK
            generalize l[th].n = nn at c1 HN
            generalize l[th].s = ss at c2
            have hbw := (Below.refl wr.heap.size wr).alloc (Nat.le_refl _) (.cells #[.int .i64 kk, .int .i64 nn, .string ss] 37)
            have hwl : w.heap.size < wr.heap.size := by omega
            by_cases h10 : kk = 10
            · subst h10
              have HO := hid (show okT l.length l acc ⟨th, tf, te⟩ = okM l.length l acc th nn by unfold okT; dsimp only; rw [if_pos HK.out, HN.out])
              have hcall := hid (refersTo_any _ (w.heap.size + 1) len acc nn (HBe.out.below hbw (by omega)) hlen6)
              cases hr : refB len acc nn
              · rw [hr] at hcall
                have HX := hid (HX0.out (by rw [HO.out]; unfold okM; rw [← hL.out, hr]; rfl))
                go_wp2_with (go_at_call 44; refine hcall.out.mono ?_; rintro e w' ⟨rfl, rfl⟩)
                go_ret
                exact ⟨hB1.out.trans (((HBr.out.alloc hszr _)).mono (by omega)), Or.inr ⟨rfl, HX.out⟩⟩
              · rw [hr] at hcall
                have hr2 : 0 ≤ nn ∧ nn < len := by unfold refB at hr; simp only [Bool.and_eq_true, decide_eq_true_eq] at hr; exact hr.1
                obtain ⟨m, rfl⟩ := Int.eq_ofNat_of_zero_le hr2.1
                have hm : m < l.length := by rw [← hL.out]; omega
                have hm2 : (m : Int) < len := hr2.2
                obtain ⟨bb', o', hbo, _, x0, _, _⟩ := HWr.out m hm
                injection hbo with hbo; injection hbo with hbo1 hbo2; subst hbo1 hbo2
                have HK2 := hid (kindAt_nat hm)
                generalize l[m].k = k2 at x0 HK2
                have HM := hid (show okM l.length l acc th (m : Int) = (decide (k2 = 9) || (decide (k2 = 10) && decide ((th : Int) < m))) by unfold okM; rw [← hL.out, hr, HK2.out]; rfl)
                clear hr hr2
                go_wp2_with (go_at_call 44; refine hcall.out.mono ?_; rintro e w' ⟨rfl, rfl⟩)
                all_goals first
                  | (have HX := hid (HX0.out (by rw [HO.out, HM.out]; simp_all; done))
                     go_ret
                     exact ⟨hB1.out.trans (((HBr.out.alloc hszr _)).mono (by omega)), Or.inr ⟨rfl, HX.out⟩⟩)
                  | (have HX := hid (HX0.out (by rw [HO.out, HM.out]; simp_all; omega))
                     go_ret
                     exact ⟨hB1.out.trans (((HBr.out.alloc hszr _)).mono (by omega)), Or.inr ⟨rfl, HX.out⟩⟩)
                  | (have HS := hid (HS0.out (by rw [HO.out, HM.out]; simp_all; done))
                     go_roundw
                     case rel => exact ⟨th + 1, by omega, by go_num, HS.out, HBr.out.alloc hszr _⟩
                     case measure => simp [intOf]; omega)
                  | (have HS := hid (HS0.out (by rw [HO.out, HM.out]; simp_all; omega))
                     go_roundw
                     case rel => exact ⟨th + 1, by omega, by go_num, HS.out, HBr.out.alloc hszr _⟩
                     case measure => simp [intOf]; omega)
            · have HO := hid (show okT l.length l acc ⟨th, tf, te⟩ = (sub l tf te).all (okV l.length acc) by unfold okT; dsimp only; rw [if_neg (by rw [HK.out]; exact h10)])
              have hte : te ≤ l.length := by rw [← hL.out]; exact hle.2.2
              have HS1 := hid (show (∀ j (hj : j < l.length), tf ≤ j → j < te → okV len acc l[j] = true) → ∀ t, t ∈ acc → t.h < th + 1 → okT l.length l acc t = true from fun h => HS0.out (by
                rw [HO.out, List.all_eq_true]
                intro x hx
                obtain ⟨i, hi, rfl⟩ := List.getElem_of_mem hx
                obtain ⟨hj, e⟩ := sub_at hte hi
                rw [sub_length hte] at hi
                rw [e, ← hL.out]; exact h _ hj (by omega) (by omega)))
              have HX1 := hid (show ∀ j (hj : j < l.length), tf ≤ j → j < te → okV len acc l[j] = false → BadR lim l from fun j hj h1 h2 h3 => HX0.out (by
                rw [HO.out, List.all_eq_false]
                have hi : j - tf < (sub l tf te).length := by rw [sub_length hte]; omega
                obtain ⟨hj', e⟩ := sub_at hte hi
                refine ⟨_, List.getElem_mem hi, ?_⟩
                rw [e, ← hL.out]
                simp only [show tf + (j - tf) = j by omega]
                rw [h3]; simp))
              clear HO HS0 HX0 HK HN
              have hcall := thing_any _ B (some ⟨bb, o, none⟩) l len cap th hL.out hlen6 hlt (by simp; omega) (HWr.out.below (hbw.mono (by omega)))
              rw [HTr.out] at hcall
              have HCall := hid hcall
              clear hcall
              obtain ⟨df, hdf⟩ : ∃ df : Nat, tf = th + df := ⟨tf - th, by omega⟩
              obtain ⟨dn, hdn⟩ : ∃ dn : Nat, te = th + dn := ⟨te - th, by omega⟩
              have e1 : (te : Int) - th = dn := by omega
              have e2 : (tf : Int) - th = df := by omega
              simp only [thV, e1, e2] at HCall
              have hdd : df ≤ dn := by omega
              have hd6 : th + dn ≤ len := by omega
              have HDf := hid hdf
              have HDn := hid hdn
              clear hdf hdn e1 e2
              go_wp2_with (go_at_call 31; refine HCall.out.mono ?_; rintro e w2 ⟨rfl, hb2⟩)
              have HB2 := hid ((HBr.out.alloc hszr (.cells #[.int .i64 kk, .int .i64 nn, .string ss] 37)).trans (hb2.mono (by simp; omega)))
              clear hb2 HCall c0 c1 c2 f0 g0 hbw HWr HBe hbl hwl HBr hbr
              go_loopw [10] (fun i wr => ∃ d : Nat, df ≤ d ∧ d ≤ dn ∧ i = .int .i64 d ∧ (∀ j (hj : j < l.length), tf ≤ j → j < th + d → okV len acc l[j] = true) ∧ Below w1.heap.size w1 wr) (fun i _ => dn - (intOf i).toNat)
              case atStart => exact ⟨df, Nat.le_refl _, hdd, rfl, fun j _ h1 h2 => absurd h2 (by have := HDf.out; omega), HB2.out⟩
              case round =>
                obtain ⟨d, hd1, hd2, rfl, hok, hbr⟩ := hrel
                have HOk := hid hok
                have HBr := hid hbr
                clear hok
                have f0 := (hbr.cell (p := ⟨w.heap.size, 0, none⟩) (show w.heap.size < w1.heap.size by omega)).trans e0
                have hszr2 := hbr.size
                have hwl : w.heap.size < wr.heap.size := by omega
                by_cases hdl : d < dn
                · have hdl2 : (d : Int) < dn := by omega
                  obtain ⟨j, hj⟩ : ∃ j : Nat, j = th + d := ⟨_, rfl⟩
                  have hj1 : (th : Int) + d = j := by omega
                  have hj2 : j < l.length := by rw [← hL.out]; omega
                  have hj3 : (j : Int) < len := by omega
                  have HJ := hid hj
                  have hjf : tf ≤ j := by have := HDf.out; omega
                  have hje : j < te := by have := HDn.out; omega
                  clear hj
                  obtain ⟨bb', o', hbo, _, c0, c1, c2⟩ := (hW1.out.below (hbr.mono (by omega))) j hj2
                  injection hbo with hbo; injection hbo with hbo1 hbo2; subst hbo1 hbo2
                  have hbl : bb < wr.heap.size := by omega
                  have HX := hid (HX1.out j hj2 hjf hje)
                  have HY := hid (show okV len acc l[j] = true → ∀ j' (hj : j' < l.length), tf ≤ j' → j' < th + (d + 1) → okV len acc l[j'] = true from fun h j' hj' h1 h2 => by
                    by_cases e : j' = j
                    · subst e; exact h
                    · exact HOk.out j' hj' h1 (by have := HJ.out; omega))
                  have HV := hid (show okV len acc l[j] = (wmB l[j].k l[j].n l[j].s && (decide (¬ l[j].k = 5) || refB len acc l[j].n)) from rfl)
                  generalize okV len acc l[j] = ov at HX HY HV
                  generalize l[j].k = kk2 at c0 HV
                  generalize l[j].n = nn2 at c1 HV
                  generalize l[j].s = ss2 at c2 HV
                  have hbb2 := (Below.refl wr.heap.size wr).alloc (Nat.le_refl _) (.cells #[.int .i64 kk2, .int .i64 nn2, .string ss2] 37)
                  have HBx := hid (HBr.out.alloc hszr2 (.cells #[.int .i64 kk2, .int .i64 nn2, .string ss2] 37))
                  have hsx : w1.heap.size ≤ (wr.alloc (.cells #[.int .i64 kk2, .int .i64 nn2, .string ss2] 37)).heap.size := HBx.out.size
                  have hwm := wordMay_any kk2 nn2 ss2 (wr.alloc (.cells #[.int .i64 kk2, .int .i64 nn2, .string ss2] 37))
                  cases hwmb : wmB kk2 nn2 ss2
                  · rw [hwmb] at hwm
                    have HWm := hid hwm
                    have HX2 := hid (HX.out (by rw [HV.out, hwmb]; rfl))
                    clear hwm
                    go_wp2_with (go_at_call 45; refine HWm.out.mono ?_; rintro e w3 ⟨rfl, hb3⟩)
                    go_ret
                    exact ⟨hB1.out.trans ((HBx.out.trans (hb3.mono hsx)).mono (by omega)), Or.inr ⟨rfl, HX2.out⟩⟩
                  · rw [hwmb] at hwm
                    go_wp2_with fail
                    go_fit hwm
                    clear hwm
                    rintro e w3 ⟨rfl, hb3⟩
                    have HB3 := hid (HBx.out.trans (hb3.mono hsx))
                    have z0 := (hb3.cell (p := ⟨wr.heap.size, 0, none⟩) (by simp)).trans (show _ = some (Value.int .i64 kk2) by go_simp)
                    have z1 := (hb3.cell (p := ⟨wr.heap.size, 1, none⟩) (by simp)).trans (show _ = some (Value.int .i64 nn2) by go_simp)
                    have hbe3 := HBeg.out.below HB3.out hz1
                    have HRt := hid (refersTo_any w3 (w.heap.size + 1) len acc nn2 hbe3 hlen6)
                    clear hb3 hbe3 c0 c1 c2
                    by_cases h5 : kk2 = 5
                    · subst h5
                      cases hr : refB len acc nn2
                      · rw [hr] at HRt
                        have HX2 := hid (HX.out (by rw [HV.out, hwmb, hr]; simp))
                        go_wp2_with (go_at_call 44; refine HRt.out.mono ?_; rintro e w' ⟨rfl, rfl⟩)
                        go_ret
                        exact ⟨hB1.out.trans (HB3.out.mono (by omega)), Or.inr ⟨rfl, HX2.out⟩⟩
                      · rw [hr] at HRt
                        have HY2 := hid (HY.out (by rw [HV.out, hwmb, hr]; simp))
                        go_wp2_with (go_at_call 44; refine HRt.out.mono ?_; rintro e w' ⟨rfl, rfl⟩)
                        go_roundw
                        case rel => exact ⟨d + 1, by omega, by omega, by go_num, HY2.out, HB3.out⟩
                        case measure => simp [intOf]; omega
                    · have HY2 := hid (HY.out (by rw [HV.out, hwmb]; simp [h5]))
                      have h5b : (kk2 == 5) = false := by simp [h5]
                      go_wp2_with fail
                      go_roundw
                      case rel => exact ⟨d + 1, by omega, by omega, by go_num, HY2.out, HB3.out⟩
                      case measure => simp [intOf]; omega
                · have hdl2 : ¬ (d : Int) < dn := by omega
                  have HS := hid (HS1.out (fun j hj h1 h2 => HOk.out j hj h1 (by have := HDn.out; omega)))
                  go_wp2_with fail
                  go_roundw
                  case rel => exact ⟨th + 1, by omega, by go_num, HS.out, HBr.out⟩
                  case measure => simp [intOf]; omega
        · have hlt2 : ¬ (k : Int) < len := by omega
          have HO := hid (show OkR lim l from ⟨h1, h2, by rw [← hL.out]; exact h3, acc, HCh.out, fun t ht => HA.out t ht (by have := (HCh.out.mem t ht).1; rw [← hL.out] at this; omega)⟩)
          go_wp2_with fail
          go_ret
          exact ⟨hB1.out.trans (HBr.out.mono (by omega)), Or.inl ⟨rfl, HO.out⟩⟩
    · have HX := hid (show BadR lim l from Or.inr (Or.inl ⟨acc, i, hch, hi, hno⟩))
      go_wp2_with fail
      go_ret
      exact ⟨hb0.out.trans (hb1.mono (by omega)), Or.inr ⟨rfl, HX.out⟩⟩
  · have HX := hid (show BadR lim l from Or.inl (by rw [← hL.out]; exact hlims))
    have hcase : inB lim 50 60000 = true → lim < len := fun h => by simp only [inB, Bool.and_eq_true, decide_eq_true_eq] at h; omega
    cases hin : inB lim 50 60000
    · go_enter Try.func28, Try.ntmps28
      go_wp2_with (go_at_call 42; refine (HIn.out _).mono ?_; rw [hin]; rintro e w' ⟨rfl, rfl⟩)
      go_ret
      exact ⟨hb0.out, Or.inr ⟨rfl, HX.out⟩⟩
    · have h3 := hcase hin
      go_enter Try.func28, Try.ntmps28
      go_wp2_with (go_at_call 42; refine (HIn.out _).mono ?_; rw [hin]; rintro e w' ⟨rfl, rfl⟩)
      go_ret
      exact ⟨hb0.out, Or.inr ⟨rfl, HX.out⟩⟩
end Go.Proofs.Ytfjfobpdlmdddaa
