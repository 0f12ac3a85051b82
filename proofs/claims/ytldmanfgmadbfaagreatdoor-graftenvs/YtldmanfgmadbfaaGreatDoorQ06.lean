/- The document's HeapMay: P3.3. · The chart of a heap is drawn: heap's newChart. · The chart of a heap for some values: heap's chartFor. · The code's chart and the document's heap that may be are one. -/
import Derived.Test.YtldmanfgmadbfaaGreatDoorQ03
import Derived.Test.YtldmanfgmadbfaaGreatDoorQ05
namespace Go.Proofs.YtldmanfgmadbfaaGreatDoor.HH
set_option maxRecDepth 100000
open Go.RowKit
def okM (n : Nat) (l : List Wd) (acc : List Th) (h : Nat) (x : Int) : Bool := refB n acc x && (decide (kindAt l x = 9) || (decide (kindAt l x = 10) && decide ((h : Int) < x)))
def okV (n : Nat) (acc : List Th) (x : Wd) : Bool := wmB x.k x.n x.s && (decide (¬ x.k = 5) || refB n acc x.n)
def okT (n : Nat) (l : List Wd) (acc : List Th) (t : Th) : Bool := if kindAt l t.h = 10 then okM n l acc t.h (nInt l t.h) else (sub l t.f t.e).all (okV n acc)
def OkR (lim : Int) (l : List Wd) : Prop := 50 ≤ lim ∧ lim ≤ 60000 ∧ (l.length : Int) ≤ lim ∧ ∃ acc, ChainR l acc l.length ∧ ∀ t, t ∈ acc → okT l.length l acc t = true
def BadR (lim : Int) (l : List Wd) : Prop := ¬ (50 ≤ lim ∧ lim ≤ 60000 ∧ (l.length : Int) ≤ lim) ∨ (∃ acc i, ChainR l acc i ∧ i < l.length ∧ tRef l i = none) ∨ (∃ acc, ChainR l acc l.length ∧ ∃ t, t ∈ acc ∧ okT l.length l acc t = false)
theorem ChainR.mem {l : List Wd} {acc : List Th} {a : Nat} (h : ChainR l acc a) : ∀ t, t ∈ acc → t.h < l.length ∧ tRef l t.h = some (t.f, t.e) := by
  induction h with
  | nil => intro t ht; cases ht
  | snoc h1 h2 h3 ih =>
    intro t ht
    rcases List.mem_append.1 ht with h | h
    · exact ih t h
    · simp at h; subst h; exact ⟨h2, h3⟩
set_option maxRecDepth 100000 in
set_option maxHeartbeats 8000000 in
theorem HeapMay_any (w : World) (B : Nat) (a : Option Addr) (len cap : Nat) (l : List Wd) (lim : Int) (hW : Wds w B a l) (hB : B ≤ w.heap.size) (hlen : len = l.length) (hl : len ≤ 9223372036854775807) :
    Calls Tryz.prog 12 #[.agg #[.slice a len cap, .int .i64 lim]] w fun e w' => Below w.heap.size w w' ∧ ((e = .returned (.bool true) ∧ OkR lim l) ∨ (e = .returned (.bool false) ∧ BadR lim l)) := by
  have hL := hid hlen
  clear hlen
  have hb0 := hid ((Below.refl w.heap.size w).alloc (Nat.le_refl _) (.cells #[.slice a len cap, .int .i64 lim] 27))
  have HIn := hid (In_any lim 50 60000)
  by_cases hlims : 50 ≤ lim ∧ lim ≤ 60000 ∧ (len : Int) ≤ lim
  · obtain ⟨h1, h2, h3⟩ := hlims
    have hin : inB lim 50 60000 = true := by simp [inB, h1, h2]
    have n3 : ¬ lim < len := by omega
    have hlen6 : len ≤ 60000 := by omega
    go_enter Tryz.func12, Tryz.ntmps12
    go_wp2_with (go_at_call 31; refine (HIn.out _).mono ?_; rw [hin]; rintro e w' ⟨rfl, rfl⟩)
    have hcall := beginsOf_any (w.alloc (.cells #[.slice a len cap, .int .i64 lim] 27)) B a len cap l (hW.below (hb0.out.mono hB)) (by simp; omega) hL.out hlen6
    rw [World.size_alloc] at hcall
    go_fit hcall
    clear hcall
    rintro e w1 ⟨hb1, ⟨rfl, acc, hch, hbeg, hgl⟩ | ⟨rfl, acc, i, hch, hi, hno⟩⟩
    · have e0 := (hb1.cell (p := ⟨w.heap.size, 0, none⟩) (show w.heap.size < w.heap.size + 1 by omega)).trans (show _ = some (Value.slice a len cap) by go_simp)
      have hB1 := hid (hb0.out.trans (hb1.mono (by omega)))
      have hW1 := hid (hW.below (hB1.out.mono hB))
      have HCh := hid hch
      have HBeg := hid hbeg
      have hz1 : w.heap.size + 1 < w1.heap.size := hgl
      clear hb1 hch hbeg hgl HIn hin
      go_wp2_with fail
      go_loopw [5] (fun i wr => ∃ k : Nat, k ≤ len ∧ i = .int .i64 k ∧ (∀ t, t ∈ acc → t.h < k → okT l.length l acc t = true) ∧ Below w1.heap.size w1 wr) (fun i _ => len - (intOf i).toNat)
      case atStart => exact ⟨0, Nat.zero_le _, rfl, fun t _ h => absurd h (by omega), Below.refl _ _⟩
      case round =>
        obtain ⟨k, hk, rfl, hall, hbr⟩ := hrel
        have HA := hid hall
        have HBr := hid hbr
        clear hall
        have f0 := (hbr.cell (p := ⟨w.heap.size, 0, none⟩) (show w.heap.size < w1.heap.size by omega)).trans e0
        have hszr := hbr.size
        by_cases hlt : k < len
        · have hlt2 : (k : Int) < len := by omega
          have hk2 : k < l.length := by rw [← hL.out]; exact hlt
          have HWr := hid (hW1.out.below (hbr.mono (by omega)))
          have HBe := hid (HBeg.out.below hbr hz1)
          obtain ⟨g0, _⟩ := HBe.out k hlt
          obtain ⟨bb, o, rfl, hbb, c0, c1, c2⟩ := HWr.out k hk2
          have hbl : bb < wr.heap.size := by omega
          cases hany : acc.any fun t => t.h == k
          · rw [hany] at g0
            have HS := hid (show ∀ t, t ∈ acc → t.h < k + 1 → okT l.length l acc t = true from fun t ht h => HA.out t ht (by
              rcases Nat.lt_or_ge t.h k with h' | h'
              · exact h'
              · have : acc.any (fun t => t.h == k) = true := List.any_eq_true.2 ⟨t, ht, by simp; omega⟩
                rw [hany] at this; cases this))
            clear hany
            go_wp2_with fail
            go_roundw
            case rel => exact ⟨k + 1, by omega, by go_num, HS.out, HBr.out⟩
            case measure => simp [intOf]; omega
          · rw [hany] at g0
            obtain ⟨t, ht, htk⟩ := List.any_eq_true.1 hany
            have htk2 : t.h = k := by simpa using htk
            have htr := (HCh.out.mem t ht).2
            rw [htk2] at htr
            obtain ⟨th, tf, te⟩ := t
            dsimp only at htk2 htr
            subst htk2
            have HTr := hid htr
            have hle := tRef_le htr
            rw [← hL.out] at hle
            have HS0 := hid (show okT l.length l acc ⟨th, tf, te⟩ = true → ∀ t, t ∈ acc → t.h < th + 1 → okT l.length l acc t = true from fun hok t ht' h => by
              rcases Nat.lt_or_ge t.h th with h' | h'
              · exact HA.out t ht' h'
              · have e1 : t.h = th := by omega
                have e2 := (HCh.out.mem t ht').2
                rw [e1, HTr.out] at e2
                obtain ⟨t1, t2, t3⟩ := t
                simp at e1 e2
                rw [e1, ← e2.1, ← e2.2]; exact hok)
            have HX0 := hid (show okT l.length l acc ⟨th, tf, te⟩ = false → BadR lim l from fun h => Or.inr (Or.inr ⟨acc, HCh.out, _, ht, h⟩))
            clear hany htk htr ht
            have HK := hid (kindAt_nat hk2)
            have HN := hid (show nInt l th = l[th].n by unfold nInt; rw [List.getElem?_eq_getElem hk2])
            generalize l[th].k = kk at c0 HK
            generalize l[th].n = nn at c1 HN
            generalize l[th].s = ss at c2
            have hbw := (Below.refl wr.heap.size wr).alloc (Nat.le_refl _) (.cells #[.int .i64 kk, .int .i64 nn, .string ss] 51)
            have hwl : w.heap.size < wr.heap.size := by omega
            by_cases h10 : kk = 10
            · subst h10
              have HO := hid (show okT l.length l acc ⟨th, tf, te⟩ = okM l.length l acc th nn by unfold okT; dsimp only; rw [if_pos HK.out, HN.out])
              have hcall := hid (refersTo_any _ (w.heap.size + 1) len acc nn (HBe.out.below hbw (by omega)) hlen6)
              cases hr : refB len acc nn
              · rw [hr] at hcall
                have HX := hid (HX0.out (by rw [HO.out]; unfold okM; rw [← hL.out, hr]; rfl))
                go_wp2_with (go_at_call 33; refine hcall.out.mono ?_; rintro e w' ⟨rfl, rfl⟩)
                go_ret
                exact ⟨hB1.out.trans (((HBr.out.alloc hszr _)).mono (by omega)), Or.inr ⟨rfl, HX.out⟩⟩
              · rw [hr] at hcall
                have hr2 : 0 ≤ nn ∧ nn < len := by unfold refB at hr; simp only [Bool.and_eq_true, decide_eq_true_eq] at hr; exact hr.1
                obtain ⟨m, rfl⟩ := Int.eq_ofNat_of_zero_le hr2.1
                have hm : m < l.length := by rw [← hL.out]; omega
                have hm2 : (m : Int) < len := hr2.2
                obtain ⟨bb', o', hbo, _, x0, _, _⟩ := HWr.out m hm
                injection hbo with hbo; injection hbo with hbo1 hbo2; subst hbo1 hbo2
                have HK2 := hid (kindAt_nat hm)
                generalize l[m].k = k2 at x0 HK2
                have HM := hid (show okM l.length l acc th (m : Int) = (decide (k2 = 9) || (decide (k2 = 10) && decide ((th : Int) < m))) by unfold okM; rw [← hL.out, hr, HK2.out]; rfl)
                clear hr hr2
                go_wp2_with (go_at_call 33; refine hcall.out.mono ?_; rintro e w' ⟨rfl, rfl⟩)
                all_goals first
                  | (have HX := hid (HX0.out (by rw [HO.out, HM.out]; simp_all; done))
                     go_ret
                     exact ⟨hB1.out.trans (((HBr.out.alloc hszr _)).mono (by omega)), Or.inr ⟨rfl, HX.out⟩⟩)
                  | (have HX := hid (HX0.out (by rw [HO.out, HM.out]; simp_all; omega))
                     go_ret
                     exact ⟨hB1.out.trans (((HBr.out.alloc hszr _)).mono (by omega)), Or.inr ⟨rfl, HX.out⟩⟩)
                  | (have HS := hid (HS0.out (by rw [HO.out, HM.out]; simp_all; done))
                     go_roundw
                     case rel => exact ⟨th + 1, by omega, by go_num, HS.out, HBr.out.alloc hszr _⟩
                     case measure => simp [intOf]; omega)
                  | (have HS := hid (HS0.out (by rw [HO.out, HM.out]; simp_all; omega))
                     go_roundw
                     case rel => exact ⟨th + 1, by omega, by go_num, HS.out, HBr.out.alloc hszr _⟩
                     case measure => simp [intOf]; omega)
            · have HO := hid (show okT l.length l acc ⟨th, tf, te⟩ = (sub l tf te).all (okV l.length acc) by unfold okT; dsimp only; rw [if_neg (by rw [HK.out]; exact h10)])
              have hte : te ≤ l.length := by rw [← hL.out]; exact hle.2.2
              have HS1 := hid (show (∀ j (hj : j < l.length), tf ≤ j → j < te → okV len acc l[j] = true) → ∀ t, t ∈ acc → t.h < th + 1 → okT l.length l acc t = true from fun h => HS0.out (by
                rw [HO.out, List.all_eq_true]
                intro x hx
                obtain ⟨i, hi, rfl⟩ := List.getElem_of_mem hx
                obtain ⟨hj, e⟩ := sub_at hte hi
                rw [sub_length hte] at hi
                rw [e, ← hL.out]; exact h _ hj (by omega) (by omega)))
              have HX1 := hid (show ∀ j (hj : j < l.length), tf ≤ j → j < te → okV len acc l[j] = false → BadR lim l from fun j hj h1 h2 h3 => HX0.out (by
                rw [HO.out, List.all_eq_false]
                have hi : j - tf < (sub l tf te).length := by rw [sub_length hte]; omega
                obtain ⟨hj', e⟩ := sub_at hte hi
                refine ⟨_, List.getElem_mem hi, ?_⟩
                rw [e, ← hL.out]
                simp only [show tf + (j - tf) = j by omega]
                rw [h3]; simp))
              clear HO HS0 HX0 HK HN
              have hcall := thing_any _ B (some ⟨bb, o, none⟩) l len cap th hL.out hlen6 hlt (by simp; omega) (HWr.out.below (hbw.mono (by omega)))
              rw [HTr.out] at hcall
              have HCall := hid hcall
              clear hcall
              obtain ⟨df, hdf⟩ : ∃ df : Nat, tf = th + df := ⟨tf - th, by omega⟩
              obtain ⟨dn, hdn⟩ : ∃ dn : Nat, te = th + dn := ⟨te - th, by omega⟩
              have e1 : (te : Int) - th = dn := by omega
              have e2 : (tf : Int) - th = df := by omega
              simp only [thV, e1, e2] at HCall
              have hdd : df ≤ dn := by omega
              have hd6 : th + dn ≤ len := by omega
              have HDf := hid hdf
              have HDn := hid hdn
              clear hdf hdn e1 e2
              go_wp2_with (go_at_call 34; refine HCall.out.mono ?_; rintro e w2 ⟨rfl, hb2⟩)
              have HB2 := hid ((HBr.out.alloc hszr (.cells #[.int .i64 kk, .int .i64 nn, .string ss] 51)).trans (hb2.mono (by simp; omega)))
              clear hb2 HCall c0 c1 c2 f0 g0 hbw HWr HBe hbl hwl HBr hbr
              go_loopw [10] (fun i wr => ∃ d : Nat, df ≤ d ∧ d ≤ dn ∧ i = .int .i64 d ∧ (∀ j (hj : j < l.length), tf ≤ j → j < th + d → okV len acc l[j] = true) ∧ Below w1.heap.size w1 wr) (fun i _ => dn - (intOf i).toNat)
              case atStart => exact ⟨df, Nat.le_refl _, hdd, rfl, fun j _ h1 h2 => absurd h2 (by have := HDf.out; omega), HB2.out⟩
              case round =>
                obtain ⟨d, hd1, hd2, rfl, hok, hbr⟩ := hrel
                have HOk := hid hok
                have HBr := hid hbr
                clear hok
                have f0 := (hbr.cell (p := ⟨w.heap.size, 0, none⟩) (show w.heap.size < w1.heap.size by omega)).trans e0
                have hszr2 := hbr.size
                have hwl : w.heap.size < wr.heap.size := by omega
                by_cases hdl : d < dn
                · have hdl2 : (d : Int) < dn := by omega
                  obtain ⟨j, hj⟩ : ∃ j : Nat, j = th + d := ⟨_, rfl⟩
                  have hj1 : (th : Int) + d = j := by omega
                  have hj2 : j < l.length := by rw [← hL.out]; omega
                  have hj3 : (j : Int) < len := by omega
                  have HJ := hid hj
                  have hjf : tf ≤ j := by have := HDf.out; omega
                  have hje : j < te := by have := HDn.out; omega
                  clear hj
                  obtain ⟨bb', o', hbo, _, c0, c1, c2⟩ := (hW1.out.below (hbr.mono (by omega))) j hj2
                  injection hbo with hbo; injection hbo with hbo1 hbo2; subst hbo1 hbo2
                  have hbl : bb < wr.heap.size := by omega
                  have HX := hid (HX1.out j hj2 hjf hje)
                  have HY := hid (show okV len acc l[j] = true → ∀ j' (hj : j' < l.length), tf ≤ j' → j' < th + (d + 1) → okV len acc l[j'] = true from fun h j' hj' h1 h2 => by
                    by_cases e : j' = j
                    · subst e; exact h
                    · exact HOk.out j' hj' h1 (by have := HJ.out; omega))
                  have HV := hid (show okV len acc l[j] = (wmB l[j].k l[j].n l[j].s && (decide (¬ l[j].k = 5) || refB len acc l[j].n)) from rfl)
                  generalize okV len acc l[j] = ov at HX HY HV
                  generalize l[j].k = kk2 at c0 HV
                  generalize l[j].n = nn2 at c1 HV
                  generalize l[j].s = ss2 at c2 HV
                  have hbb2 := (Below.refl wr.heap.size wr).alloc (Nat.le_refl _) (.cells #[.int .i64 kk2, .int .i64 nn2, .string ss2] 51)
                  have HBx := hid (HBr.out.alloc hszr2 (.cells #[.int .i64 kk2, .int .i64 nn2, .string ss2] 51))
                  have hsx : w1.heap.size ≤ (wr.alloc (.cells #[.int .i64 kk2, .int .i64 nn2, .string ss2] 51)).heap.size := HBx.out.size
                  have hwm := wordMay_any kk2 nn2 ss2 (wr.alloc (.cells #[.int .i64 kk2, .int .i64 nn2, .string ss2] 51))
                  cases hwmb : wmB kk2 nn2 ss2
                  · rw [hwmb] at hwm
                    have HWm := hid hwm
                    have HX2 := hid (HX.out (by rw [HV.out, hwmb]; rfl))
                    clear hwm
                    go_wp2_with (go_at_call 35; refine HWm.out.mono ?_; rintro e w3 ⟨rfl, hb3⟩)
                    go_ret
                    exact ⟨hB1.out.trans ((HBx.out.trans (hb3.mono hsx)).mono (by omega)), Or.inr ⟨rfl, HX2.out⟩⟩
                  · rw [hwmb] at hwm
                    go_wp2_with fail
                    go_fit hwm
                    clear hwm
                    rintro e w3 ⟨rfl, hb3⟩
                    have HB3 := hid (HBx.out.trans (hb3.mono hsx))
                    have z0 := (hb3.cell (p := ⟨wr.heap.size, 0, none⟩) (by simp)).trans (show _ = some (Value.int .i64 kk2) by go_simp)
                    have z1 := (hb3.cell (p := ⟨wr.heap.size, 1, none⟩) (by simp)).trans (show _ = some (Value.int .i64 nn2) by go_simp)
                    have hbe3 := HBeg.out.below HB3.out hz1
                    have HRt := hid (refersTo_any w3 (w.heap.size + 1) len acc nn2 hbe3 hlen6)
                    clear hb3 hbe3 c0 c1 c2
                    by_cases h5 : kk2 = 5
                    · subst h5
                      cases hr : refB len acc nn2
                      · rw [hr] at HRt
                        have HX2 := hid (HX.out (by rw [HV.out, hwmb, hr]; simp))
                        go_wp2_with (go_at_call 33; refine HRt.out.mono ?_; rintro e w' ⟨rfl, rfl⟩)
                        go_ret
                        exact ⟨hB1.out.trans (HB3.out.mono (by omega)), Or.inr ⟨rfl, HX2.out⟩⟩
                      · rw [hr] at HRt
                        have HY2 := hid (HY.out (by rw [HV.out, hwmb, hr]; simp))
                        go_wp2_with (go_at_call 33; refine HRt.out.mono ?_; rintro e w' ⟨rfl, rfl⟩)
                        go_roundw
                        case rel => exact ⟨d + 1, by omega, by omega, by go_num, HY2.out, HB3.out⟩
                        case measure => simp [intOf]; omega
                    · have HY2 := hid (HY.out (by rw [HV.out, hwmb]; simp [h5]))
                      have h5b : (kk2 == 5) = false := by simp [h5]
                      go_wp2_with fail
                      go_roundw
                      case rel => exact ⟨d + 1, by omega, by omega, by go_num, HY2.out, HB3.out⟩
                      case measure => simp [intOf]; omega
                · have hdl2 : ¬ (d : Int) < dn := by omega
                  have HS := hid (HS1.out (fun j hj h1 h2 => HOk.out j hj h1 (by have := HDn.out; omega)))
                  go_wp2_with fail
                  go_roundw
                  case rel => exact ⟨th + 1, by omega, by go_num, HS.out, HBr.out⟩
                  case measure => simp [intOf]; omega
        · have hlt2 : ¬ (k : Int) < len := by omega
          have HO := hid (show OkR lim l from ⟨h1, h2, by rw [← hL.out]; exact h3, acc, HCh.out, fun t ht => HA.out t ht (by have := (HCh.out.mem t ht).1; rw [← hL.out] at this; omega)⟩)
          go_wp2_with fail
          go_ret
          exact ⟨hB1.out.trans (HBr.out.mono (by omega)), Or.inl ⟨rfl, HO.out⟩⟩
    · have HX := hid (show BadR lim l from Or.inr (Or.inl ⟨acc, i, hch, hi, hno⟩))
      go_wp2_with fail
      go_ret
      exact ⟨hb0.out.trans (hb1.mono (by omega)), Or.inr ⟨rfl, HX.out⟩⟩
  · have HX := hid (show BadR lim l from Or.inl (by rw [← hL.out]; exact hlims))
    have hcase : inB lim 50 60000 = true → lim < len := fun h => by simp only [inB, Bool.and_eq_true, decide_eq_true_eq] at h; omega
    cases hin : inB lim 50 60000
    · go_enter Tryz.func12, Tryz.ntmps12
      go_wp2_with (go_at_call 31; refine (HIn.out _).mono ?_; rw [hin]; rintro e w' ⟨rfl, rfl⟩)
      go_ret
      exact ⟨hb0.out, Or.inr ⟨rfl, HX.out⟩⟩
    · have h3 := hcase hin
      go_enter Tryz.func12, Tryz.ntmps12
      go_wp2_with (go_at_call 31; refine (HIn.out _).mono ?_; rw [hin]; rintro e w' ⟨rfl, rfl⟩)
      go_ret
      exact ⟨hb0.out, Or.inr ⟨rfl, HX.out⟩⟩
end Go.Proofs.YtldmanfgmadbfaaGreatDoor.HH
namespace Go.Proofs.YtldmanfgmadbfaaGreatDoor.HH
set_option maxRecDepth 100000
open Go.RowKit Go.Maps
/-- The chart as a value: its words, its things, its two maps, in memory from block B on. -/
structure ChartV (w : World) (B : Nat) (a : Option Addr) (l : List Wd) (v : Value) (acc : List Th) (pb mb : Nat) (ms : List (Int × Int)) : Prop where
  wds : Wds w B a l
  row : ThL w B v acc
  pl : OwnsI w pb (plOf acc)
  mv : OwnsI w mb ms
  hpb : B ≤ pb
  hmb : B ≤ mb
  n3 : ¬ pb = mb
  n4 : ∀ g, v.ownBlock = some g → ¬ g = pb ∧ ¬ g = mb
theorem Chart.toV {w : World} {B cb : Nat} {a : Option Addr} {len cap : Nat} {l : List Wd} {v : Value} {acc : List Th} {pb mb : Nat} {ms : List (Int × Int)} (h : Chart w B cb a len cap l v acc pb mb ms) : ChartV w B a l v acc pb mb ms :=
  ⟨h.wds, h.row, h.pl, h.mv, h.hpb, h.hmb, h.n3, fun g hg => (h.n4 g hg).2⟩
theorem ChartV.below {w w' : World} {B : Nat} {a : Option Addr} {l : List Wd} {v : Value} {acc : List Th} {pb mb : Nat} {ms : List (Int × Int)} (h : ChartV w B a l v acc pb mb ms) (hb : Below w.heap.size w w') : ChartV w' B a l v acc pb mb ms :=
  ⟨h.wds.below (hb.mono (by have := h.hpb; have := h.pl.lt; omega)), h.row.keep (fun b hv => hb.block b (h.row.own_lt hv).2), h.pl.keep (hb.block _ h.pl.lt), h.mv.keep (hb.block _ h.mv.lt), h.hpb, h.hmb, h.n3, h.n4⟩
theorem ChartV.mono {w : World} {B B' : Nat} {a : Option Addr} {l : List Wd} {v : Value} {acc : List Th} {pb mb : Nat} {ms : List (Int × Int)} (h : ChartV w B a l v acc pb mb ms) (hB : B' ≤ B) (hw : Wds w B' a l) : ChartV w B' a l v acc pb mb ms := by
  refine ⟨hw, ?_, h.pl, h.mv, by have := h.hpb; omega, by have := h.hmb; omega, h.n3, h.n4⟩
  obtain ⟨cells, ho, hi⟩ := h.row
  refine ⟨cells, ⟨ho.1, ?_⟩, hi⟩
  rcases ho.2 with ho | ⟨g, cap, cur, hv, hb, hr⟩
  · exact Or.inl ho
  · exact Or.inr ⟨g, cap, cur, hv, by omega, hr⟩
/-- In a variable of one's own. -/
theorem ChartV.box {w : World} {B : Nat} {a : Option Addr} {len cap : Nat} {l : List Wd} {v : Value} {acc : List Th} {pb mb : Nat} {ms : List (Int × Int)} (h : ChartV w B a l v acc pb mb ms) (t : TypeId) : Chart (w.alloc (.cells #[.slice a len cap, v, .map (some pb), .map (some mb)] t)) B w.heap.size a len cap l v acc pb mb ms := by
  have h1 := h.pl.lt
  have h2 := h.mv.lt
  have h3 := h.hpb
  have hv := h.below ((Below.refl _ _).alloc (Nat.le_refl _) (.cells #[.slice a len cap, v, .map (some pb), .map (some mb)] t))
  refine ⟨hv.wds, ?_, ?_, ?_, ?_, ?_, hv.row, hv.pl, hv.mv, by omega, h.hpb, h.hmb, by omega, by omega, h.n3, fun g hg => ⟨by have := (h.row.own_lt hg).2; omega, h.n4 g hg⟩⟩ <;> go_simp
structure OkC (lim : Int) (l : List Wd) (acc : List Th) (ms : List (Int × Int)) : Prop where
  lo : 50 ≤ lim
  hi : lim ≤ 60000
  room : (l.length : Int) ≤ lim
  chain : Chain l acc l.length
  moved : mvAll l (plOf acc) acc.reverse [] = some ms
  vals : acc.all (thB l (plOf acc)) = true
def BadC (lim : Int) (l : List Wd) : Prop :=
  ¬ (50 ≤ lim ∧ lim ≤ 60000 ∧ (l.length : Int) ≤ lim) ∨ (∃ acc i, Chain l acc i ∧ i < l.length ∧ tAt l i = none) ∨ (∃ acc, Chain l acc l.length ∧ (mvAll l (plOf acc) acc.reverse [] = none ∨ acc.all (thB l (plOf acc)) = false))
theorem Chain.inL {l : List Wd} {acc : List Th} {a : Nat} (h : Chain l acc a) : ∀ i (h : i < acc.length), acc[i].h < l.length ∧ acc[i].h < acc[i].f ∧ acc[i].f ≤ acc[i].e ∧ acc[i].e ≤ l.length := by
  induction h with
  | nil => intro i h; simp at h
  | snoc h1 h2 h3 ih =>
    intro i hi
    rename_i acc a f e
    by_cases hlt : i < acc.length
    · rw [List.getElem_append_left hlt]; exact ih i hlt
    · have : i = acc.length := by simp at hi; omega
      subst this
      rw [List.getElem_append_right (Nat.le_refl _)]
      simp only [Nat.sub_self, List.getElem_cons_zero]
      have := tAt_le h3
      omega
theorem Chain.has {l : List Wd} {acc : List Th} {a : Nat} (h : Chain l acc a) (n : Int) : hasI (plOf acc) n = true ↔ ∃ i, ∃ h : i < acc.length, (acc[i].h : Int) = n := by
  induction h with
  | nil => simp [plOf, hasI]
  | snoc h1 h2 h3 ih =>
    rename_i acc a f e
    rw [plOf_snoc]
    unfold hasI
    rw [Bool.or_eq_true, ih]
    constructor
    · rintro (h | ⟨i, hi, h⟩)
      · exact ⟨acc.length, by simp, by rw [List.getElem_append_right (Nat.le_refl _)]; simpa using h⟩
      · exact ⟨i, by simp; omega, by rw [List.getElem_append_left hi]; exact h⟩
    · rintro ⟨i, hi, h⟩
      by_cases hlt : i < acc.length
      · rw [List.getElem_append_left hlt] at h; exact Or.inr ⟨i, hlt, h⟩
      · have : i = acc.length := by simp at hi; omega
        subst this
        rw [List.getElem_append_right (Nat.le_refl _)] at h
        exact Or.inl (by simpa using h)
theorem Chain.within {l : List Wd} {acc : List Th} {a : Nat} (h : Chain l acc a) (n : Int) (hn : hasI (plOf acc) n = true) : 0 ≤ n ∧ n < l.length := by
  obtain ⟨i, hi, e⟩ := (h.has n).1 hn
  have := (h.inL i hi).1
  omega
theorem run_makeMap_hint (x : Int) (w : World) : (Instr.makeMap 95 (some (.int .i64 x))).run Tryz.prog w = .ok (.map (some w.heap.size)) (w.alloc (.map #[] 0)) := by
  simp [Instr.makeMap, run_underlying Tryz.underlying95, asInt, asIntOf, Result.andThen]
theorem ownsI_born {w : World} {b : Nat} (h : w.heap[b]? = some (.map #[] 0)) : OwnsI w b [] := by
  obtain ⟨es, c, e1, e2⟩ := World.ownsMap_made (H := Unit) w Tryz.prog 3 (plainElem Tryz.prog 3)
  rw [(MapKept.heap_alloc w _).1] at e1
  injection e1 with e1
  injection e1 with e1 e3
  subst e1 e3
  exact ⟨_, _, h, e2⟩
theorem chart_born {w W : World} {B cb pb mb : Nat} {a : Option Addr} {len cap : Nat} {l : List Wd} {t : TypeId} (hW : Wds w B a l) (hB : B ≤ w.heap.size) (hb : Below w.heap.size w W) (h1 : W.heap[cb]? = some (.cells #[.slice a len cap, .slice none 0 0, .map (some pb), .map (some mb)] t (0, 0))) (h2 : W.heap[pb]? = some (.map #[] 0)) (h3 : W.heap[mb]? = some (.map #[] 0))
    (k1 : w.heap.size + 2 ≤ cb) (k2 : w.heap.size + 2 ≤ pb) (k3 : w.heap.size + 2 ≤ mb) (n1 : ¬ cb = pb) (n2 : ¬ cb = mb) (n3 : ¬ pb = mb) : Chart W (w.heap.size + 2) cb a len cap l (.slice none 0 0) [] pb mb [] :=
  ⟨(hW.below (hb.mono hB)).mono (by omega), by simp [World.cell?, h1], by simp [World.cell?, h1], by simp [World.cell?, h1], by simp [World.cell?, h1], by simp [World.frozen?, h1], ThL.nil _ _, ownsI_born h2, ownsI_born h3, k1, k2, k3, n1, n2, n3, fun g hg => by simp [Value.ownBlock] at hg⟩
/-- What lies there when the chart has been laid out. -/
structure Born (w W : World) (cb pb mb : Nat) (a : Option Addr) (len cap : Nat) (l : List Wd) : Prop where
  chart : Chart W (w.heap.size + 2) cb a len cap l (.slice none 0 0) [] pb mb []
  bel : Below w.heap.size w W
  r0 : W.cell? ⟨w.heap.size + 1, 0, none⟩ = some (.slice none 0 0)
  r1 : W.cell? ⟨w.heap.size + 1, 1, none⟩ = some (.slice none 0 0)
  r2 : W.cell? ⟨w.heap.size + 1, 2, none⟩ = some (.map none)
  r3 : W.cell? ⟨w.heap.size + 1, 3, none⟩ = some (.map none)
  f0 : W.frozen? ⟨w.heap.size + 1, 0, none⟩ = false
  f1 : W.frozen? ⟨w.heap.size + 1, 1, none⟩ = false
  f2 : W.frozen? ⟨w.heap.size + 1, 2, none⟩ = false
  f3 : W.frozen? ⟨w.heap.size + 1, 3, none⟩ = false
  size : w.heap.size + 2 ≤ W.heap.size
theorem born_of {w W : World} {B cb pb mb : Nat} {a : Option Addr} {len cap : Nat} {l : List Wd} {t t' : TypeId} (hW : Wds w B a l) (hB : B ≤ w.heap.size) (hb : Below w.heap.size w W) (h1 : W.heap[cb]? = some (.cells #[.slice a len cap, .slice none 0 0, .map (some pb), .map (some mb)] t (0, 0))) (h2 : W.heap[pb]? = some (.map #[] 0)) (h3 : W.heap[mb]? = some (.map #[] 0))
    (hr : W.heap[w.heap.size + 1]? = some (.cells #[.slice none 0 0, .slice none 0 0, .map none, .map none] t' (0, 0))) (k1 : w.heap.size + 2 ≤ cb) (k2 : w.heap.size + 2 ≤ pb) (k3 : w.heap.size + 2 ≤ mb) (n1 : ¬ cb = pb) (n2 : ¬ cb = mb) (n3 : ¬ pb = mb) : Born w W cb pb mb a len cap l :=
  ⟨chart_born hW hB hb h1 h2 h3 k1 k2 k3 n1 n2 n3, hb, by simp [World.cell?, hr], by simp [World.cell?, hr], by simp [World.cell?, hr], by simp [World.cell?, hr], by simp [World.frozen?, hr], by simp [World.frozen?, hr], by simp [World.frozen?, hr], by simp [World.frozen?, hr], by have := (Array.getElem?_eq_some_iff.1 hr).1; omega⟩
theorem new_at (w : World) (o : Obj) (k : Nat) (h : w.heap.size = k) : (w.alloc o).heap[k]? = some o := by subst h; exact World.alloc_heap_new w o
theorem heap5 (w : World) (o1 o2 o3 o4 o5 : Obj) : (((((w.alloc o1).alloc o2).alloc o3).alloc o4).alloc o5).drew.heap[w.heap.size + 1]? = some o2 ∧ (((((w.alloc o1).alloc o2).alloc o3).alloc o4).alloc o5).drew.heap[w.heap.size + 1 + 1]? = some o3 ∧ (((((w.alloc o1).alloc o2).alloc o3).alloc o4).alloc o5).drew.heap[w.heap.size + 1 + 1 + 1]? = some o4 ∧ (((((w.alloc o1).alloc o2).alloc o3).alloc o4).alloc o5).drew.heap[w.heap.size + 1 + 1 + 1 + 1]? = some o5 := by
  have n2 := new_at (w.alloc o1) o2 (w.heap.size + 1) (by simp)
  have n3 := new_at ((w.alloc o1).alloc o2) o3 (w.heap.size + 1 + 1) (by simp)
  have n4 := new_at (((w.alloc o1).alloc o2).alloc o3) o4 (w.heap.size + 1 + 1 + 1) (by simp)
  have n5 := new_at ((((w.alloc o1).alloc o2).alloc o3).alloc o4) o5 (w.heap.size + 1 + 1 + 1 + 1) (by simp)
  exact ⟨(Below.heap_alloc _ o5 _ (by simp <;> omega)).trans ((Below.heap_alloc _ o4 _ (by simp <;> omega)).trans ((Below.heap_alloc _ o3 _ (by simp <;> omega)).trans n2)), (Below.heap_alloc _ o5 _ (by simp <;> omega)).trans ((Below.heap_alloc _ o4 _ (by simp <;> omega)).trans n3), (Below.heap_alloc _ o5 _ (by simp <;> omega)).trans n4, n5⟩
theorem below5 (w : World) (o1 o2 o3 o4 o5 : Obj) : Below w.heap.size w (((((w.alloc o1).alloc o2).alloc o3).alloc o4).alloc o5).drew :=
  bdrew ((((((Below.refl _ _).alloc (Nat.le_refl _) _).alloc (by simp) _).alloc (by simp; omega) _).alloc (by simp; omega) _).alloc (by simp; omega) _) 1
theorem heap_set4 {g k : Nat} (w : World) (hk : ¬ k = g) {x0 x1 x2 x3 : Value} : ((((w.setCell ⟨g, 0, none⟩ x0).setCell ⟨g, 1, none⟩ x1).setCell ⟨g, 2, none⟩ x2).setCell ⟨g, 3, none⟩ x3).heap[k]? = w.heap[k]? := by
  rw [Below.heap_setCell _ _ _ _ hk, Below.heap_setCell _ _ _ _ hk, Below.heap_setCell _ _ _ _ hk, Below.heap_setCell _ _ _ _ hk]
theorem below_set4s {B g : Nat} {a w : World} (h : Below B a w) (hg : B ≤ g) {x0 x1 x2 x3 : Value} : Below B a ((((w.setCell ⟨g, 0, none⟩ x0).setCell ⟨g, 1, none⟩ x1).setCell ⟨g, 2, none⟩ x2).setCell ⟨g, 3, none⟩ x3) :=
  (((h.setCell (p := ⟨g, 0, none⟩) hg _).setCell (p := ⟨g, 1, none⟩) hg _).setCell (p := ⟨g, 2, none⟩) hg _).setCell (p := ⟨g, 3, none⟩) hg _
set_option maxHeartbeats 4000000 in
theorem newChart_any (w : World) (B : Nat) (a : Option Addr) (len cap : Nat) (l : List Wd) (lim : Int) (hW : Wds w B a l) (hB : B ≤ w.heap.size) (hlen : len = l.length) (hcap : len ≤ cap) (hl : len ≤ 9223372036854775807) (hwf : wfL l) :
    Calls Tryz.prog 43 #[.agg #[.slice a len cap, .int .i64 lim]] w fun e w' => Below w.heap.size w w' ∧
      ((∃ v acc pb mb ms, e = .returned (.tuple #[.agg #[.slice a len cap, v, .map (some pb), .map (some mb)], .int .i64 0]) ∧ OkC lim l acc ms ∧ ChartV w' w.heap.size a l v acc pb mb ms) ∨
       (e = .returned (.tuple #[.agg #[.slice none 0 0, .slice none 0 0, .map none, .map none], .int .i64 9]) ∧ BadC lim l)) := by
  have hL := hid hlen
  clear hlen
  have hmm := @run_makeMap Tryz.prog
  have hmh := run_makeMap_hint
  by_cases hlims : 50 ≤ lim ∧ lim ≤ 60000 ∧ (len : Int) ≤ lim
  · obtain ⟨h1, h2, h3⟩ := hlims
    have n1 : ¬ lim < 50 := by omega
    have n2 : ¬ 60000 < lim := by omega
    have n3 : ¬ lim < len := by omega
    go_enter Tryz.func43, Tryz.ntmps43
    go_wp2_with fail
    refine Code.wp_mono (Q := fun e a' w' => e = .normal ∧ ∃ cb pb mb, Born w w' cb pb mb a len cap l ∧ a' = { tmps := #[.agg #[.slice a len cap, .int .i64 lim], .pointer (some ⟨w.heap.size, 0, none⟩), .pointer (some ⟨w.heap.size + 1, 0, none⟩), .int .i64 0, .pointer (some ⟨cb, 0, none⟩), .pointer (some ⟨w.heap.size, 1, none⟩), .int .i64 lim, .bool false, .bool false, .pointer (some ⟨w.heap.size, 1, none⟩), .int .i64 lim, .bool false, .bool false, .bool false, .pointer (some ⟨w.heap.size, 0, none⟩), .slice a len cap, .int .i64 (len : Int), .pointer (some ⟨w.heap.size, 1, none⟩), .int .i64 lim, .bool false, .bool false, undef, .pointer (some ⟨w.heap.size, 0, none⟩), .slice a len cap, .pointer (some ⟨w.heap.size, 0, none⟩), .slice a len cap, .int .i64 (len : Int), .int .i64 ((len : Int) / 3), .map (some pb), .map (some mb), .agg #[.slice a len cap, .slice none 0 0, .map (some pb), .map (some mb)], undef, undef, undef, undef, undef, undef, undef, undef, undef, undef, undef, undef], defers := [] }) ?rest ?reg
    case reg =>
      go_region
      all_goals
        refine ⟨rfl, _, _, _, born_of (t := 97) (t' := 97) hW hB (below5 _ _ _ _ _ _) ?_ ?_ ?_ ?_ ?_ ?_ ?_ ?_ ?_ ?_, rfl⟩
      all_goals first
        | omega
        | exact (heap5 _ _ _ _ _ _).1
        | exact (heap5 _ _ _ _ _ _).2.1
        | exact (heap5 _ _ _ _ _ _).2.2.1
        | exact (heap5 _ _ _ _ _ _).2.2.2
    case rest =>
      rintro e a' w3 ⟨rfl, cb, pb, mb, hBo, rfl⟩
      have HBo := hid hBo
      have hs3 := hBo.size
      clear hmm hmh
      go_wp2_with fail
      have hcall := addThings_any w3 (w.heap.size + 2) cb a len cap l pb mb [] _ hBo.chart hL.out (by omega)
      go_fit hcall
      clear hcall
      rintro e w4 ⟨hB4, ⟨rfl, v, acc, hch, C4⟩ | ⟨rfl, acc, i, hch, hi, hno⟩⟩
      · have hB04 := hid (hBo.bel.trans (hB4.mono (by omega)))
        have r0 := (hB4.cell (p := ⟨w.heap.size + 1, 0, none⟩) (by dsimp only; omega)).trans hBo.r0
        have r1 := (hB4.cell (p := ⟨w.heap.size + 1, 1, none⟩) (by dsimp only; omega)).trans hBo.r1
        have r2 := (hB4.cell (p := ⟨w.heap.size + 1, 2, none⟩) (by dsimp only; omega)).trans hBo.r2
        have r3 := (hB4.cell (p := ⟨w.heap.size + 1, 3, none⟩) (by dsimp only; omega)).trans hBo.r3
        have f0 := (hB4.frozen (p := ⟨w.heap.size + 1, 0, none⟩) (by dsimp only; omega)).trans hBo.f0
        have f1 := (hB4.frozen (p := ⟨w.heap.size + 1, 1, none⟩) (by dsimp only; omega)).trans hBo.f1
        have f2 := (hB4.frozen (p := ⟨w.heap.size + 1, 2, none⟩) (by dsimp only; omega)).trans hBo.f2
        have f3 := (hB4.frozen (p := ⟨w.heap.size + 1, 3, none⟩) (by dsimp only; omega)).trans hBo.f3
        clear hBo
        have hin := hch.inL
        have hac := hch.le
        have hs4 : w.heap.size + 2 ≤ w4.heap.size := by have := hB4.size; omega
        rw [← hL.out] at hin hac
        go_wp2_with fail
        have hcall := addMoved_any w4 (w.heap.size + 2) cb a len cap l v acc pb mb C4 hL.out (by omega) (fun i h => (hin i h).1) (by omega) hwf hch.within
        go_fit hcall
        clear hcall
        rintro e w5 ⟨hB5, ⟨rfl, ms, hmv, C5⟩ | ⟨rfl, hmv⟩⟩
        · have hB05 := hid (hB04.out.trans (hB5.mono (by omega)))
          have q0 := (hB5.cell (p := ⟨w.heap.size + 1, 0, none⟩) (by dsimp only; omega)).trans r0
          have q1 := (hB5.cell (p := ⟨w.heap.size + 1, 1, none⟩) (by dsimp only; omega)).trans r1
          have q2 := (hB5.cell (p := ⟨w.heap.size + 1, 2, none⟩) (by dsimp only; omega)).trans r2
          have q3 := (hB5.cell (p := ⟨w.heap.size + 1, 3, none⟩) (by dsimp only; omega)).trans r3
          have g0 := (hB5.frozen (p := ⟨w.heap.size + 1, 0, none⟩) (by dsimp only; omega)).trans f0
          have g1 := (hB5.frozen (p := ⟨w.heap.size + 1, 1, none⟩) (by dsimp only; omega)).trans f1
          have g2 := (hB5.frozen (p := ⟨w.heap.size + 1, 2, none⟩) (by dsimp only; omega)).trans f2
          have g3 := (hB5.frozen (p := ⟨w.heap.size + 1, 3, none⟩) (by dsimp only; omega)).trans f3
          clear r0 r1 r2 r3 f0 f1 f2 f3
          have hs5 : w.heap.size + 2 ≤ w5.heap.size := by have := hB5.size; omega
          go_wp2_with fail
          have hcall := hasValues_any w5 (w.heap.size + 2) cb a len cap l v acc pb mb ms C5 hL.out (by omega) hcap hin (by omega) hwf
          go_fit hcall
          clear hcall
          rintro e w6 ⟨rfl, hB6⟩
          have hB06 := hid (hB05.out.trans (hB6.mono (by omega)))
          have r0 := (hB6.cell (p := ⟨w.heap.size + 1, 0, none⟩) (by dsimp only; omega)).trans q0
          have r1 := (hB6.cell (p := ⟨w.heap.size + 1, 1, none⟩) (by dsimp only; omega)).trans q1
          have r2 := (hB6.cell (p := ⟨w.heap.size + 1, 2, none⟩) (by dsimp only; omega)).trans q2
          have r3 := (hB6.cell (p := ⟨w.heap.size + 1, 3, none⟩) (by dsimp only; omega)).trans q3
          have f0 := (hB6.frozen (p := ⟨w.heap.size + 1, 0, none⟩) (by dsimp only; omega)).trans g0
          have f1 := (hB6.frozen (p := ⟨w.heap.size + 1, 1, none⟩) (by dsimp only; omega)).trans g1
          have f2 := (hB6.frozen (p := ⟨w.heap.size + 1, 2, none⟩) (by dsimp only; omega)).trans g2
          have f3 := (hB6.frozen (p := ⟨w.heap.size + 1, 3, none⟩) (by dsimp only; omega)).trans g3
          have C6 := C5.below hB6
          clear q0 q1 q2 q3 g0 g1 g2 g3
          cases hall : acc.all (thB l (plOf acc))
          · have HW := hid (show BadC lim l from Or.inr (Or.inr ⟨acc, hch, Or.inr hall⟩))
            go_wp2_with fail
            refine bodyPost_ret (v := .tuple #[.agg #[.slice none 0 0, .slice none 0 0, .map none, .map none], .int .i64 9]) (by simp [results, Tryz.results43, go_sem, r0, r1, r2, r3]) rfl ⟨?_, Or.inr ⟨rfl, HW.out⟩⟩
            exact below_set4s hB06.out (by omega)
          · have HW := hid (show OkC lim l acc ms from ⟨h1, h2, by rw [← hL.out]; exact h3, hch, hmv, hall⟩)
            have c0 := C6.c0
            have c1 := C6.c1
            have c2 := C6.c2
            have c3 := C6.c3
            obtain ⟨av, capv, hv, _, _⟩ := C6.row.cells
            rw [hv] at c1
            go_wp2_with fail
            refine bodyPost_ret (v := .tuple #[.agg #[.slice a len cap, .slice av acc.length capv, .map (some pb), .map (some mb)], .int .i64 0]) (by simp [results, Tryz.results43, go_sem, r0, r1, r2, r3]) rfl ⟨below_set4s hB06.out (by omega), Or.inl ⟨_, acc, pb, mb, ms, rfl, HW.out, ?_⟩⟩
            rw [← hv]
            have hb := below_set4s (g := w.heap.size + 1) (Below.refl (w.heap.size + 1) w6) (Nat.le_refl _) (x0 := .slice a len cap) (x1 := .slice av acc.length capv) (x2 := .map (some pb)) (x3 := .map (some mb))
            have hV := C6.toV
            refine ChartV.mono (B := w.heap.size + 2) ⟨?_, hV.row.keep (fun b hb' => heap_set4 w6 (by have := (hV.row.own_lt hb').1; omega)), hV.pl.keep (heap_set4 w6 (by have := hV.hpb; omega)), hV.mv.keep (heap_set4 w6 (by have := hV.hmb; omega)), hV.hpb, hV.hmb, hV.n3, hV.n4⟩ (by omega) ((hW.mono hB).below ((below_set4s hB06.out (by omega)).mono (Nat.le_refl _)))
            exact ((hW.mono hB).below (below_set4s hB06.out (by omega))).mono (by omega)
        · have HW := hid (show BadC lim l from Or.inr (Or.inr ⟨acc, hch, Or.inl hmv⟩))
          have hB05 := hid (hB04.out.trans (hB5.mono (by omega)))
          have q0 := (hB5.cell (p := ⟨w.heap.size + 1, 0, none⟩) (by dsimp only; omega)).trans r0
          have q1 := (hB5.cell (p := ⟨w.heap.size + 1, 1, none⟩) (by dsimp only; omega)).trans r1
          have q2 := (hB5.cell (p := ⟨w.heap.size + 1, 2, none⟩) (by dsimp only; omega)).trans r2
          have q3 := (hB5.cell (p := ⟨w.heap.size + 1, 3, none⟩) (by dsimp only; omega)).trans r3
          have g0 := (hB5.frozen (p := ⟨w.heap.size + 1, 0, none⟩) (by dsimp only; omega)).trans f0
          have g1 := (hB5.frozen (p := ⟨w.heap.size + 1, 1, none⟩) (by dsimp only; omega)).trans f1
          have g2 := (hB5.frozen (p := ⟨w.heap.size + 1, 2, none⟩) (by dsimp only; omega)).trans f2
          have g3 := (hB5.frozen (p := ⟨w.heap.size + 1, 3, none⟩) (by dsimp only; omega)).trans f3
          clear r0 r1 r2 r3 f0 f1 f2 f3
          go_wp2_with fail
          refine bodyPost_ret (v := .tuple #[.agg #[.slice none 0 0, .slice none 0 0, .map none, .map none], .int .i64 9]) (by simp [results, Tryz.results43, go_sem, q0, q1, q2, q3]) rfl ⟨?_, Or.inr ⟨rfl, HW.out⟩⟩
          exact below_set4s hB05.out (by omega)
      · have HW := hid (show BadC lim l from Or.inr (Or.inl ⟨acc, i, hch, hi, hno⟩))
        have hB04 := hid (hBo.bel.trans (hB4.mono (by omega)))
        have r0 := (hB4.cell (p := ⟨w.heap.size + 1, 0, none⟩) (by dsimp only; omega)).trans hBo.r0
        have r1 := (hB4.cell (p := ⟨w.heap.size + 1, 1, none⟩) (by dsimp only; omega)).trans hBo.r1
        have r2 := (hB4.cell (p := ⟨w.heap.size + 1, 2, none⟩) (by dsimp only; omega)).trans hBo.r2
        have r3 := (hB4.cell (p := ⟨w.heap.size + 1, 3, none⟩) (by dsimp only; omega)).trans hBo.r3
        have f0 := (hB4.frozen (p := ⟨w.heap.size + 1, 0, none⟩) (by dsimp only; omega)).trans hBo.f0
        have f1 := (hB4.frozen (p := ⟨w.heap.size + 1, 1, none⟩) (by dsimp only; omega)).trans hBo.f1
        have f2 := (hB4.frozen (p := ⟨w.heap.size + 1, 2, none⟩) (by dsimp only; omega)).trans hBo.f2
        have f3 := (hB4.frozen (p := ⟨w.heap.size + 1, 3, none⟩) (by dsimp only; omega)).trans hBo.f3
        clear hBo
        go_wp2_with fail
        refine bodyPost_ret (v := .tuple #[.agg #[.slice none 0 0, .slice none 0 0, .map none, .map none], .int .i64 9]) (by simp [results, Tryz.results43, go_sem, r0, r1, r2, r3]) rfl ⟨?_, Or.inr ⟨rfl, HW.out⟩⟩
        exact below_set4s hB04.out (by omega)
  · have HW := hid (show BadC lim l from Or.inl (by rw [← hL.out]; exact hlims))
    clear hmm hmh
    go_enter Tryz.func43, Tryz.ntmps43
    go_wp2_with fail
    all_goals first
      | (exfalso; omega)
      | (refine bodyPost_ret (v := .tuple #[.agg #[.slice none 0 0, .slice none 0 0, .map none, .map none], .int .i64 9]) (by simp [results, Tryz.results43, go_sem]) rfl ⟨?_, Or.inr ⟨rfl, HW.out⟩⟩
         exact ((Below.refl _ _).alloc (Nat.le_refl _) _).alloc (by simp) _)
end Go.Proofs.YtldmanfgmadbfaaGreatDoor.HH
namespace Go.Proofs.YtldmanfgmadbfaaGreatDoor.HH
set_option maxRecDepth 100000
open Go.RowKit Go.Maps
theorem boxes24 {w w1 : World} {v0 v1 u0 u1 u2 u3 : Value} {t t' : TypeId} (hb : Below (w.heap.size + 2) ((w.alloc (.cells #[v0, v1] t)).alloc (.cells #[u0, u1, u2, u3] t')) w1) :
    (w1.cell? ⟨w.heap.size + 1, 0, none⟩ = some u0 ∧ w1.cell? ⟨w.heap.size + 1, 1, none⟩ = some u1 ∧ w1.cell? ⟨w.heap.size + 1, 2, none⟩ = some u2 ∧ w1.cell? ⟨w.heap.size + 1, 3, none⟩ = some u3) ∧
    (w1.frozen? ⟨w.heap.size + 1, 0, none⟩ = false ∧ w1.frozen? ⟨w.heap.size + 1, 1, none⟩ = false ∧ w1.frozen? ⟨w.heap.size + 1, 2, none⟩ = false ∧ w1.frozen? ⟨w.heap.size + 1, 3, none⟩ = false) := by
  have h : w.heap.size + 1 < w.heap.size + 2 := by omega
  refine ⟨⟨?_, ?_, ?_, ?_⟩, ?_, ?_, ?_, ?_⟩
  · rw [hb.cell (p := ⟨w.heap.size + 1, 0, none⟩) h]; go_simp
  · rw [hb.cell (p := ⟨w.heap.size + 1, 1, none⟩) h]; go_simp
  · rw [hb.cell (p := ⟨w.heap.size + 1, 2, none⟩) h]; go_simp
  · rw [hb.cell (p := ⟨w.heap.size + 1, 3, none⟩) h]; go_simp
  · rw [hb.frozen (p := ⟨w.heap.size + 1, 0, none⟩) h]; go_simp
  · rw [hb.frozen (p := ⟨w.heap.size + 1, 1, none⟩) h]; go_simp
  · rw [hb.frozen (p := ⟨w.heap.size + 1, 2, none⟩) h]; go_simp
  · rw [hb.frozen (p := ⟨w.heap.size + 1, 3, none⟩) h]; go_simp
theorem below_2 (w : World) (o o' : Obj) : Below w.heap.size w ((w.alloc o).alloc o') := ((Below.refl _ _).alloc (Nat.le_refl _) _).alloc (by simp) _
set_option maxHeartbeats 4000000 in
theorem chartFor_any (w : World) (B : Nat) (a : Option Addr) (len cap : Nat) (l : List Wd) (lim : Int) (hW : Wds w B a l) (hB : B ≤ w.heap.size) (hlen : len = l.length) (hcap : len ≤ cap) (hl : len ≤ 9223372036854775807) (hwf : wfL l)
    (a2 : Option Addr) (len2 cap2 : Nat) (l2 : List Wd) (hW2 : Wds w B a2 l2) (hlen2 : len2 = l2.length) (hl2 : len2 ≤ 9223372036854775807) (hwf2 : wfL l2) :
    Calls Tryz.prog 82 #[.agg #[.slice a len cap, .int .i64 lim], .slice a2 len2 cap2] w fun e w' => Below w.heap.size w w' ∧
      ((∃ v acc pb mb ms, e = .returned (.tuple #[.agg #[.slice a len cap, v, .map (some pb), .map (some mb)], .int .i64 0]) ∧ OkC lim l acc ms ∧ allB (plOf acc) l2 = true ∧ ChartV w' w.heap.size a l v acc pb mb ms) ∨
       (e = .returned (.tuple #[.agg #[.slice none 0 0, .slice none 0 0, .map none, .map none], .int .i64 3]) ∧ ∃ acc ms, OkC lim l acc ms ∧ allB (plOf acc) l2 = false) ∨
       (e = .returned (.tuple #[.agg #[.slice none 0 0, .slice none 0 0, .map none, .map none], .int .i64 9]) ∧ BadC lim l)) := by
  have hb0 := hid (below_2 w (.cells #[.slice a len cap, .int .i64 lim] 27) (.cells #[.slice none 0 0, .slice none 0 0, .map none, .map none] 97))
  have HL := hid hlen
  have HL2 := hid hlen2
  clear hlen hlen2
  go_enter Tryz.func82, Tryz.ntmps82
  go_wp2_with fail
  have hcall := newChart_any _ B a len cap l lim (hW.below (hb0.out.mono hB)) (by simp; omega) HL.out hcap hl hwf
  go_fit hcall
  clear hcall
  rintro e w3 ⟨hb3, ⟨v, acc, pb, mb, ms, rfl, hok, hV⟩ | ⟨rfl, hbad⟩⟩
  · have hb3' := hb3.mono (show w.heap.size + 2 ≤ _ by simp)
    clear hb3
    have hz3 : w.heap.size + 2 ≤ w3.heap.size := by have := hb3'.size; simpa using this
    obtain ⟨⟨r0, r1, r2, r3⟩, f0, f1, f2, f3⟩ := boxes24 hb3'
    have hB3 := hid (hb0.out.trans (hb3'.mono (by omega)))
    obtain ⟨av, capv, hv, _, _⟩ := hV.row.cells
    subst hv
    have hrl : w.heap.size + 1 < w3.heap.size := by omega
    go_wp2_with fail
    have CB := ChartV.box (len := len) (cap := cap) hV 97
    obtain ⟨w4, hw4⟩ : ∃ w4, w4 = w3.alloc (.cells #[.slice a len cap, .slice av acc.length capv, .map (some pb), .map (some mb)] 97) := ⟨_, rfl⟩
    rw [← hw4] at CB
    have hb4 : Below w3.heap.size w3 w4 := by rw [hw4]; exact (Below.refl _ _).alloc (Nat.le_refl _) _
    rw [← hw4]
    clear hw4
    have hB4 := hid (hB3.out.trans (hb4.mono (by omega)))
    have hcall := areValues_any w4 _ w3.heap.size a len cap l _ acc pb mb ms CB B a2 len2 cap2 l2 (hW2.below (hB4.out.mono hB)) (by have := hb4.size; omega) HL2.out hl2 hwf2
    go_fit hcall
    clear hcall
    rintro e w5 ⟨rfl, hb5⟩
    have hz4 := hb4.size
    have C5 := CB.below hb5
    have hB5 := hid (hB4.out.trans (hb5.mono (by omega)))
    have q0 := (hb5.cell (p := ⟨w.heap.size + 1, 0, none⟩) (by dsimp only; omega)).trans ((hb4.cell (p := ⟨w.heap.size + 1, 0, none⟩) (by dsimp only; omega)).trans r0)
    have q1 := (hb5.cell (p := ⟨w.heap.size + 1, 1, none⟩) (by dsimp only; omega)).trans ((hb4.cell (p := ⟨w.heap.size + 1, 1, none⟩) (by dsimp only; omega)).trans r1)
    have q2 := (hb5.cell (p := ⟨w.heap.size + 1, 2, none⟩) (by dsimp only; omega)).trans ((hb4.cell (p := ⟨w.heap.size + 1, 2, none⟩) (by dsimp only; omega)).trans r2)
    have q3 := (hb5.cell (p := ⟨w.heap.size + 1, 3, none⟩) (by dsimp only; omega)).trans ((hb4.cell (p := ⟨w.heap.size + 1, 3, none⟩) (by dsimp only; omega)).trans r3)
    have g0 := (hb5.frozen (p := ⟨w.heap.size + 1, 0, none⟩) (by dsimp only; omega)).trans ((hb4.frozen (p := ⟨w.heap.size + 1, 0, none⟩) (by dsimp only; omega)).trans f0)
    have g1 := (hb5.frozen (p := ⟨w.heap.size + 1, 1, none⟩) (by dsimp only; omega)).trans ((hb4.frozen (p := ⟨w.heap.size + 1, 1, none⟩) (by dsimp only; omega)).trans f1)
    have g2 := (hb5.frozen (p := ⟨w.heap.size + 1, 2, none⟩) (by dsimp only; omega)).trans ((hb4.frozen (p := ⟨w.heap.size + 1, 2, none⟩) (by dsimp only; omega)).trans f2)
    have g3 := (hb5.frozen (p := ⟨w.heap.size + 1, 3, none⟩) (by dsimp only; omega)).trans ((hb4.frozen (p := ⟨w.heap.size + 1, 3, none⟩) (by dsimp only; omega)).trans f3)
    have c0 := C5.c0
    have c1 := C5.c1
    have c2 := C5.c2
    have c3 := C5.c3
    clear hb4 hb5 CB r0 r1 r2 r3 f0 f1 f2 f3
    cases hall : allB (plOf acc) l2
    · have HX := hid (show ∃ acc ms, OkC lim l acc ms ∧ allB (plOf acc) l2 = false from ⟨acc, ms, hok, hall⟩)
      go_wp2_with fail
      refine bodyPost_ret (v := .tuple #[.agg #[.slice none 0 0, .slice none 0 0, .map none, .map none], .int .i64 3]) (by simp [results, Tryz.results82, go_sem, q0, q1, q2, q3]) rfl ⟨below_set4s hB5.out (by omega), Or.inr (Or.inl ⟨rfl, HX.out⟩)⟩
    · have HV := hid C5.toV
      simp only [World.size_alloc] at HV
      go_wp2_with fail
      refine bodyPost_ret (v := .tuple #[.agg #[.slice a len cap, .slice av acc.length capv, .map (some pb), .map (some mb)], .int .i64 0]) (by simp [results, Tryz.results82, go_sem, q0, q1, q2, q3]) rfl ⟨below_set4s hB5.out (by omega), Or.inl ⟨_, acc, pb, mb, ms, rfl, hok, hall, ?_⟩⟩
      have hV := HV.out
      have hW' := ((hW.mono hB).below (below_set4s (g := w.heap.size + 1) hB5.out (by omega) (x0 := .slice a len cap) (x1 := .slice av acc.length capv) (x2 := .map (some pb)) (x3 := .map (some mb))))
      exact ChartV.mono (B := w.heap.size + 1 + 1) ⟨hW'.mono (by omega), hV.row.keep (fun b hb' => heap_set4 w5 (by have := (hV.row.own_lt hb').1; omega)), hV.pl.keep (heap_set4 w5 (by have := hV.hpb; omega)), hV.mv.keep (heap_set4 w5 (by have := hV.hmb; omega)), hV.hpb, hV.hmb, hV.n3, hV.n4⟩ (by omega) hW'
  · have hb3' := hb3.mono (show w.heap.size + 2 ≤ _ by simp)
    clear hb3
    have hz3 : w.heap.size + 2 ≤ w3.heap.size := by have := hb3'.size; simpa using this
    obtain ⟨⟨r0, r1, r2, r3⟩, f0, f1, f2, f3⟩ := boxes24 hb3'
    have hB3 := hid (hb0.out.trans (hb3'.mono (by omega)))
    have hrl : w.heap.size + 1 < w3.heap.size := by omega
    go_wp2_with fail
    refine bodyPost_ret (v := .tuple #[.agg #[.slice none 0 0, .slice none 0 0, .map none, .map none], .int .i64 9]) (by simp [results, Tryz.results82, go_sem, hrl, r0, r1, r2, r3]) rfl ⟨?_, Or.inr (Or.inr ⟨rfl, hbad⟩)⟩
    exact (below_set4s hB3.out (by omega)).alloc (by simp; omega) _
end Go.Proofs.YtldmanfgmadbfaaGreatDoor.HH
namespace Go.Proofs.YtldmanfgmadbfaaGreatDoor.HH
set_option maxRecDepth 100000
theorem tRef_of {l : List Wd} {a : Nat} {p : Nat × Nat} (h : tAt l a = some p) : tRef l a = some p := by
  unfold tAt at h
  unfold tRef
  cases hx : l[a]? with
  | none => rw [hx] at h; cases h
  | some x =>
    rw [hx] at h
    dsimp only at h ⊢
    by_cases hp : plainB x.n x.s (headsI x.k) = false
    · rw [if_pos hp] at h; cases h
    · rw [if_neg hp] at h
      have hp' : plainB x.n x.s (headsI x.k) = true := by simpa using hp
      simp only [plainB, Bool.and_eq_true, decide_eq_true_eq] at hp'
      rw [if_pos hp'.2]
      by_cases h6 : x.k = 6
      · simp only [h6, versI, tailT, cntdB, valsI, headsI] at h hp' ⊢
        simp at h hp' ⊢
        exact ⟨by omega, h⟩
      · by_cases h7 : x.k = 7
        · simp only [h7, versI, tailT, cntdB, valsI, headsI] at h hp' ⊢
          simp at h hp' ⊢
          exact ⟨by omega, h⟩
        · by_cases h8 : x.k = 8
          · simp only [h8, versI, tailT, cntdB, valsI, headsI] at h hp' ⊢
            simp at h hp' ⊢
            exact ⟨⟨by simp [inB]; omega, h.1⟩, h.2⟩
          · by_cases h9 : x.k = 9
            · simp only [h9, versI, tailT, cntdB, valsI, headsI] at h hp' ⊢
              simp at h hp' ⊢
              exact ⟨⟨by simp [inB]; omega, h.1, h.2.1⟩, h.2.2⟩
            · by_cases h10 : x.k = 10
              · simp only [h10, versI, tailT, cntdB, valsI, headsI] at h hp' ⊢
                simp at h hp' ⊢
                exact ⟨⟨h.1, h.2.1⟩, h.2.2⟩
              · simp [headsI, h6, h7, h8, h9, h10] at hp'
                omega
theorem tAt_of {l : List Wd} {a : Nat} {p : Nat × Nat} (h : tRef l a = some p) (hm : kindAt l a = 10 → 0 ≤ nInt l a ∧ nInt l a < 60000) : tAt l a = some p := by
  unfold tRef at h
  unfold tAt
  cases hx : l[a]? with
  | none => rw [hx] at h; cases h
  | some x =>
    have hk : kindAt l a = x.k := by unfold kindAt; rw [Int.toNat_natCast, hx]
    have hn : nInt l a = x.n := by unfold nInt; rw [hx]
    rw [hk, hn] at hm
    rw [hx] at h
    dsimp only at h ⊢
    by_cases hs : x.s.size = 0
    · rw [if_pos hs] at h
      by_cases h6 : x.k = 6
      · simp [h6] at h
        rw [if_neg (by simp [plainB, h6, headsI, hs]; omega)]
        simp [h6, versI, tailT, cntdB, valsI]; exact h.2
      · by_cases h7 : x.k = 7
        · simp [h7] at h
          rw [if_neg (by simp [plainB, h7, headsI, hs]; omega)]
          simp [h7, versI, tailT, cntdB, valsI]; exact h.2
        · by_cases h8 : x.k = 8
          · simp [h8, inB] at h
            rw [if_neg (by simp [plainB, h8, headsI, hs]; omega)]
            simp [h8, versI, tailT, cntdB, valsI, h.1.2]; exact h.2
          · by_cases h9 : x.k = 9
            · simp [h9, inB] at h
              rw [if_neg (by simp [plainB, h9, headsI, hs]; omega)]
              simp [h9, versI, tailT, cntdB, valsI, h.1.2]; exact h.2
            · by_cases h10 : x.k = 10
              · have := hm h10
                simp [h10] at h
                rw [if_neg (by simp [plainB, h10, headsI, hs]; omega)]
                simp [h10, versI, tailT, cntdB, valsI, h.1]; exact h.2
              · simp [h6, h7, h8, h9, h10] at h
    · rw [if_neg hs] at h; cases h
theorem Chain.ref {l : List Wd} {acc : List Th} {a : Nat} (h : Chain l acc a) : ChainR l acc a := by
  induction h with
  | nil => exact ChainR.nil
  | snoc h1 h2 h3 ih => exact ChainR.snoc ih h2 (tRef_of h3)
/-- So many steps. -/
def runR (l : List Wd) : Nat → Option (List Th × Nat)
  | 0 => some ([], 0)
  | n + 1 => (runR l n).bind fun p => if p.2 < l.length then (tRef l p.2).map fun q => (p.1 ++ [⟨p.2, q.1, q.2⟩], q.2) else none
theorem ChainR.run {l : List Wd} {acc : List Th} {a : Nat} (h : ChainR l acc a) : runR l acc.length = some (acc, a) := by
  induction h with
  | nil => rfl
  | snoc h1 h2 h3 ih => simp [runR, ih, h2, h3]
theorem runR_end {l : List Wd} {n : Nat} (h : runR l n = none) : ∀ k, runR l (n + k) = none
  | 0 => h
  | k + 1 => by rw [show n + (k + 1) = (n + k) + 1 by omega]; simp [runR, runR_end h k]
theorem runR_pre {l : List Wd} {n : Nat} {p : List Th × Nat} (h : runR l n = some p) : ∀ k q, runR l (n + k) = some q → p.1 <+: q.1
  | 0, q, hq => by rw [Nat.add_zero, h] at hq; injection hq with hq; subst hq; exact List.prefix_refl _
  | k + 1, q, hq => by
    rw [show n + (k + 1) = (n + k) + 1 by omega] at hq
    cases hr : runR l (n + k) with
    | none => simp [runR, hr] at hq
    | some r =>
      have ih := runR_pre h k r hr
      simp only [runR, hr, Option.bind_some] at hq
      split at hq
      · cases ht : tRef l r.2 with
        | none => simp [ht] at hq
        | some x => simp [ht] at hq; subst hq; exact ih.trans (List.prefix_append _ _)
      · cases hq
theorem ChainR.full {l : List Wd} {acc : List Th} (h : ChainR l acc l.length) : runR l (acc.length + 1) = none := by simp [runR, h.run]
theorem ChainR.stuck {l : List Wd} {acc : List Th} {i : Nat} (h : ChainR l acc i) (ht : tRef l i = none) : runR l (acc.length + 1) = none := by simp [runR, h.run, ht]
theorem ChainR.le_of_end {l : List Wd} {acc acc' : List Th} {a a' : Nat} (h : ChainR l acc a) (_h' : ChainR l acc' a') (he : runR l (acc'.length + 1) = none) : acc.length ≤ acc'.length := by
  rcases Nat.lt_or_ge acc'.length acc.length with h1 | h1
  · have := runR_end he (acc.length - (acc'.length + 1))
    rw [show acc'.length + 1 + (acc.length - (acc'.length + 1)) = acc.length by omega, h.run] at this
    cases this
  · exact h1
theorem ChainR.same {l : List Wd} {acc acc' : List Th} {a a' : Nat} (h : ChainR l acc a) (h' : ChainR l acc' a') (he : runR l (acc.length + 1) = none) (he' : runR l (acc'.length + 1) = none) : acc = acc' ∧ a = a' := by
  have e : acc.length = acc'.length := Nat.le_antisymm (h.le_of_end h' he') (h'.le_of_end h he)
  have := h.run
  rw [e, h'.run] at this
  injection this with this
  injection this with e1 e2
  exact ⟨e1.symm, e2.symm⟩
theorem ChainR.pre {l : List Wd} {acc acc' : List Th} {a : Nat} (h : ChainR l acc a) (h' : ChainR l acc' l.length) : acc <+: acc' := by
  have hle := h.le_of_end h' h'.full
  have := runR_pre h.run (acc'.length - acc.length) (acc', l.length) (by rw [show acc.length + (acc'.length - acc.length) = acc'.length by omega]; exact h'.run)
  exact this
theorem ChainR.inc {l : List Wd} {acc : List Th} {a : Nat} (h : ChainR l acc a) : acc.Pairwise (fun x y => x.h < y.h) ∧ ∀ t, t ∈ acc → t.h < a := by
  induction h with
  | nil => exact ⟨List.Pairwise.nil, fun t ht => by cases ht⟩
  | snoc h1 h2 h3 ih =>
    have := tRef_le h3
    refine ⟨List.pairwise_append.2 ⟨ih.1, List.pairwise_singleton _ _, fun x hx y hy => ?_⟩, fun t ht => ?_⟩
    · simp at hy; subst hy; exact ih.2 x hx
    · rcases List.mem_append.1 ht with h | h
      · have := ih.2 t h; omega
      · simp at h; subst h; dsimp only; omega
end Go.Proofs.YtldmanfgmadbfaaGreatDoor.HH
