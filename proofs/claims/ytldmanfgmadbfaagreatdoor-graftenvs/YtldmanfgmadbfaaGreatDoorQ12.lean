/- The way goes on behind an instruction: vm's goOn. -/
import Derived.Test.YtldmanfgmadbfaaGreatDoorQ11
import Derived.RegionTactic
import Derived.Deep.RegionWith
namespace Go.Proofs.YtldmanfgmadbfaaGreatDoor
set_option maxRecDepth 100000
open HH UU VV
open Go.RowKit Go.Maps Go.WideMaps
set_option maxHeartbeats 2000000 in
theorem goOn_any (w : World) (y g cap n k op : Nat) (ca : Option Addr) (hs : List Int) (a b : Int) (s t : ByteArray) (x : Wd) (hY : WaysAt w y g ca cap n) (hH : Hgt w g hs) (hn : hs.length = n) (hm : n ≤ 6000) (hk : k < n) (hop : op ≤ 22) (hE : EffAt w) :
    Calls Tryz.prog 83 #[.pointer (some ⟨y, 0, none⟩), .int .i64 k, .agg #[.int .i64 op, .int .i64 a, .int .i64 b, .string s, .string t, .int .i64 x.k, .int .i64 x.n, .string x.s]] w fun e w' => CameR (goI hs k ⟨op, a, b, s, t, x⟩) g n w.heap.size w e w' := by
  have hkl : k < hs.length := by omega
  obtain ⟨d0, _⟩ := hH k hkl
  have hgd := getD_at hkl
  obtain ⟨e0, e1, e2, e3, e4, _⟩ := hE.at_ op hop
  have hG : goI hs k ⟨op, a, b, s, t, x⟩ = (if IntKind.i64.wrap (IntKind.i64.wrap (IntKind.i64.wrap (hs[k] - (effAt op).takes) - IntKind.i64.wrap ((effAt op).byA * a)) - IntKind.i64.wrap ((effAt op).byB * b)) < 0 then none
    else if 6000 < IntKind.i64.wrap (IntKind.i64.wrap (IntKind.i64.wrap (IntKind.i64.wrap (hs[k] - (effAt op).takes) - IntKind.i64.wrap ((effAt op).byA * a)) - IntKind.i64.wrap ((effAt op).byB * b)) + (effAt op).leaves) then none
    else if (effAt op).goes = 3 then some hs
    else if (effAt op).goes = 1 then comeI hs k a (IntKind.i64.wrap (IntKind.i64.wrap (IntKind.i64.wrap (IntKind.i64.wrap (hs[k] - (effAt op).takes) - IntKind.i64.wrap ((effAt op).byA * a)) - IntKind.i64.wrap ((effAt op).byB * b)) + (effAt op).leaves))
    else if (effAt op).goes = 2 then (comeI hs k a (IntKind.i64.wrap (IntKind.i64.wrap (IntKind.i64.wrap (IntKind.i64.wrap (hs[k] - (effAt op).takes) - IntKind.i64.wrap ((effAt op).byA * a)) - IntKind.i64.wrap ((effAt op).byB * b)) + (effAt op).leaves))).bind fun hs' => comeI hs' k (k + 1) (IntKind.i64.wrap (IntKind.i64.wrap (IntKind.i64.wrap (IntKind.i64.wrap (hs[k] - (effAt op).takes) - IntKind.i64.wrap ((effAt op).byA * a)) - IntKind.i64.wrap ((effAt op).byB * b)) + (effAt op).leaves))
    else comeI hs k (k + 1) (IntKind.i64.wrap (IntKind.i64.wrap (IntKind.i64.wrap (IntKind.i64.wrap (hs[k] - (effAt op).takes) - IntKind.i64.wrap ((effAt op).byA * a)) - IntKind.i64.wrap ((effAt op).byB * b)) + (effAt op).leaves))) := by
    unfold goI leftI tookI
    rw [hgd]
  generalize (effAt op).takes = tk at e0 hG
  generalize (effAt op).byA = ba at e1 hG
  generalize (effAt op).byB = bb at e2 hG
  generalize (effAt op).leaves = lv at e3 hG
  generalize (effAt op).goes = gs at e4 hG
  generalize hs[k] = h0 at d0 hG
  obtain ⟨q1, hq1⟩ : ∃ q, IntKind.i64.wrap (h0 - tk) = q := ⟨_, rfl⟩
  obtain ⟨q2, hq2⟩ : ∃ q, IntKind.i64.wrap (ba * a) = q := ⟨_, rfl⟩
  obtain ⟨q3, hq3⟩ : ∃ q, IntKind.i64.wrap (q1 - q2) = q := ⟨_, rfl⟩
  obtain ⟨q4, hq4⟩ : ∃ q, IntKind.i64.wrap (bb * b) = q := ⟨_, rfl⟩
  obtain ⟨T, hq5⟩ : ∃ q, IntKind.i64.wrap (q3 - q4) = q := ⟨_, rfl⟩
  obtain ⟨L, hq6⟩ : ∃ q, IntKind.i64.wrap (T + lv) = q := ⟨_, rfl⟩
  rw [hq1, hq2, hq3, hq4, hq5, hq6] at hG
  have hlt := hE.lt
  have hyl := hY.lt
  have hgl := hY.glt
  have c0 := hY.c0
  have c1 := hY.c1
  have hop2 : (op : Int) < 23 := by omega
  have hkn : (k : Int) < n := by omega
  obtain ⟨w1, hw1⟩ : ∃ w1, w1 = (w.alloc (.cells #[.int .i64 op, .int .i64 a, .int .i64 b, .string s, .string t, .int .i64 x.k, .int .i64 x.n, .string x.s] 89)).alloc (.cells #[.int .i64 tk, .int .i64 ba, .int .i64 bb, .int .i64 lv, .int .i64 gs, .bool (effAt op).inMove] 153) := ⟨_, rfl⟩
  have hb1 : Below w.heap.size w w1 := by rw [hw1]; exact below_2 _ _ _
  have hz1 : w1.heap.size = w.heap.size + 2 := by rw [hw1]; simp
  have bi : w1.cell? ⟨w.heap.size, 1, none⟩ = some (.int .i64 a) ∧ w1.cell? ⟨w.heap.size, 2, none⟩ = some (.int .i64 b) := by
    rw [hw1]; refine ⟨?_, ?_⟩ <;> go_simp
  have bx : w1.cell? ⟨w.heap.size + 1, 0, none⟩ = some (.int .i64 tk) ∧ w1.cell? ⟨w.heap.size + 1, 1, none⟩ = some (.int .i64 ba) ∧ w1.cell? ⟨w.heap.size + 1, 2, none⟩ = some (.int .i64 bb) ∧ w1.cell? ⟨w.heap.size + 1, 3, none⟩ = some (.int .i64 lv) ∧ w1.cell? ⟨w.heap.size + 1, 4, none⟩ = some (.int .i64 gs) := by
    rw [hw1]; refine ⟨?_, ?_, ?_, ?_, ?_⟩ <;> go_simp
  have f1 := (hb1.cell (p := ⟨y, 1, none⟩) hyl).trans c1
  have g0 := (hb1.cell (p := ⟨g, k, none⟩) hgl).trans d0
  obtain ⟨bi1, bi2⟩ := bi
  obtain ⟨bx0, bx1, bx2, bx3, bx4⟩ := bx
  have HY1 := hid (hY.keep (KpB.of hb1 (Nat.le_refl _)))
  have HH1 := hid (hH.kept (hb1.block g hgl))
  have HK1 := hid (KpB.of (N := w.heap.size) (g := g) hb1 (Nat.le_refl _))
  have HN := hid hn
  have HG := hid hG
  have HZ := hid hz1
  have H1 := hid hw1
  clear hw1 hb1 hz1 hY hH hn hG hE hgd
  go_enter Tryz.func83, Tryz.ntmps83
  go_wp2_with fail
  rw [← H1.out]
  go_region
  have HY2 : Hid (WaysAt w1.drew y g ca cap n) := hid ⟨HY1.out.lt, HY1.out.glt, HY1.out.ne, HY1.out.c0, HY1.out.c1⟩
  have HH2 : Hid (Hgt w1.drew g hs) := HH1
  have HK2 : Hid (KpB w.heap.size g w w1.drew) := hid ⟨HK1.out.os, HK1.out.tape, HK1.out.output, HK1.out.size, HK1.out.block⟩
  have HZ2 : Hid (w.heap.size ≤ w1.drew.heap.size) := hid (by have := HZ.out; simp; omega)
  clear HY1 HH1 HK1 c0 c1 hq1 hq2 hq3 hq4 hq5
  by_cases hT : T < 0
  · have HR := hid (show goI hs k ⟨op, a, b, s, t, x⟩ = none by rw [HG.out, if_pos hT])
    clear HG
    go_wp2_with fail
    go_ret
    exact CameR.no HR.out HN.out HH2.out HK2.out
  · by_cases hL : 6000 < L
    · have HR := hid (show goI hs k ⟨op, a, b, s, t, x⟩ = none by rw [HG.out, if_neg hT, if_pos hL])
      clear HG
      go_wp2_with fail
      go_ret
      exact CameR.no HR.out HN.out HH2.out HK2.out
    · have HG2 := hid (by have := HG.out; rw [if_neg hT, if_neg hL] at this; exact this)
      clear HG
      by_cases h3 : gs = 3
      · subst h3
        have HR := hid (show goI hs k ⟨op, a, b, s, t, x⟩ = some hs by rw [HG2.out, if_pos rfl])
        clear HG2
        go_wp2_with fail
        go_ret
        exact CameR.yes HR.out HN.out HH2.out HK2.out
      · have h3b : (gs == 3) = false := by simp [h3]
        by_cases h1 : gs = 1
        · subst h1
          have HR := hid (show goI hs k ⟨op, a, b, s, t, x⟩ = comeI hs k a L by rw [HG2.out, if_neg h3, if_pos rfl])
          clear HG2 h3
          go_wp2_with fail
          have hcall := come_any w1.drew y g cap n k ca hs a L HY2.out HH2.out HN.out (by omega)
          go_fit hcall
          clear hcall
          rintro e w2 ⟨r, hs', rfl, ho, hn', hH', hk'⟩
          have HC := hid (show CameR (goI hs k ⟨op, a, b, s, t, x⟩) g n w.heap.size w (.returned (.bool r)) w2 from ⟨r, hs', rfl, HR.out.trans ho, hn', hH', HK2.out.trans (hk'.mono HZ2.out)⟩)
          clear ho hn' hH' hk'
          go_wp2_with fail
          go_ret
          exact HC.out
        · have h1b : (gs == 1) = false := by simp [h1]
          by_cases h2 : gs = 2
          · subst h2
            have HR := hid (show goI hs k ⟨op, a, b, s, t, x⟩ = (comeI hs k a L).bind fun hs' => comeI hs' k (k + 1) L by rw [HG2.out, if_neg h3, if_neg h1, if_pos rfl])
            clear HG2 h3 h1
            go_wp2_with fail
            have hcall := come_any w1.drew y g cap n k ca hs a L HY2.out HH2.out HN.out (by omega)
            go_fit hcall
            clear hcall
            rintro e w2 ⟨r, hs', rfl, ho, hn', hH', hk'⟩
            cases r
            · have HC := hid (show CameR (goI hs k ⟨op, a, b, s, t, x⟩) g n w.heap.size w (.returned (.bool false)) w2 from CameR.no (HR.out.trans (by rw [ho]; rfl)) hn' hH' (HK2.out.trans (hk'.mono HZ2.out)))
              clear ho hn' hH' hk'
              go_wp2_with fail
              go_ret
              exact HC.out
            · have HO := hid ho
              have HN' := hid hn'
              have HH' := hid hH'
              have HZ3 := hid (Nat.le_trans HZ2.out hk'.size)
              have HK' := hid (HK2.out.trans (hk'.mono HZ2.out))
              have HY' := hid (HY2.out.keep hk')
              clear ho hn' hH' hk'
              go_wp2_with fail
              have hcall := come_any w2 y g cap n k ca hs' ((k : Int) + 1) L HY'.out HH'.out HN'.out (by omega)
              go_fit hcall
              clear hcall
              rintro e w3 ⟨r, hs'', rfl, ho, hn', hH', hk'⟩
              have HC := hid (show CameR (goI hs k ⟨op, a, b, s, t, x⟩) g n w.heap.size w (.returned (.bool r)) w3 from ⟨r, hs'', rfl, HR.out.trans (by rw [HO.out]; exact ho), hn', hH', HK'.out.trans (hk'.mono HZ3.out)⟩)
              clear ho hn' hH' hk'
              go_wp2_with fail
              go_ret
              exact HC.out
          · have h2b : (gs == 2) = false := by simp [h2]
            have HR := hid (show goI hs k ⟨op, a, b, s, t, x⟩ = comeI hs k (k + 1) L by rw [HG2.out, if_neg h3, if_neg h1, if_neg h2])
            clear HG2 h3 h1 h2
            go_wp2_with fail
            have hcall := come_any w1.drew y g cap n k ca hs ((k : Int) + 1) L HY2.out HH2.out HN.out (by omega)
            go_fit hcall
            clear hcall
            rintro e w2 ⟨r, hs', rfl, ho, hn', hH', hk'⟩
            have HC := hid (show CameR (goI hs k ⟨op, a, b, s, t, x⟩) g n w.heap.size w (.returned (.bool r)) w2 from ⟨r, hs', rfl, HR.out.trans ho, hn', hH', HK2.out.trans (hk'.mono HZ2.out)⟩)
            clear ho hn' hH' hk'
            go_wp2_with fail
            go_ret
            exact HC.out
end Go.Proofs.YtldmanfgmadbfaaGreatDoor
