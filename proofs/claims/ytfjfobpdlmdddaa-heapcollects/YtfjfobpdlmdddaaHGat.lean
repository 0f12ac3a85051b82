/- The document brings a value along: (*gathered).bring. -/
import Derived.Test.YtfjfobpdlmdddaaHGatP
import Derived.Test.YtfjfobpdlmdddaaHFind
import Derived.BigQuiet
namespace Go.Proofs.Ytfjfobpdlmdddaa
set_option maxRecDepth 100000
open Go.RowKit Go.Maps
theorem gat_tref {lim : Int} {l : List Wd} {acc : List Th} {ms : List (Int × Int)} (hok : OkC lim l acc ms) {t : Th} (ht : t ∈ acc) : tRef l t.h = some (t.f, t.e) := (hok.chain.ref.mem t ht).2
theorem new1v (w : World) (u0 : Value) (ty : TypeId) : ∀ j u, [u0][j]? = some u → (w.alloc (.cells #[u0] ty)).cell? ((⟨w.heap.size, 0, none⟩ : Addr).add j) = some u := fun j u hj => by
  have hadd : (⟨w.heap.size, 0, none⟩ : Addr).add j = ⟨w.heap.size, j, none⟩ := by unfold Addr.add; split <;> simp_all
  rw [hadd, World.cell?_alloc_at _ _ _ j (by simp)]
  simpa using hj
/-- Ahead of the words: the places of a new thing are noted. -/
structure GNote (wa wx : World) (B gb : Nat) (a : Option Addr) (len cap : Nat) (l : List Wd) (vw vi u : Value) (P Q : List Int) (W : List Wd) (vw' vi' : Value) : Prop where
  M : GatM wx B gb a len cap l vw' vi' u P Q W
  bel : Below B wa wx
  keep : ∀ b, b < wa.heap.size → ¬ b = gb → ¬ vw.ownBlock = some b → ¬ vi.ownBlock = some b → wx.heap[b]? = wa.heap[b]?
  ow : ∀ g, vw'.ownBlock = some g → vw.ownBlock = some g ∨ wa.heap.size ≤ g
  oi : ∀ g, vi'.ownBlock = some g → vi.ownBlock = some g ∨ wa.heap.size ≤ g
section
variable {wa wx wy : World} {B gb : Nat} {a : Option Addr} {len cap : Nat} {l : List Wd} {vw vi u vw' vi' vw2 vi2 : Value} {P Q P2 Q2 : List Int} {W : List Wd}
theorem GNote.trans (h : GNote wa wx B gb a len cap l vw vi u P Q W vw' vi') (k : GNote wx wy B gb a len cap l vw' vi' u P2 Q2 W vw2 vi2) : GNote wa wy B gb a len cap l vw vi u P2 Q2 W vw2 vi2 := by
  have hz := h.bel.size
  refine ⟨k.M, h.bel.trans k.bel, fun b h1 h2 h3 h4 => (k.keep b (by omega) h2 (fun e => ?_) (fun e => ?_)).trans (h.keep b h1 h2 h3 h4), fun g hg => ?_, fun g hg => ?_⟩
  · rcases h.ow b e with h5 | h5
    · exact h3 h5
    · omega
  · rcases h.oi b e with h5 | h5
    · exact h4 h5
    · omega
  · rcases k.ow g hg with h5 | h5
    · exact h.ow g h5
    · exact Or.inr (by omega)
  · rcases k.oi g hg with h5 | h5
    · exact h.oi g h5
    · exact Or.inr (by omega)
theorem GNote.below {w0 : World} (h : GatM w0 B gb a len cap l vw vi u P Q W) (hb : Below w0.heap.size w0 wa) : GNote w0 wa B gb a len cap l vw vi u P Q W vw vi :=
  ⟨h.below hb, hb.mono (by have := h.hgb; have := h.lt; omega), fun b h1 _ _ _ => hb.block b h1, fun g hg => Or.inl hg, fun g hg => Or.inl hg⟩
end
theorem WdL.less {w : World} {B B' : Nat} {v : Value} {l : List Wd} (h : WdL w B v l) (hB : B' ≤ B) : WdL w B' v l := by
  rcases h with ⟨e0, he⟩
  rcases he with ⟨e1, e2⟩ | ⟨g, cap, cur, e1, hb, hc⟩
  · exact ⟨e0, Or.inl ⟨e1, e2⟩⟩
  · exact ⟨e0, Or.inr ⟨g, cap, cur, e1, by omega, hc⟩⟩
section
variable {wa wb w3 : World} {B gb : Nat} {a : Option Addr} {len cap : Nat} {l : List Wd} {vw vi u : Value} {P Q : List Int} {W : List Wd}
theorem gnote1 (h : GatM wa B gb a len cap l vw vi u P Q W) (hb : Below wa.heap.size wa wb) {x : Int} {g cap3 n : Nat} (hown : IntL w3 B (.slice (some ⟨g, 0, none⟩) n cap3) (P ++ [x])) (hg : wb.grownBy w3 vw.ownBlock) (hat : vw.ownBlock = some g ∨ g = wb.heap.size) :
    GNote wa (w3.setCell ⟨gb, 1, none⟩ (.slice (some ⟨g, 0, none⟩) n cap3)) B gb a len cap l vw vi u (P ++ [x]) Q W (.slice (some ⟨g, 0, none⟩) n cap3) vi := by
  obtain ⟨h1, h2, h3⟩ := (h.below hb).grow1 hown hg hat
  have hz := hb.size
  exact (GNote.below h hb).trans ⟨h1, h2, fun b q1 q2 q3 _ => h3 b q1 q2 q3, fun g' hg' => (by simp [Value.ownBlock] at hg'; subst hg'; rcases hat with e | e; exact Or.inl e; exact Or.inr (by omega)), fun g' hg' => Or.inl hg'⟩
theorem gnote2 (h : GatM wa B gb a len cap l vw vi u P Q W) (hb : Below wa.heap.size wa wb) {x : Int} {g cap3 n : Nat} (hown : IntL w3 B (.slice (some ⟨g, 0, none⟩) n cap3) (Q ++ [x])) (hg : wb.grownBy w3 vi.ownBlock) (hat : vi.ownBlock = some g ∨ g = wb.heap.size) :
    GNote wa (w3.setCell ⟨gb, 2, none⟩ (.slice (some ⟨g, 0, none⟩) n cap3)) B gb a len cap l vw vi u P (Q ++ [x]) W vw (.slice (some ⟨g, 0, none⟩) n cap3) := by
  obtain ⟨h1, h2, h3⟩ := (h.below hb).grow2 hown hg hat
  have hz := hb.size
  exact (GNote.below h hb).trans ⟨h1, h2, fun b q1 q2 _ q3 => h3 b q1 q2 q3, fun g' hg' => Or.inl hg', fun g' hg' => (by simp [Value.ownBlock] at hg'; subst hg'; rcases hat with e | e; exact Or.inl e; exact Or.inr (by omega))⟩
theorem far_cell (h : GatM wa B gb a len cap l vw vi u P Q W) (hb : Below wa.heap.size wa wb) {v : Value} (hv : v = vw ∨ v = vi) (hg : wb.grownBy w3 v.ownBlock) : w3.heap[gb]? = wa.heap[gb]? := by
  have hz := hb.size
  have hl := h.lt
  rw [hg.block gb (by omega) (fun e => by rcases hv with rfl | rfl; exact (h.n1 gb e.symm).1 rfl; exact (h.n2 gb e.symm).1 rfl)]
  exact hb.block gb hl
end
theorem fin4' (W : World) (g : Nat) (y0 y1 y2 : Value) : (∀ b, ¬ b = g + 1 → (((W.setCell ⟨g + 1, 0, none⟩ y0).setCell ⟨g + 1, 1, none⟩ y1).setCell ⟨g + 1, 2, none⟩ y2).heap[b]? = W.heap[b]?) ∧ ∀ B, B ≤ g + 1 → Below B W (((W.setCell ⟨g + 1, 0, none⟩ y0).setCell ⟨g + 1, 1, none⟩ y1).setCell ⟨g + 1, 2, none⟩ y2) := by
  refine ⟨fun b h2 => ?_, fun B hB => below_set3s (Below.refl _ _) hB⟩
  rw [Below.heap_setCell _ _ _ _ h2, Below.heap_setCell _ _ _ _ h2, Below.heap_setCell _ _ _ _ h2]
set_option maxHeartbeats 4000000 in
theorem gbring_any (w : World) (B gb : Nat) (a : Option Addr) (len cap : Nat) (l : List Wd) (vw vi u : Value) (st : Br) (lim : Int) (acc : List Th) (ms : List (Int × Int)) (hM : GatM w B gb a len cap l vw vi u (kys st.nw) (vls st.nw) st.ws) (hok : OkC lim l acc ms) (hlen : len = l.length) (hcap : len ≤ cap) (hws : st.ws.length ≤ 60000) (hnw : st.nw.length ≤ 60000) (hnd : (st.nw.map (·.1)).Nodup) (k n : Int) (s : ByteArray) (hs : k = 5 → s.size = 0 ∧ hasI (plOf acc) n = true) :
    Calls Try.prog 30 #[.pointer (some ⟨gb, 0, none⟩), .agg #[.int .i64 k, .int .i64 n, .string s]] w fun e w' => e = .returned (.agg #[.int .i64 (brg l ms st ⟨k, n, s⟩).2.k, .int .i64 (brg l ms st ⟨k, n, s⟩).2.n, .string (brg l ms st ⟨k, n, s⟩).2.s]) ∧ Below B w w' ∧ (∃ vw' vi' u', GatM w' B gb a len cap l vw' vi' u' (kys (brg l ms st ⟨k, n, s⟩).1.nw) (vls (brg l ms st ⟨k, n, s⟩).1.nw) (brg l ms st ⟨k, n, s⟩).1.ws ∧ (∀ g, vw'.ownBlock = some g → vw.ownBlock = some g ∨ w.heap.size ≤ g) ∧ (∀ g, vi'.ownBlock = some g → vi.ownBlock = some g ∨ w.heap.size ≤ g) ∧ ∀ g, u'.ownBlock = some g → u.ownBlock = some g ∨ w.heap.size ≤ g) ∧ ∀ b, b < w.heap.size → ¬ b = gb → ¬ vw.ownBlock = some b → ¬ vi.ownBlock = some b → w'.heap[b]? = w.heap[b]? := by
  have HL := hid hlen
  clear hlen
  have bx := boxes33 w (.int .i64 k) (.int .i64 n) (.string s) (.int .i64 0) (.int .i64 0) (.string ⟨#[]⟩) 37 37
  obtain ⟨w1, hw1⟩ : ∃ w1, w1 = (w.alloc (.cells #[.int .i64 k, .int .i64 n, .string s] 37)).alloc (.cells #[.int .i64 0, .int .i64 0, .string ⟨#[]⟩] 37) := ⟨_, rfl⟩
  have hb1 : Below w.heap.size w w1 := by rw [hw1]; exact below_2 _ _ _
  have hz1 : w1.heap.size = w.heap.size + 2 := by rw [hw1]; simp
  rw [← hw1] at bx
  have M1 := hM.below hb1
  have HFd := hid (fun w' (hb : Below w1.heap.size w1 w') => (where_any w' B a len cap l (M1.below hb).wds (by have := hb.size; have := hM.hgb; have := hM.lt; omega) HL.out acc ms hok.ways k n s hs).mono (fun e w'' h => (⟨h.1, hb.trans (h.2.mono hb.size)⟩ : e = .returned (.agg #[.int .i64 k, .int .i64 (atI ms k n), .string s]) ∧ Below w1.heap.size w1 w'')))
  obtain ⟨⟨t0, t1, t2⟩, ⟨r0, r1, r2⟩, ⟨f0, f1, f2⟩, g0, g1, g2⟩ := bx
  have hl0 : w.heap.size < w1.heap.size := by omega
  have hl1 : w.heap.size + 1 < w1.heap.size := by omega
  have hlg : gb < w1.heap.size := M1.lt
  have HQ := hid (fun w' (hb : Below w1.heap.size w1 w') => (⟨(hb.cell (p := ⟨w.heap.size, 0, none⟩) hl0).trans t0, (hb.cell (p := ⟨w.heap.size, 1, none⟩) hl0).trans t1, (hb.cell (p := ⟨w.heap.size, 2, none⟩) hl0).trans t2, (hb.cell (p := ⟨w.heap.size + 1, 0, none⟩) hl1).trans r0, (hb.cell (p := ⟨w.heap.size + 1, 1, none⟩) hl1).trans r1, (hb.cell (p := ⟨w.heap.size + 1, 2, none⟩) hl1).trans r2⟩ : w'.cell? ⟨w.heap.size, 0, none⟩ = some (.int .i64 k) ∧ w'.cell? ⟨w.heap.size, 1, none⟩ = some (.int .i64 n) ∧ w'.cell? ⟨w.heap.size, 2, none⟩ = some (.string s) ∧ w'.cell? ⟨w.heap.size + 1, 0, none⟩ = some (.int .i64 0) ∧ w'.cell? ⟨w.heap.size + 1, 1, none⟩ = some (.int .i64 0) ∧ w'.cell? ⟨w.heap.size + 1, 2, none⟩ = some (.string ⟨#[]⟩)))
  have HG := hid (fun w' (hb : Below w1.heap.size w1 w') => (⟨(hb.frozen (p := ⟨w.heap.size, 0, none⟩) hl0).trans f0, (hb.frozen (p := ⟨w.heap.size, 1, none⟩) hl0).trans f1, (hb.frozen (p := ⟨w.heap.size, 2, none⟩) hl0).trans f2, (hb.frozen (p := ⟨w.heap.size + 1, 0, none⟩) hl1).trans g0, (hb.frozen (p := ⟨w.heap.size + 1, 1, none⟩) hl1).trans g1, (hb.frozen (p := ⟨w.heap.size + 1, 2, none⟩) hl1).trans g2⟩ : w'.frozen? ⟨w.heap.size, 0, none⟩ = false ∧ w'.frozen? ⟨w.heap.size, 1, none⟩ = false ∧ w'.frozen? ⟨w.heap.size, 2, none⟩ = false ∧ w'.frozen? ⟨w.heap.size + 1, 0, none⟩ = false ∧ w'.frozen? ⟨w.heap.size + 1, 1, none⟩ = false ∧ w'.frozen? ⟨w.heap.size + 1, 2, none⟩ = false))
  have c0 := M1.c0
  have H1 := hid hw1
  have HB1 := hid hb1
  have HM := hid hM
  have HZ1 := hid hz1
  have HOk := hid hok
  clear hw1 hb1 hM M1 hz1 r0 r1 r2 f0 f1 f2 g0 g1 g2 hl0 hl1
  go_enter Try.func30, Try.ntmps30
  go_upto_region 1 with fail
  rw [← H1.out]
  go_cut [] (fun wx => ∃ w2, Below w1.heap.size w1 w2 ∧ wx = ((w2.setCell ⟨w.heap.size, 0, none⟩ (.int .i64 k)).setCell ⟨w.heap.size, 1, none⟩ (.int .i64 (atI ms k n))).setCell ⟨w.heap.size, 2, none⟩ (.string s))
  case first =>
    go_region_with (go_at_call 46; refine (HFd.out _ (by first | exact bdrew (Below.refl _ _) 1 | exact Below.refl _ _)).mono ?_; rintro e w2 ⟨rfl, hb2⟩; obtain ⟨q0, q1, q2, _, _, _⟩ := HQ.out _ hb2; obtain ⟨i0, i1, i2, _, _, _⟩ := HG.out _ hb2)
    all_goals (go_wp2_with fail; go_meet)
    all_goals exact ⟨w2, hb2, rfl⟩
  case rest =>
    obtain ⟨w2, hb2, hwc⟩ := hcut
    have hz1 := HZ1.out
    have hz2 := hb2.size
    obtain ⟨q0, q1, q2, y0, y1, y2⟩ := HQ.out _ hb2
    obtain ⟨i0, i1, i2, z0, z1, z2⟩ := HG.out _ hb2
    have hzc : wc.heap.size = w2.heap.size := by rw [hwc]; simp
    have hbc : Below w.heap.size w wc := by rw [hwc]; exact below_set3s (HB1.out.trans (hb2.mono (by omega))) (Nat.le_refl _)
    have Mc := HM.out.below hbc
    have p0 : wc.cell? ⟨w.heap.size, 0, none⟩ = some (.int .i64 k) := by rw [hwc]; simp [go_sem, q0]
    have p1 : wc.cell? ⟨w.heap.size, 1, none⟩ = some (.int .i64 (atI ms k n)) := by rw [hwc]; simp [go_sem, q1]
    have p2 : wc.cell? ⟨w.heap.size, 2, none⟩ = some (.string s) := by rw [hwc]; simp [go_sem, q2]
    have e0 : wc.cell? ⟨w.heap.size + 1, 0, none⟩ = some (.int .i64 0) := by rw [hwc]; simp [go_sem, y0]
    have e1 : wc.cell? ⟨w.heap.size + 1, 1, none⟩ = some (.int .i64 0) := by rw [hwc]; simp [go_sem, y1]
    have e2 : wc.cell? ⟨w.heap.size + 1, 2, none⟩ = some (.string ⟨#[]⟩) := by rw [hwc]; simp [go_sem, y2]
    have k0 : wc.frozen? ⟨w.heap.size + 1, 0, none⟩ = false := by rw [hwc]; simpa using z0
    have k1 : wc.frozen? ⟨w.heap.size + 1, 1, none⟩ = false := by rw [hwc]; simpa using z1
    have k2 : wc.frozen? ⟨w.heap.size + 1, 2, none⟩ = false := by rw [hwc]; simpa using z2
    have hlw : w.heap.size < wc.heap.size := by omega
    have hlw1 : w.heap.size + 1 < wc.heap.size := by omega
    have hBw : B ≤ w.heap.size := by have := HM.out.hgb; have := HM.out.lt; omega
    have HBc := hid hbc
    clear q0 q1 q2 y0 y1 y2 i0 i1 i2 z0 z1 z2 hwc hb2 hz1 hz2 hzc hbc HFd HQ HG t0 t1 t2 c0 hlg
    by_cases h5 : k = 5
    · subst h5
      obtain ⟨hs0, hsn⟩ := hs rfl
      obtain rfl := bare_of hs0
      have hw5 := HOk.out.ways.end_ n hsn
      obtain ⟨j, hj, hv1, hv2⟩ := HOk.out.chain.val _ hw5.1
      have hin := HOk.out.chain.inL j hj
      have htr := gat_tref HOk.out (List.getElem_mem hj)
      have hmem := HOk.out.chain.mem acc[j] (List.getElem_mem hj)
      have h6 : l.length ≤ 60000 := by have := HOk.out.hi; have := HOk.out.room; omega
      have hA : atI ms 5 n = (acc[j].h : Int) := by unfold atI; rw [if_pos rfl]; exact hv2.symm
      rw [hA] at p1
      have hF : fndI ms n = (acc[j].h : Int) := hv2.symm
      have HR1 := hid (fun (h : hasI st.nw (acc[j].h : Int) = true) => brg_old (l := l) (ms := ms) (st := st) (x := ⟨5, n, ⟨#[]⟩⟩) rfl (by show hasI st.nw (fndI ms n) = true; rw [hF]; exact h))
      have HR2 := hid (fun (h : hasI st.nw (acc[j].h : Int) = false) => brg_new (l := l) (ms := ms) (st := st) (x := ⟨5, n, ⟨#[]⟩⟩) (t := acc[j]) rfl (by show hasI st.nw (fndI ms n) = false; rw [hF]; exact h) hF hmem.2)
      rw [hF] at HR1
      generalize acc[j].h = th at *
      generalize acc[j].f = tf at *
      generalize acc[j].e = te at *
      clear hv1 hv2 hA hF hmem hw5 hs
      have c1 := Mc.c1
      have c2 := Mc.c2
      obtain ⟨aw, capw, hvw, hcw, hrw⟩ := Mc.was.cells
      obtain ⟨ai, capi, hvi, hci, hri⟩ := Mc.is.cells
      rw [kys_length] at hvw hcw
      rw [vls_length] at hvi hci
      obtain ⟨Nn, hnq⟩ : ∃ Nn, Nn = st.nw.length := ⟨_, rfl⟩
      have HNq := hid hnq
      have HRw := hid hrw
      have HRi := hid hri
      have HMc := hid Mc
      have HNd := hid hnd
      have HIn := hid hin
      have HTr := hid htr
      have HVw := hid hvw
      have HVi := hid hvi
      rw [hvw] at c1
      rw [hvi] at c2
      rw [← hnq] at c1 c2 hcw hci
      have hnq6 : Nn ≤ 60000 := by omega
      have hlgb : gb < wc.heap.size := Mc.lt
      clear hrw hri Mc hnd hin htr hvw hvi hnq
      go_wp2_with fail
      go_loopw [5] (fun i wr => ∃ q : Nat, q ≤ Nn ∧ i = .int .i64 q ∧ (∀ x (hx : x < q) (hx2 : x < (kys st.nw).length), ¬ (kys st.nw)[x] = (th : Int)) ∧ Below wc.heap.size wc wr) (fun i _ => Nn - (intOf i).toNat)
      case atStart => exact ⟨0, Nat.zero_le _, rfl, fun x hx => absurd hx (by omega), Below.refl _ _⟩
      case round =>
        obtain ⟨q, hq, rfl, hnot, hbr⟩ := hrel
        have d1 := (hbr.cell (p := ⟨gb, 1, none⟩) hlgb).trans c1
        have d2 := (hbr.cell (p := ⟨gb, 2, none⟩) hlgb).trans c2
        have x0 := (hbr.cell (p := ⟨w.heap.size, 0, none⟩) hlw).trans p0
        have x1 := (hbr.cell (p := ⟨w.heap.size, 1, none⟩) hlw).trans p1
        have x2 := (hbr.cell (p := ⟨w.heap.size, 2, none⟩) hlw).trans p2
        have s0 := (hbr.cell (p := ⟨w.heap.size + 1, 0, none⟩) hlw1).trans e0
        have s1 := (hbr.cell (p := ⟨w.heap.size + 1, 1, none⟩) hlw1).trans e1
        have s2 := (hbr.cell (p := ⟨w.heap.size + 1, 2, none⟩) hlw1).trans e2
        have m0 := (hbr.frozen (p := ⟨w.heap.size + 1, 0, none⟩) hlw1).trans k0
        have m1 := (hbr.frozen (p := ⟨w.heap.size + 1, 1, none⟩) hlw1).trans k1
        have m2 := (hbr.frozen (p := ⟨w.heap.size + 1, 2, none⟩) hlw1).trans k2
        have hzr := hbr.size
        have HBr := hid hbr
        have HNot := hid hnot
        by_cases hlt : q < Nn
        · have hlt2 : (q : Int) < Nn := by omega
          have hqk : q < (kys st.nw).length := by rw [kys_length, ← HNq.out]; exact hlt
          have hqv : q < (vls st.nw).length := by rw [vls_length, ← HNq.out]; exact hlt
          obtain ⟨gw, rfl, hgw, cw⟩ := HRw.out q hqk
          obtain ⟨gi, rfl, hgi, ci⟩ := HRi.out q hqv
          have hgwl := HMc.out.lts gw (Or.inr (Or.inl hgw))
          have hgil := HMc.out.lts gi (Or.inr (Or.inr (Or.inl hgi)))
          have dw := (hbr.cell (p := ⟨gw, q, none⟩) hgwl).trans cw
          have di := (hbr.cell (p := ⟨gi, q, none⟩) hgil).trans ci
          have HVal := hid (vls_at HNd.out (q := q) (by rw [← HNq.out]; exact hlt))
          have HKq := hid (fun x (hx : x < q + 1) (hx2 : x < (kys st.nw).length) (hne : ¬ (kys st.nw)[q] = (th : Int)) => (by
            by_cases hxq : x = q
            · subst hxq; exact hne
            · exact HNot.out x (by omega) hx2 : ¬ (kys st.nw)[x] = (th : Int)))
          generalize (kys st.nw)[q] = kq at *
          generalize (vls st.nw)[q] = vq at *
          clear hnot hbr hgw hgi cw ci hqk hqv
          by_cases hkq : kq = (th : Int)
          · have hh : hasI st.nw (th : Int) = true := has_kys.2 (by rw [← hkq]; exact HVal.out.1)
            have HR := hid (HR1.out hh)
            have HV := hid (show valI st.nw (th : Int) = vq by rw [← hkq]; exact HVal.out.2)
            subst hkq
            clear hh HR1 HR2 HKq
            go_wp2_with fail
            go_quiet (fail)
            go_wp2_with fail
            refine bodyPost_ret (v := .agg #[.int .i64 5, .int .i64 vq, .string ⟨#[]⟩]) (by simp [results, Try.results30, go_sem, s0, s1, s2]) rfl ?_
            rw [HR.out]
            dsimp only
            rw [HV.out]
            have hbf : Below w.heap.size w wr := HBc.out.trans (HBr.out.mono (by omega))
            have hbq := below_set3s (g := w.heap.size + 1) (x0 := .int .i64 5) (x1 := .int .i64 vq) (x2 := .string ⟨#[]⟩) (bdrew hbf nq) (by omega)
            exact ⟨rfl, hbq.mono hBw, ⟨vw, vi, u, HM.out.below hbq, fun g h => Or.inl h, fun g h => Or.inl h, fun g h => Or.inl h⟩, fun b hb _ _ _ => hbq.block b hb⟩
          · have hkb : (kq == (th : Int)) = false := by simp [hkq]
            have HKn := hid (fun x hx hx2 => HKq.out x hx hx2 hkq)
            clear HKq HR1 HR2
            go_wp2_with fail
            go_quiet (fail)
            go_wp2_with fail
            go_roundw
            case rel => exact ⟨q + 1, by omega, by go_num, HKn.out, bdrew HBr.out _⟩
            case measure => simp [intOf]; omega
        · obtain rfl : Nn = q := by omega
          have hlt2 : ¬ (Nn : Int) < Nn := by omega
          have hno : hasI st.nw (th : Int) = false := by
            rw [Bool.eq_false_iff]
            intro h
            obtain ⟨x, hx, e⟩ := List.getElem_of_mem (has_kys.1 h)
            exact HNot.out x (by rw [kys_length, ← HNq.out] at hx; exact hx) hx e
          have HR := hid (HR2.out hno)
          have HMr := hid (HMc.out.below HBr.out)
          have d0 := HMr.out.c0
          have hgr : gb < wr.heap.size := HMr.out.lt
          have hte : te ≤ len := by have := HIn.out; have := HL.out; omega
          obtain ⟨sz, hsz⟩ : ∃ sz : Nat, sz = te - th := ⟨_, rfl⟩
          have hsz1 : (te : Int) - (th : Nat) = (sz : Int) := by have := HIn.out; omega
          obtain ⟨fr, hfr⟩ : ∃ fr : Nat, (tf : Int) - (th : Nat) = (fr : Int) := ⟨tf - th, by have := HIn.out; omega⟩
          have hthl : th < len := by have := HIn.out; have := HL.out; omega
          have HTh := hid (fun w' (hb : Below wr.heap.size wr w') => (by
            have h := thing_any w' B a l len cap th HL.out (by have := HL.out; omega) hthl (by have := hb.size; omega) (HMr.out.below hb).wds
            rw [HTr.out] at h
            dsimp only [thV] at h
            rw [hsz1, hfr] at h
            exact h.mono (fun e w'' h => ⟨h.1, hb.trans (h.2.mono hb.size)⟩) : Calls Try.prog 31 #[.slice a len cap, .int .i64 th] w' fun e w'' => e = .returned (.tuple #[.int .i64 (sz : Int), .int .i64 (fr : Int)]) ∧ Below wr.heap.size wr w''))
          have HX := hid (fun w' (hb : Below wr.heap.size wr w') => (⟨(hb.cell (p := ⟨gb, 0, none⟩) hgr).trans d0, (hb.cell (p := ⟨w.heap.size, 1, none⟩) (by dsimp only; omega)).trans x1⟩ : w'.cell? ⟨gb, 0, none⟩ = some (.slice a len cap) ∧ w'.cell? ⟨w.heap.size, 1, none⟩ = some (.int .i64 (th : Int))))
          have HX1 := hid (fun (w' : World) (hb : w'.heap[w.heap.size]? = wr.heap[w.heap.size]?) => ((World.cell?_of_block (w := wr) (a := ⟨w.heap.size, 1, none⟩) hb).trans x1 : w'.cell? ⟨w.heap.size, 1, none⟩ = some (.int .i64 (th : Int))))
          have HBox := hid (fun (w' : World) (hb : w'.heap[w.heap.size + 1]? = wr.heap[w.heap.size + 1]?) => (⟨⟨(World.cell?_of_block (w := wr) (a := ⟨w.heap.size + 1, 0, none⟩) hb).trans s0, (World.cell?_of_block (w := wr) (a := ⟨w.heap.size + 1, 1, none⟩) hb).trans s1, (World.cell?_of_block (w := wr) (a := ⟨w.heap.size + 1, 2, none⟩) hb).trans s2⟩, (World.frozen?_of_block (w := wr) (a := ⟨w.heap.size + 1, 0, none⟩) hb).trans m0, (World.frozen?_of_block (w := wr) (a := ⟨w.heap.size + 1, 1, none⟩) hb).trans m1, (World.frozen?_of_block (w := wr) (a := ⟨w.heap.size + 1, 2, none⟩) hb).trans m2⟩ : (w'.cell? ⟨w.heap.size + 1, 0, none⟩ = some (.int .i64 0) ∧ w'.cell? ⟨w.heap.size + 1, 1, none⟩ = some (.int .i64 0) ∧ w'.cell? ⟨w.heap.size + 1, 2, none⟩ = some (.string ⟨#[]⟩)) ∧ w'.frozen? ⟨w.heap.size + 1, 0, none⟩ = false ∧ w'.frozen? ⟨w.heap.size + 1, 1, none⟩ = false ∧ w'.frozen? ⟨w.heap.size + 1, 2, none⟩ = false))
          have HHsz := hid hsz
          clear hnot hbr d2 x0 x2 s0 s1 s2 m0 m1 m2 hsz hsz1 hfr HR1 HR2 HNot hno
          go_wp2_with fail
          go_upto_region 9 with fail
          go_cut [6, 7] (fun z6 z7 wx => z6 = .int .i64 (sz : Int) ∧ z7 = .int .i64 (fr : Int) ∧ Below wr.heap.size wr wx)
          case first =>
            go_region_with (go_at_call 31; refine (HTh.out _ (by first | exact bdrew (Below.refl _ _) 1 | exact Below.refl _ _)).mono ?_; rintro e w4 ⟨rfl, hb4⟩; obtain ⟨_, _⟩ := HX.out _ hb4)
            all_goals (go_wp2_with fail; go_meet)
            all_goals exact ⟨rfl, rfl, hb4⟩
          case rest =>
            obtain ⟨wa, rfl⟩ : ∃ wa, wa = wc := ⟨_, rfl⟩
            obtain ⟨rfl, rfl, hba⟩ := hcut
            have HMa := hid (HMr.out.below hba)
            obtain ⟨v0, v1⟩ := HX.out _ hba
            have a1 := HMa.out.c1
            have a1f := HMa.out.f1
            rw [HVw.out, ← HNq.out] at a1
            have hza := hba.size
            have HBa := hid hba
            have hga : gb < wa.heap.size := HMa.out.lt
            obtain ⟨i0, hi, iz0, iz1, iz2⟩ := info_parts infoInt
            have HI := hid hi
            have HZ0 := hid iz0
            have HZ1 := hid iz1
            have HZ2 := hid iz2
            have HRow := hid (fun wb (hb : Below wa.heap.size wa wb) => (by
              have h := (HMa.out.below hb).was
              unfold IntL at h
              rw [kys_length, ← HNq.out, HVw.out, ← HNq.out] at h
              exact h : wb.ownsRow B 3 1 (.slice aw Nn capw) Nn (ics (kys st.nw))))
            have HFar := hid (fun wb w3 (hb : Below wa.heap.size wa wb) (hg : wb.grownBy w3 (Value.slice aw Nn capw).ownBlock) => (by
              have e := far_cell HMa.out hb (Or.inl rfl) (w3 := w3) (by rw [HVw.out, ← HNq.out]; exact hg)
              exact ⟨(World.cell?_of_block (w := wa) (a := ⟨gb, 1, none⟩) e).trans a1, (World.frozen?_of_block (w := wa) (a := ⟨gb, 1, none⟩) e).trans a1f⟩ : w3.cell? ⟨gb, 1, none⟩ = some (.slice aw Nn capw) ∧ w3.frozen? ⟨gb, 1, none⟩ = false))
            have hBa : B ≤ wa.heap.size := by omega
            clear hi iz0 iz1 iz2 hba d0 d1 HX HTh
            go_wp2_with fail
            go_upto_region 10 with fail
            go_cut [] (fun wx => ∃ g cap3 wb w3, Below wa.heap.size wa wb ∧ w3.ownsRow B 3 1 (.slice (some ⟨g, 0, none⟩) (Nn + 1) cap3) (Nn + 1) (ics (kys st.nw) ++ [.int .i64 (th : Int)]) ∧ wb.grownBy w3 (Value.slice aw Nn capw).ownBlock ∧ ((Value.slice aw Nn capw).ownBlock = some g ∨ g = wb.heap.size) ∧ wx = w3.setCell ⟨gb, 1, none⟩ (.slice (some ⟨g, 0, none⟩) (Nn + 1) cap3))
            case first =>
              go_region_law (refine step_append_lies _ rfl (.tmp 60) (.tmp 63) 50 rfl B 3 i0 (.int .i64 0) 1 8 Try.underlying50 HI.out HZ0.out HZ1.out HZ2.out rfl (by decide) (.slice aw Nn capw) Nn (ics (kys st.nw)) (by first | rfl | simp [Act.eval]) (HRow.out _ (by first | exact (bdrew (Below.refl _ _) 1).alloc (Nat.le_refl _) _ | exact bdrew ((Below.refl _ _).alloc (Nat.le_refl _) _) 1)) ⟨wa.heap.size, 0, none⟩ 1 1 [.int .i64 (th : Int)] (by first | rfl | simp [Act.eval]) rfl (by first | exact new1v _ _ _) (by simp [Value.oneCell']) (by decide) (by unfold maxLen; omega) (by omega) (by simp; omega) _ rfl ?_; intro g cap3 w3 hown3 hgrow3 hat3 hlt3; obtain ⟨u1, uf⟩ := HFar.out _ w3 (by first | exact (bdrew (Below.refl _ _) 1).alloc (Nat.le_refl _) _ | exact bdrew ((Below.refl _ _).alloc (Nat.le_refl _) _) 1) hgrow3)
              all_goals (go_wp2_with fail; go_meet)
              all_goals exact ⟨g, cap3, _, w3, (by first | exact (bdrew (Below.refl _ _) 1).alloc (Nat.le_refl _) _ | exact bdrew ((Below.refl _ _).alloc (Nat.le_refl _) _) 1), hown3, hgrow3, hat3, rfl⟩
            case rest =>
              obtain ⟨g1, cap1, wb1, w3, hbb, hown, hgr, hat, hwx⟩ := hcut
              obtain ⟨w5, rfl⟩ : ∃ w5, w5 = wc := ⟨_, rfl⟩
              have hN1 : GNote wa w5 B gb a len cap l vw vi u (kys st.nw ++ [(th : Int)]) (vls st.nw) st.ws (.slice (some ⟨g1, 0, none⟩) (Nn + 1) cap1) vi := by
                rw [hwx]
                exact gnote1 HMa.out hbb (by unfold IntL; rw [ics_snoc, List.length_append, kys_length, ← HNq.out]; exact hown) (by rw [HVw.out, ← HNq.out]; exact hgr) (by rw [HVw.out, ← HNq.out]; exact hat)
              have HN1 := hid hN1
              have hk1 : ∀ b, w.heap.size ≤ b → b < wa.heap.size → w5.heap[b]? = wa.heap[b]? := fun b h1 h2 => hN1.keep b h2 (by have := HM.out.lt; omega) (fun e => by have := HM.out.lts b (Or.inr (Or.inl e)); omega) (fun e => by have := HM.out.lts b (Or.inr (Or.inr (Or.inl e))); omega)
              have hz5 := hN1.bel.size
              have HK1 := hid hk1
              obtain ⟨au, capu, hu, hcu, _, _, _⟩ := HMa.out.row.cells
              have HU := hid hu
              obtain ⟨nu, hnu⟩ : ∃ nu, nu = st.ws.length := ⟨_, rfl⟩
              have HNu := hid hnu
              rw [hu, ← hnu] at hN1
              have b3 := hN1.M.c3
              have b2 := hN1.M.c2
              have b2f := hN1.M.f2
              rw [HVi.out, ← HNq.out] at b2
              have hg5 : gb < w5.heap.size := hN1.M.lt
              have hnu6 : nu ≤ 60000 := by omega
              have HRow2 := hid (fun wb (hb : Below w5.heap.size w5 wb) => (by
                have h := (HN1.out.M.below hb).is
                unfold IntL at h
                rw [vls_length, ← HNq.out, HVi.out, ← HNq.out] at h
                exact h : wb.ownsRow B 3 1 (.slice ai Nn capi) Nn (ics (vls st.nw))))
              have HFar2 := hid (fun wb w3 (hb : Below w5.heap.size w5 wb) (hg : wb.grownBy w3 (Value.slice ai Nn capi).ownBlock) => (by
                have e := far_cell HN1.out.M hb (Or.inr rfl) (w3 := w3) (by rw [HVi.out, ← HNq.out]; exact hg)
                exact ⟨(World.cell?_of_block (w := w5) (a := ⟨gb, 2, none⟩) e).trans b2, (World.frozen?_of_block (w := w5) (a := ⟨gb, 2, none⟩) e).trans b2f⟩ : w3.cell? ⟨gb, 2, none⟩ = some (.slice ai Nn capi) ∧ w3.frozen? ⟨gb, 2, none⟩ = false))
              have hB5 : B ≤ w5.heap.size := by omega
              clear hbb hown hgr hat hwx hN1 hk1 hu hnu hcu a1 a1f v0 v1
              go_wp2_with fail
              go_upto_region 11 with fail
              go_cut [] (fun wx => ∃ g cap3 wb w3, Below w5.heap.size w5 wb ∧ w3.ownsRow B 3 1 (.slice (some ⟨g, 0, none⟩) (Nn + 1) cap3) (Nn + 1) (ics (vls st.nw) ++ [.int .i64 (nu : Int)]) ∧ wb.grownBy w3 (Value.slice ai Nn capi).ownBlock ∧ ((Value.slice ai Nn capi).ownBlock = some g ∨ g = wb.heap.size) ∧ wx = w3.setCell ⟨gb, 2, none⟩ (.slice (some ⟨g, 0, none⟩) (Nn + 1) cap3))
              case first =>
                go_region_law (refine step_append_lies _ rfl (.tmp 71) (.tmp 77) 50 rfl B 3 i0 (.int .i64 0) 1 8 Try.underlying50 HI.out HZ0.out HZ1.out HZ2.out rfl (by decide) (.slice ai Nn capi) Nn (ics (vls st.nw)) (by first | rfl | simp [Act.eval]) (HRow2.out _ (by first | exact (bdrew (Below.refl _ _) 1).alloc (Nat.le_refl _) _ | exact bdrew ((Below.refl _ _).alloc (Nat.le_refl _) _) 1)) ⟨w5.heap.size, 0, none⟩ 1 1 [.int .i64 (nu : Int)] (by first | rfl | simp [Act.eval]) rfl (by first | exact new1v _ _ _) (by simp [Value.oneCell']) (by decide) (by unfold maxLen; omega) (by omega) (by simp; omega) _ rfl ?_; intro g cap3 w3 hown3 hgrow3 hat3 hlt3; obtain ⟨u1, uf⟩ := HFar2.out _ w3 (by first | exact (bdrew (Below.refl _ _) 1).alloc (Nat.le_refl _) _ | exact bdrew ((Below.refl _ _).alloc (Nat.le_refl _) _) 1) hgrow3)
                all_goals (go_wp2_with fail; go_meet)
                all_goals exact ⟨g, cap3, _, w3, (by first | exact (bdrew (Below.refl _ _) 1).alloc (Nat.le_refl _) _ | exact bdrew ((Below.refl _ _).alloc (Nat.le_refl _) _) 1), hown3, hgrow3, hat3, rfl⟩
              case rest =>
                obtain ⟨g2, cap2, wb2, w4, hbb, hown, hgr, hat, hwx⟩ := hcut
                obtain ⟨w6, rfl⟩ : ∃ w6, w6 = wc := ⟨_, rfl⟩
                have hN2 : GNote w5 w6 B gb a len cap l (.slice (some ⟨g1, 0, none⟩) (Nn + 1) cap1) vi u (kys st.nw ++ [(th : Int)]) (vls st.nw ++ [(nu : Int)]) st.ws (.slice (some ⟨g1, 0, none⟩) (Nn + 1) cap1) (.slice (some ⟨g2, 0, none⟩) (Nn + 1) cap2) := by
                  rw [hwx]
                  exact gnote2 HN1.out.M hbb (by unfold IntL; rw [ics_snoc, List.length_append, vls_length, ← HNq.out]; exact hown) (by rw [HVi.out, ← HNq.out]; exact hgr) (by rw [HVi.out, ← HNq.out]; exact hat)
                have hN := HN1.out.trans hN2
                have HN := hid hN
                have hz6 := hN.bel.size
                have hk6 : ∀ b, w.heap.size ≤ b → b < wa.heap.size → w6.heap[b]? = wa.heap[b]? := fun b h1 h2 => hN.keep b h2 (by have := HM.out.lt; omega) (fun e => by have := HM.out.lts b (Or.inr (Or.inl e)); omega) (fun e => by have := HM.out.lts b (Or.inr (Or.inr (Or.inl e))); omega)
                have HK6 := hid hk6
                have hg6 : gb < w6.heap.size := hN.M.lt
                have y3 := hN.M.c3
                rw [HU.out, ← HNu.out] at y3
                obtain ⟨w7, hw7⟩ : ∃ w7, w7 = w6.alloc (.cells #[.int .i64 5, .int .i64 (nu : Int), .string ⟨#[]⟩] 37) := ⟨_, rfl⟩
                have hb7 : Below w6.heap.size w6 w7 := by rw [hw7]; exact (Below.refl _ _).alloc (Nat.le_refl _) _
                have hz7 : w7.heap.size = w6.heap.size + 1 := by rw [hw7]; simp
                have hM7 := hN.M.below hb7
                have z0 := hM7.c0
                have z3 := hM7.c3
                have z3f := hM7.f3
                rw [HU.out, ← HNu.out] at z3
                have zb : w7.cell? ⟨w.heap.size, 1, none⟩ = some (.int .i64 (th : Int)) := HX1.out w7 ((hb7.block _ (by omega)).trans ((HK6.out _ (Nat.le_refl _) (by omega)).trans (HBa.out.block _ (by omega))))
                have q0 : w7.cell? ⟨w6.heap.size, 0, none⟩ = some (.int .i64 5) := by rw [hw7]; go_simp
                have q1 : w7.cell? ⟨w6.heap.size, 1, none⟩ = some (.int .i64 (nu : Int)) := by rw [hw7]; go_simp
                have q2 : w7.cell? ⟨w6.heap.size, 2, none⟩ = some (.string ⟨#[]⟩) := by rw [hw7]; go_simp
                have hin := HIn.out
                obtain ⟨ba, oa, rfl, hba, w7a, w7b, w7c⟩ := hM7.wds th hin.1
                clear w7a w7b w7c
                have hcne : ¬ cap = th := by omega
                have jj1 : (th : Int) + (sz : Int) = (te : Int) := by have := HHsz.out; omega
                have hl6 : l.length ≤ 60000 := h6
                have jj0 : IntKind.i64.wrap (te : Int) = (te : Int) := by have := hin.2.2.2; simp [IntKind.wrap, IntKind.bits, IntKind.signed]; omega
                have jj2 : (th : Int) ≤ te := by omega
                have jj3 : (te : Int) ≤ cap := by omega
                have hsl := sub_length (l := l) (f := th) hin.2.2.2
                obtain ⟨mm, hmm⟩ : ∃ mm, mm = nu + (te - th) := ⟨_, rfl⟩
                have HCp := hid (fun w' g (hb : Below w7.heap.size w7 w') (hg : g < w'.heap.size) (k1 : w'.cell? ⟨g, 0, none⟩ = some (.slice au nu capu)) (k2 : w'.cell? ⟨g, 1, none⟩ = some (.slice (some ⟨ba, oa + th * 3, none⟩) (te - th) (cap - th))) => (by
                  have hMb := hM7.below hb
                  have hzb := hb.size
                  obtain ⟨a9, c9, e9, _, hw9, _, _⟩ := hMb.row.cells
                  rw [HU.out] at e9
                  injection e9 with e91 e92 e93
                  subst e91
                  have hWs := wds_sub (f := th) (cap := cap) (e := te) hMb.wds hin.2.2.2 (by omega)
                  rw [if_neg hcne] at hWs
                  have h := wcopy2 w' g au (some ⟨ba, oa + th * 3, none⟩) nu (te - th) capu (cap - th) st.ws (sub l th te) hw9 (hWs.mono (by omega)) HNu.out hsl.symm (by omega) hg k1 k2
                  rw [← hmm] at h
                  exact h.mono (fun e w'' ⟨a', cap', h1, h2, h3⟩ => ⟨a', cap', h1, hb.trans (h3.mono hzb), h2.less hzb⟩) : Calls Try.prog 47 #[.slice (some ⟨g, 0, none⟩) 2 2] w' fun e w'' => ∃ a' cap', e = .returned (.slice a' mm cap') ∧ Below w7.heap.size w7 w'' ∧ WdL w'' w7.heap.size (.slice a' mm cap') (st.ws ++ sub l th te)))
                have hg7 : gb < w7.heap.size := hM7.lt
                have HFar3 := hid (fun w' (hb : Below w7.heap.size w7 w') => (⟨(hb.cell (p := ⟨gb, 3, none⟩) hg7).trans z3, (hb.frozen (p := ⟨gb, 3, none⟩) hg7).trans z3f⟩ : w'.cell? ⟨gb, 3, none⟩ = some (.slice au nu capu) ∧ w'.frozen? ⟨gb, 3, none⟩ = false))
                have H7 := hid hw7
                have HM7 := hid hM7
                have HZ7 := hid hz7
                have HB7 := hid hb7
                have HMm := hid hmm
                clear hbb hown hgr hat hwx hN2 hN hk6 hw7 hb7 hM7 b2 b2f b3 hsl hin hmm hba
                go_wp2_with fail
                go_upto_region 13 with fail
                rw [← H7.out]
                clear y3
                go_cut [] (fun wx => ∃ a' cap' w9, Below w7.heap.size w7 w9 ∧ WdL w9 w7.heap.size (.slice a' mm cap') (st.ws ++ sub l th te) ∧ wx = w9.setCell ⟨gb, 3, none⟩ (.slice a' mm cap'))
                case first =>
                  go_region_with (go_at_call 47; refine (HCp.out _ _ (by first | exact (bdrew (Below.refl _ _) 1).alloc (Nat.le_refl _) _ | exact bdrew ((Below.refl _ _).alloc (Nat.le_refl _) _) 1) (by simp; omega) (by go_simp) (by go_simp)).mono ?_; rintro e w9 ⟨a', cap', rfl, hb9, hW9⟩; obtain ⟨x3, x3f⟩ := HFar3.out _ hb9)
                  all_goals (go_wp2_with fail; go_meet)
                  all_goals exact ⟨a', cap', w9, hb9, hW9, rfl⟩
                case rest =>
                  obtain ⟨a', cap', w9, hb9, hW9, hwx⟩ := hcut
                  obtain ⟨w10, rfl⟩ : ∃ w10, w10 = wc := ⟨_, rfl⟩
                  obtain ⟨hM10, hB10, hk10⟩ := HM7.out.words hb9 hW9
                  rw [← hwx] at hM10 hB10 hk10
                  have hz7 := HZ7.out
                  have hz9 := hB10.size
                  have r0 := (World.cell?_of_block (w := w7) (a := ⟨w6.heap.size, 0, none⟩) (hk10 w6.heap.size (by omega) (by omega))).trans q0
                  have r1 := (World.cell?_of_block (w := w7) (a := ⟨w6.heap.size, 1, none⟩) (hk10 w6.heap.size (by omega) (by omega))).trans q1
                  have r2 := (World.cell?_of_block (w := w7) (a := ⟨w6.heap.size, 2, none⟩) (hk10 w6.heap.size (by omega) (by omega))).trans q2
                  have hgw := HM.out.lt
                  have hall : ∀ b, w.heap.size ≤ b → b < wr.heap.size → w10.heap[b]? = wr.heap[b]? := fun b h1 h2 => (hk10 b (by omega) (by omega)).trans ((HB7.out.block b (by omega)).trans ((HK6.out b h1 (by omega)).trans (HBa.out.block b h2)))
                  obtain ⟨⟨s0, s1, s2⟩, m0, m1, m2⟩ := HBox.out w10 (hall _ (by omega) (by omega))
                  have hset := fin4' w10 w.heap.size (.int .i64 5) (.int .i64 (nu : Int)) (.string ⟨#[]⟩)
                  have hrows : ∀ b, (b = gb ∨ (Value.slice (some ⟨g1, 0, none⟩) (Nn + 1) cap1).ownBlock = some b ∨ (Value.slice (some ⟨g2, 0, none⟩) (Nn + 1) cap2).ownBlock = some b ∨ (Value.slice a' mm cap').ownBlock = some b) → ¬ b = w.heap.size + 1 := fun b hb e => by
                    subst e
                    rcases hb with hb | hb | hb | hb
                    · omega
                    · rcases HN.out.ow _ hb with h | h
                      · have := HM.out.lts _ (Or.inr (Or.inl h)); omega
                      · omega
                    · rcases HN.out.oi _ hb with h | h
                      · have := HM.out.lts _ (Or.inr (Or.inr (Or.inl h))); omega
                      · omega
                    · have := (hW9.own_lt hb).1; omega
                  have HFin := hid (And.intro ((((HBc.out.mono hBw).trans (HBr.out.mono (by omega))).trans (HBa.out.mono (by omega))).trans (HN.out.bel.trans ((HB7.out.mono (by omega)).trans (hB10.trans (hset.2 B (by omega)))))) (And.intro (hM10.kept (hset.2 B (by omega)) (fun b _ hb => hset.1 b (hrows b hb))) (fun b (hb : b < w.heap.size) (h1 : ¬ b = gb) (h2 : ¬ vw.ownBlock = some b) (h3 : ¬ vi.ownBlock = some b) => (hset.1 b (by omega)).trans ((hk10 b (by omega) h1).trans ((HB7.out.block b (by omega)).trans ((HN.out.keep b (by omega) h1 h2 h3).trans ((HBa.out.block b (by omega)).trans ((HBr.out.block b (by omega)).trans (HBc.out.block b hb)))))))))
                  have HOw := hid (⟨fun g h => (HN.out.ow g h).imp id (fun h => by omega), fun g h => (HN.out.oi g h).imp id (fun h => by omega), fun g h => Or.inr (by have := (hW9.own_lt h).1; omega)⟩ : (∀ g, (Value.slice (some ⟨g1, 0, none⟩) (Nn + 1) cap1).ownBlock = some g → vw.ownBlock = some g ∨ w.heap.size ≤ g) ∧ (∀ g, (Value.slice (some ⟨g2, 0, none⟩) (Nn + 1) cap2).ownBlock = some g → vi.ownBlock = some g ∨ w.heap.size ≤ g) ∧ ∀ g, (Value.slice a' mm cap').ownBlock = some g → u.ownBlock = some g ∨ w.heap.size ≤ g)
                  have hl10 : w.heap.size + 1 < w10.heap.size := by omega
                  have hne6 : ¬ w6.heap.size = w.heap.size + 1 := by omega
                  clear hb9 hW9 hwx hM10 hB10 hk10 hall hset hrows q0 q1 q2 z0 z3 z3f zb
                  go_wp2_with fail
                  refine bodyPost_ret (v := .agg #[.int .i64 5, .int .i64 (nu : Int), .string ⟨#[]⟩]) (by simp [results, Try.results30, go_sem, s0, s1, s2]) rfl ?_
                  rw [HR.out]
                  dsimp only
                  rw [← HNu.out, kys_cons, vls_cons]
                  exact ⟨rfl, HFin.out.1, ⟨_, _, _, HFin.out.2.1, HOw.out.1, HOw.out.2.1, HOw.out.2.2⟩, HFin.out.2.2⟩
    · have h5b : (k != 5) = true := by simp [h5]
      have hA : atI ms k n = n := by unfold atI; rw [if_neg h5]
      rw [hA] at p1
      have HR := hid (brg_no (l := l) (ms := ms) (st := st) (x := ⟨k, n, s⟩) h5)
      clear Mc
      go_wp2_with fail
      refine bodyPost_ret (v := .agg #[.int .i64 k, .int .i64 n, .string s]) (by simp [results, Try.results30, go_sem, e0, e1, e2]) rfl ?_
      have hbf := below_set3s (g := w.heap.size + 1) (x0 := .int .i64 k) (x1 := .int .i64 n) (x2 := .string s) HBc.out (by omega)
      rw [HR.out]
      exact ⟨rfl, hbf.mono hBw, ⟨vw, vi, u, HM.out.below hbf, fun g h => Or.inl h, fun g h => Or.inl h, fun g h => Or.inl h⟩, fun b hb _ _ _ => hbf.block b hb⟩
end Go.Proofs.Ytfjfobpdlmdddaa
