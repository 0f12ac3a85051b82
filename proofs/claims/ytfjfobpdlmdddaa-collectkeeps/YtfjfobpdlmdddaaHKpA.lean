/- A value and what it is behind a collection are alike: CollectKeeps's alike. -/
import Derived.Test.YtfjfobpdlmdddaaHKpS
import Derived.BigQuiet
namespace Go.Proofs.Ytfjfobpdlmdddaa
set_option maxRecDepth 100000
open Go.RowKit Go.Maps
theorem wfI_rng {n : Int} (h1 : -9223372036854775808 ≤ n) (h2 : n ≤ 9223372036854775807) : wfI n := by
  simp [wfI, Lit.wf, IntKind.min, IntKind.max, IntKind.signed, IntKind.bits]; omega
theorem valB_wf {lim : Int} {l : List Wd} {acc : List Th} {ms : List (Int × Int)} {k n : Int} {s : ByteArray} (hok : OkC lim l acc ms) (h : valB (plOf acc) k n s = true) : wfI n ∧ s.size ≤ 9223372036854775807 := by
  have hw := hok.chain.within
  have hr := hok.room
  have hh := hok.hi
  unfold valB at h
  split at h
  · simp only [Bool.and_eq_true, decide_eq_true_eq] at h
    exact ⟨wfI_rng (by omega) (by omega), by omega⟩
  · split at h
    · unfold plainB at h
      simp only [Bool.and_eq_true, decide_eq_true_eq] at h
      exact ⟨wfI_rng (by omega) (by omega), by omega⟩
    · split at h
      · unfold plainB at h
        simp only [Bool.and_eq_true, decide_eq_true_eq] at h
        exact ⟨wfI_rng (by omega) (by omega), by omega⟩
      · split at h
        · simp only [Bool.and_eq_true, decide_eq_true_eq] at h
          exact ⟨wfI_rng (by omega) (by omega), by omega⟩
        · split at h
          · simp only [Bool.and_eq_true, decide_eq_true_eq] at h
            have := hw n h.1
            exact ⟨wfI_rng (by omega) (by omega), by omega⟩
          · cases h
theorem boxes2323 (w : World) (x0 x1 v0 v1 v2 y0 y1 u0 u1 u2 : Value) (t1 t2 t3 t4 : TypeId) (W : World) (hW : W = (((w.alloc (.cells #[x0, x1] t1)).alloc (.cells #[v0, v1, v2] t2)).alloc (.cells #[y0, y1] t3)).alloc (.cells #[u0, u1, u2] t4)) :
    ((W.cell? ⟨w.heap.size, 0, none⟩ = some x0 ∧ W.cell? ⟨w.heap.size, 1, none⟩ = some x1) ∧ (W.cell? ⟨w.heap.size + 1, 0, none⟩ = some v0 ∧ W.cell? ⟨w.heap.size + 1, 1, none⟩ = some v1 ∧ W.cell? ⟨w.heap.size + 1, 2, none⟩ = some v2) ∧
    (W.cell? ⟨w.heap.size + 2, 0, none⟩ = some y0 ∧ W.cell? ⟨w.heap.size + 2, 1, none⟩ = some y1) ∧ (W.cell? ⟨w.heap.size + 3, 0, none⟩ = some u0 ∧ W.cell? ⟨w.heap.size + 3, 1, none⟩ = some u1 ∧ W.cell? ⟨w.heap.size + 3, 2, none⟩ = some u2)) ∧ W.heap.size = w.heap.size + 4 ∧ Below w.heap.size w W := by
  subst hW
  refine ⟨⟨⟨?_, ?_⟩, ⟨?_, ?_, ?_⟩, ⟨?_, ?_⟩, ?_, ?_, ?_⟩, by simp, (((((Below.refl _ _).alloc (Nat.le_refl _) _).alloc (by simp) _).alloc (by simp; omega) _).alloc (by simp; omega) _)⟩ <;> go_simp
/-- At a depth. -/
def AlikeS (lim : Int) (l g : List Wd) (acc ord : List Th) (d : Nat) : Prop := ∀ (w : World) (B : Nat) (a1 : Option Addr) (n1 cap1 : Nat) (a2 : Option Addr) (n2 cap2 : Nat) (x y : Wd), Wds w B a1 l → Wds w B a2 g → B ≤ w.heap.size → n1 = l.length → n2 = g.length → n1 ≤ cap1 → n2 ≤ cap2 → valB (plOf acc) x.k x.n x.s = true → RenR ord [] x y →
    Calls Try.prog 24 #[.agg #[.slice a1 n1 cap1, .int .i64 lim], .agg #[.int .i64 x.k, .int .i64 x.n, .string x.s], .agg #[.slice a2 n2 cap2, .int .i64 lim], .agg #[.int .i64 y.k, .int .i64 y.n, .string y.s], .int .i64 (d : Int)] w fun e w' => e = .returned (.bool true) ∧ Below w.heap.size w w'
set_option maxHeartbeats 4000000 in
theorem alike_step {lim : Int} {l g : List Wd} {acc ord : List Th} (hT : Twin lim l g acc ord) (hwl : wfL l) (hwg : wfL g) (d : Nat) (hd : d ≤ 10) (ih : ∀ d', d' + 1 = d → AlikeS lim l g acc ord d') : AlikeS lim l g acc ord d := by
  intro w B a1 n1 cap1 a2 n2 cap2 x y hW1 hW2 hB hn1 hn2 hc1 hc2 hv hR
  have hT' := hT
  obtain ⟨hokl, hokg, hfin, hmem⟩ := hT'
  have hvy : valB (plOf (accG ord ord.length)) y.k y.n y.s = true := hfin.ren_val hR (fun h5 ps => valB_free h5 hv) (fun h5 => bare_of (val_ref hv h5).1)
  obtain ⟨hx1, hx2⟩ := valB_wf hokl hv
  obtain ⟨hy1, hy2⟩ := valB_wf hokg hvy
  have hkk : y.k = x.k := by
    rcases hR with ⟨_, rfl⟩ | ⟨h5, _, _, _, rfl⟩
    · rfl
    · exact h5.symm
  have hl6 : n1 ≤ 60000 := by have := hokl.hi; have := hokl.room; omega
  have hg6 : n2 ≤ 60000 := by have := hokg.hi; have := hokg.room; omega
  obtain ⟨xk, xn, xs⟩ := x
  obtain ⟨yk, yn, ys⟩ := y
  dsimp only at *
  subst hkk
  obtain ⟨w4, hw4⟩ : ∃ w4, w4 = (((w.alloc (.cells #[.slice a1 n1 cap1, .int .i64 lim] 24)).alloc (.cells #[.int .i64 yk, .int .i64 xn, .string xs] 37)).alloc (.cells #[.slice a2 n2 cap2, .int .i64 lim] 24)).alloc (.cells #[.int .i64 yk, .int .i64 yn, .string ys] 37) := ⟨_, rfl⟩
  obtain ⟨⟨⟨x0, x1⟩, ⟨v0, v1, v2⟩, ⟨y0, y1⟩, u0, u1, u2⟩, hz4, hb4⟩ := boxes2323 w _ _ _ _ _ _ _ _ _ _ _ _ _ _ w4 hw4
  have HCl := hid (fun (w' : World) (h : Below (w.heap.size + 4) w4 w') => (⟨(h.cell (p := ⟨w.heap.size, 0, none⟩) (by dsimp only; omega)).trans x0, (h.cell (p := ⟨w.heap.size, 1, none⟩) (by dsimp only; omega)).trans x1, (h.cell (p := ⟨w.heap.size + 2, 0, none⟩) (by dsimp only; omega)).trans y0, (h.cell (p := ⟨w.heap.size + 2, 1, none⟩) (by dsimp only; omega)).trans y1, by have := h.size; omega⟩ : w'.cell? ⟨w.heap.size, 0, none⟩ = some (.slice a1 n1 cap1) ∧ w'.cell? ⟨w.heap.size, 1, none⟩ = some (.int .i64 lim) ∧ w'.cell? ⟨w.heap.size + 2, 0, none⟩ = some (.slice a2 n2 cap2) ∧ w'.cell? ⟨w.heap.size + 2, 1, none⟩ = some (.int .i64 lim) ∧ w.heap.size + 4 ≤ w'.heap.size))
  have HCu := hid (fun (w' : World) (h : Below (w.heap.size + 4) w4 w') => (⟨(h.cell (p := ⟨w.heap.size + 3, 0, none⟩) (by dsimp only; omega)).trans u0, (h.cell (p := ⟨w.heap.size + 3, 1, none⟩) (by dsimp only; omega)).trans u1, (h.cell (p := ⟨w.heap.size + 3, 2, none⟩) (by dsimp only; omega)).trans u2⟩ : w'.cell? ⟨w.heap.size + 3, 0, none⟩ = some (.int .i64 yk) ∧ w'.cell? ⟨w.heap.size + 3, 1, none⟩ = some (.int .i64 yn) ∧ w'.cell? ⟨w.heap.size + 3, 2, none⟩ = some (.string ys)))
  have HW1 := hid (fun (w' : World) (h : Below (w.heap.size + 4) w4 w') => (hW1.below ((hb4.trans (h.mono (by omega))).mono hB) : Wds w' B a1 l))
  have HW2 := hid (fun (w' : World) (h : Below (w.heap.size + 4) w4 w') => (hW2.below ((hb4.trans (h.mono (by omega))).mono hB) : Wds w' B a2 g))
  have HF1 := hid ((Find_any w4 B a1 n1 cap1 l lim yk xn xs (hW1.below (hb4.mono hB)) (by omega) hn1 hc1 (by omega) hwl hx1 hx2).mono (fun e w' h => (by
    obtain ⟨k', n', s', r, e1, hf, hB'⟩ := h
    obtain ⟨rfl, rfl, rfl, rfl⟩ := find_good hokl hv hf
    exact ⟨e1, hB'⟩ : e = .returned (.tuple #[.agg #[.int .i64 yk, .int .i64 xn, .string xs], .int .i64 0]) ∧ Below w4.heap.size w4 w')))
  have HF2 := hid (fun (w6 : World) (h6 : Below (w.heap.size + 4) w4 w6) => (Find_any w6 B a2 n2 cap2 g lim yk yn ys (hW2.below ((hb4.trans (h6.mono (by omega))).mono hB)) (by have := h6.size; omega) hn2 hc2 (by omega) hwg hy1 hy2).mono (fun e w' h => (by
    obtain ⟨k', n', s', r, e1, hf, hB'⟩ := h
    obtain ⟨rfl, rfl, rfl, rfl⟩ := find_good hokg hvy hf
    exact ⟨e1, hB'⟩ : e = .returned (.tuple #[.agg #[.int .i64 yk, .int .i64 yn, .string ys], .int .i64 0]) ∧ Below w6.heap.size w6 w')))
  have HB4 := hid hb4
  have H4 := hid hw4
  have HBB := hid hB
  have HN1 := hid hn1
  have HN2 := hid hn2
  have HHb := hid (rfl : w.heap.size = w.heap.size)
  have HZ4 := hid hz4
  clear hw4 hb4 x0 x1 v0 v1 v2 y0 y1 u0 u1 u2 hW1 hW2 hB hx1 hx2 hy1 hy2 hn1 hn2
  go_enter Try.func24, Try.ntmps24
  go_wp2_with fail
  rw [← H4.out]
  have hcall := HF1.out
  go_fit hcall
  clear hcall
  rintro e w5 ⟨rfl, hb5⟩
  have hz5 := hb5.size
  obtain ⟨w6, hw6⟩ : ∃ w6, w6 = w5.alloc (.cells #[.int .i64 yk, .int .i64 xn, .string xs] 37) := ⟨_, rfl⟩
  have hb6 : Below w5.heap.size w5 w6 := by rw [hw6]; exact (Below.refl _ _).alloc (Nat.le_refl _) _
  have hz6 : w6.heap.size = w5.heap.size + 1 := by rw [hw6]; simp
  have p0 : w6.cell? ⟨w5.heap.size, 0, none⟩ = some (.int .i64 yk) := by rw [hw6]; go_simp
  have p1 : w6.cell? ⟨w5.heap.size, 1, none⟩ = some (.int .i64 xn) := by rw [hw6]; go_simp
  have p2 : w6.cell? ⟨w5.heap.size, 2, none⟩ = some (.string xs) := by rw [hw6]; go_simp
  have hb45 : Below (w.heap.size + 4) w4 w5 := hb5.mono (by have := HZ4.out; omega)
  have hb46 : Below (w.heap.size + 4) w4 w6 := hb45.trans (hb6.mono (by have := HZ4.out; omega))
  obtain ⟨x0, x1, y0, y1, hs5⟩ := HCl.out w5 hb45
  obtain ⟨u0, u1, u2⟩ := HCu.out w5 hb45
  have l2 : w.heap.size + 2 < w5.heap.size := by omega
  have l3 : w.heap.size + 3 < w5.heap.size := by omega
  have H6 := hid hw6
  have HF2' := hid (HF2.out w6 hb46)
  rw [hw6] at HF2'
  have HB46 := hid hb46
  clear hw6 hb6 hb45 hb46 hb5
  go_wp2_with fail
  have hcall := HF2'.out
  go_fit hcall
  clear hcall
  rw [← H6.out]
  rintro e w7 ⟨rfl, hb7⟩
  have hz7 := hb7.size
  have hl5 : w5.heap.size < w6.heap.size := by omega
  have q0 := (hb7.cell (p := ⟨w5.heap.size, 0, none⟩) hl5).trans p0
  have q1 := (hb7.cell (p := ⟨w5.heap.size, 1, none⟩) hl5).trans p1
  have q2 := (hb7.cell (p := ⟨w5.heap.size, 2, none⟩) hl5).trans p2
  obtain ⟨w8, hw8⟩ : ∃ w8, w8 = w7.alloc (.cells #[.int .i64 yk, .int .i64 yn, .string ys] 37) := ⟨_, rfl⟩
  have hb8 : Below w7.heap.size w7 w8 := by rw [hw8]; exact (Below.refl _ _).alloc (Nat.le_refl _) _
  have hz8 : w8.heap.size = w7.heap.size + 1 := by rw [hw8]; simp
  have m0 : w8.cell? ⟨w7.heap.size, 0, none⟩ = some (.int .i64 yk) := by rw [hw8]; go_simp
  have m1 : w8.cell? ⟨w7.heap.size, 1, none⟩ = some (.int .i64 yn) := by rw [hw8]; go_simp
  have m2 : w8.cell? ⟨w7.heap.size, 2, none⟩ = some (.string ys) := by rw [hw8]; go_simp
  have hl57 : w5.heap.size < w7.heap.size := by omega
  have n0 := (hb8.cell (p := ⟨w5.heap.size, 0, none⟩) hl57).trans q0
  have n1' := (hb8.cell (p := ⟨w5.heap.size, 1, none⟩) hl57).trans q1
  have n2' := (hb8.cell (p := ⟨w5.heap.size, 2, none⟩) hl57).trans q2
  have hb48 : Below (w.heap.size + 4) w4 w8 := HB46.out.trans ((hb7.mono (by omega)).trans (hb8.mono (by omega)))
  have HB48 := hid hb48
  have hbw8 := HB4.out.trans (hb48.mono (by have := HHb.out; omega))
  have HBw8 := hid hbw8
  have H8 := hid hw8
  have hBb : B ≤ w.heap.size := by have := HHb.out; have := HBB.out; omega
  have HZ8 := hid hz8
  have hl58 : w5.heap.size < w8.heap.size := by omega
  have hl78 : w7.heap.size < w8.heap.size := by omega
  clear p0 p1 p2 x0 x1 y0 y1 u0 u1 u2 hb7 hb8 hw8 hb48 hbw8
  rcases hR with ⟨h5, he⟩ | ⟨h5, i, hi, e1, e2⟩
  · injection he with _ he1 he2
    subst he1 he2
    have h5b : (yk != 5) = true := by simp [h5]
    clear m0 m1 m2 n0 n1' n2'
    go_wp2_with fail
    go_ret
    refine ⟨by simp, ?_⟩
    rw [← H8.out]
    exact HBw8.out
  · have h5' : yk = 5 := h5
    subst h5'
    injection e2 with _ e2 e3
    subst e2 e3
    rw [fnd0] at e1
    subst e1
    obtain rfl : ys = ⟨#[]⟩ := bare_of (val_ref hv rfl).1
    have hpos := tAt_le (hokl.chain.mem _ (hmem _ (List.getElem_mem hi))).2
    have hHl : ord[i].h < l.length := by omega
    have hog : offT ord i < g.length := by rw [hfin.len]; exact hfin.lt hi (Nat.le_refl _)
    obtain ⟨bl, ol, rfl, hbl, c0, c1, c2⟩ := HW1.out w8 HB48.out _ hHl
    obtain ⟨bg, og, rfl, hbg, d0, d1, d2⟩ := HW2.out w8 HB48.out _ hog
    have hgl : g[offT ord i] = l[ord[i].h] := by
      have := hfin.head i hi
      rw [List.getElem?_eq_getElem hog, List.getElem?_eq_getElem hHl] at this
      injection this
    rw [hgl] at d0 d1 d2
    obtain ⟨nv, hnv⟩ : ∃ nv, nv = ord[i].e - ord[i].f := ⟨_, rfl⟩
    have hHi : (ord[i].h : Int) < n1 := by have := HN1.out; omega
    have hgi : (offT ord i : Int) < n2 := by have := HN2.out; omega
    have HTw := hid (fun (q : Nat) k1 n1 s1 r1 k2 n2 s2 r2 hp1 hp2 => hT.parts hi (q := q) (k1 := k1) (n1 := n1) (s1 := s1) (r1 := r1) (k2 := k2) (n2 := n2) (s2 := s2) (r2 := r2) hp1 hp2)
    rw [← hnv] at HTw
    have hnv6 : nv ≤ 60000 := by have := HN1.out; omega
    have hH6 : ord[i].h ≤ 60000 := by have := HN1.out; omega
    have ho6 : offT ord i ≤ 60000 := by have := HN2.out; omega
    generalize l[ord[i].h].k = kk at c0 d0
    generalize l[ord[i].h].n = nn at c1 d1
    generalize l[ord[i].h].s = ss at c2 d2
    generalize ord[i].h = hh at *
    generalize offT ord i = off at *
    obtain ⟨x0, x1, y0, y1, _⟩ := HCl.out w8 HB48.out
    have hb8' : w.heap.size < w8.heap.size := by omega
    have hb82 : w.heap.size + 2 < w8.heap.size := by omega
    have HN := hid (fun (w' : World) (h : Below w8.heap.size w8 w') => (⟨(h.cell (p := ⟨w5.heap.size, 0, none⟩) hl58).trans n0, (h.cell (p := ⟨w5.heap.size, 1, none⟩) hl58).trans n1', (h.cell (p := ⟨w5.heap.size, 2, none⟩) hl58).trans n2', (h.cell (p := ⟨w7.heap.size, 0, none⟩) hl78).trans m0, (h.cell (p := ⟨w7.heap.size, 1, none⟩) hl78).trans m1, (h.cell (p := ⟨w7.heap.size, 2, none⟩) hl78).trans m2⟩ : w'.cell? ⟨w5.heap.size, 0, none⟩ = some (.int .i64 5) ∧ w'.cell? ⟨w5.heap.size, 1, none⟩ = some (.int .i64 (hh : Int)) ∧ w'.cell? ⟨w5.heap.size, 2, none⟩ = some (.string ⟨#[]⟩) ∧ w'.cell? ⟨w7.heap.size, 0, none⟩ = some (.int .i64 5) ∧ w'.cell? ⟨w7.heap.size, 1, none⟩ = some (.int .i64 (off : Int)) ∧ w'.cell? ⟨w7.heap.size, 2, none⟩ = some (.string ⟨#[]⟩)))
    clear hnv hpos hgl hv hvy
    go_wp2_with fail
    go_upto_region 7 with fail
    rw [← H8.out]
    clear q0 q1 q2
    go_quiet (fail)
    clear x0 x1 y0 y1 c0 c1 c2 d0 d1 d2 m0 m1 m2 n0 n1' n2'
    go_wp2_with fail
    go_loopw [15] (fun z wr => ∃ q : Nat, q ≤ nv ∧ z = .int .i64 (q : Int) ∧ Below w8.heap.size w8 wr) (fun z _ => nv + 1 - (intOf z).toNat)
    case atStart => exact ⟨0, Nat.zero_le _, rfl, bdrew (Below.refl _ _) _⟩
    case round =>
      obtain ⟨q, hq, rfl, hbr⟩ := hrel
      have hzr := hbr.size
      by_cases hd0 : d = 0
      · subst hd0
        have HBr := hid (HBw8.out.trans (hbr.mono (by have := HHb.out; omega)))
        clear hbr
        go_wp2_with fail
        go_ret
        exact ⟨rfl, HBr.out⟩
      · obtain ⟨d', hd'⟩ : ∃ d', d' + 1 = d := ⟨d - 1, by omega⟩
        have hgt : (d : Int) > 0 := by omega
        have hsub : (d : Int) - 1 = (d' : Int) := by omega
        have HIh := hid (ih d' hd')
        have hb4r : Below (w.heap.size + 4) w4 wr := HB48.out.trans (hbr.mono (by omega))
        obtain ⟨x0, x1, y0, y1, hsr⟩ := HCl.out wr hb4r
        obtain ⟨n0, n1', n2', m0, m1, m2⟩ := HN.out wr hbr
        have HP1 := hid (Part_any wr B _ n1 cap1 l lim 5 (hh : Int) ⟨#[]⟩ (q : Int) (HW1.out wr hb4r) (by omega) HN1.out hc1 (by omega) hwl (wfI_nat (by omega)) (by decide))
        have HBr := hid hbr
        have HB4r := hid hb4r
        have lr5 : w5.heap.size < wr.heap.size := by omega
        have lr7 : w7.heap.size < wr.heap.size := by omega
        have lrb : w.heap.size < wr.heap.size := by omega
        have lrb2 : w.heap.size + 2 < wr.heap.size := by omega
        clear hbr hb4r y0 y1 m0 m1 m2
        go_wp2_with fail
        have hcall := HP1.out
        go_fit hcall
        clear hcall x0 x1 n0 n1' n2'
        rintro e w9 ⟨k1, nn1, s1, r1, rfl, hpt1, hb9⟩
        have hz9 := hb9.size
        obtain ⟨w10, hw10⟩ : ∃ w10, w10 = w9.alloc (.cells #[.int .i64 k1, .int .i64 nn1, .string s1] 37) := ⟨_, rfl⟩
        have hb10 : Below w9.heap.size w9 w10 := by rw [hw10]; exact (Below.refl _ _).alloc (Nat.le_refl _) _
        have hz10 : w10.heap.size = w9.heap.size + 1 := by rw [hw10]; simp
        have f0 : w10.cell? ⟨w9.heap.size, 0, none⟩ = some (.int .i64 k1) := by rw [hw10]; go_simp
        have f1 : w10.cell? ⟨w9.heap.size, 1, none⟩ = some (.int .i64 nn1) := by rw [hw10]; go_simp
        have f2 : w10.cell? ⟨w9.heap.size, 2, none⟩ = some (.string s1) := by rw [hw10]; go_simp
        have hb49 : Below (w.heap.size + 4) w4 w9 := HB4r.out.trans (hb9.mono (by omega))
        have hb89 : Below w8.heap.size w8 w9 := HBr.out.trans (hb9.mono (by omega))
        obtain ⟨x0, x1, y0, y1, _⟩ := HCl.out w9 hb49
        obtain ⟨_, _, _, m0, m1, m2⟩ := HN.out w9 hb89
        have hb410 : Below (w.heap.size + 4) w4 w10 := hb49.trans (hb10.mono (by omega))
        have hb810 : Below w8.heap.size w8 w10 := hb89.trans (hb10.mono (by omega))
        have HP2 := hid (Part_any w10 B _ n2 cap2 g lim 5 (off : Int) ⟨#[]⟩ (q : Int) (HW2.out w10 hb410) (by omega) HN2.out hc2 (by omega) hwg (wfI_nat (by omega)) (by decide))
        have H10 := hid hw10
        rw [hw10] at HP2
        have HB410 := hid hb410
        have HB810 := hid hb810
        have HPt1 := hid hpt1
        have l7 : w7.heap.size < w9.heap.size := by omega
        have lb2 : w.heap.size + 2 < w9.heap.size := by omega
        clear hb9 hb10 hb49 hb89 hb410 hb810 hw10 hpt1 x0 x1
        go_wp2_with fail
        have hcall := HP2.out
        go_fit hcall
        clear hcall
        rw [← H10.out]
        rintro e w11 ⟨k2, nn2, s2, r2, rfl, hpt2, hb11⟩
        have hz11 := hb11.size
        have hp := HTw.out q _ _ _ _ _ _ _ _ HPt1.out hpt2
        have hb411 : Below (w.heap.size + 4) w4 w11 := HB410.out.trans (hb11.mono (by omega))
        have hb811 : Below w8.heap.size w8 w11 := HB810.out.trans (hb11.mono (by omega))
        have l910 : w9.heap.size < w10.heap.size := by omega
        have g0 := (hb11.cell (p := ⟨w9.heap.size, 0, none⟩) l910).trans f0
        have g1 := (hb11.cell (p := ⟨w9.heap.size, 1, none⟩) l910).trans f1
        have g2 := (hb11.cell (p := ⟨w9.heap.size, 2, none⟩) l910).trans f2
        obtain ⟨x0, x1, y0', y1', _⟩ := HCl.out w11 hb411
        have l911 : w9.heap.size < w11.heap.size := by omega
        have lb11 : w.heap.size < w11.heap.size := by omega
        have lb112 : w.heap.size + 2 < w11.heap.size := by omega
        obtain ⟨w12, hw12⟩ : ∃ w12, w12 = w11.alloc (.cells #[.int .i64 k2, .int .i64 nn2, .string s2] 37) := ⟨_, rfl⟩
        have hb12 : Below w11.heap.size w11 w12 := by rw [hw12]; exact (Below.refl _ _).alloc (Nat.le_refl _) _
        have hb412 : Below (w.heap.size + 4) w4 w12 := hb411.trans (hb12.mono (by omega))
        have hb812 : Below w8.heap.size w8 w12 := hb811.trans (hb12.mono (by omega))
        have hz12 := hb12.size
        have HBf := hid (HBw8.out.trans (hb812.mono (by have := HHb.out; omega)))
        have H12 := hid hw12
        have HB812 := hid hb812
        rcases hp with ⟨hq1, rfl, rfl, hvp, hRp⟩ | ⟨hq1, rfl, rfl⟩
        · have HC := hid (HIh.out w12 B _ n1 cap1 _ n2 cap2 ⟨k1, nn1, s1⟩ ⟨k2, nn2, s2⟩ (HW1.out w12 hb412) (HW2.out w12 hb412) (by omega) HN1.out HN2.out hc1 hc2 hvp hRp)
          dsimp only at HC
          rw [hw12] at HC
          clear y0 y1 m0 m1 m2 f0 f1 f2 hb411 hb811 hb412 hb812 hb12 hb11 hw12 hvp hRp hpt2
          go_wp2_with fail
          have hcall := HC.out
          go_fit hcall
          clear hcall
          rw [← H12.out]
          rintro e w13 ⟨rfl, hb13⟩
          have HB13 := hid (HB812.out.trans (hb13.mono (by omega)))
          clear hb13
          go_wp2_with fail
          go_roundw
          case rel => exact ⟨q + 1, by omega, by go_num, HB13.out⟩
          case measure => simp [intOf]; omega
        · clear y0 y1 m0 m1 m2 f0 f1 f2 hb411 hb811 hb412 hb812 hb12 hb11 hw12 hpt2
          go_wp2_with fail
          go_ret
          refine ⟨rfl, ?_⟩
          rw [← H12.out]
          exact HBf.out
theorem alike_any {lim : Int} {l g : List Wd} {acc ord : List Th} (hT : Twin lim l g acc ord) (hwl : wfL l) (hwg : wfL g) : ∀ d, d ≤ 10 → AlikeS lim l g acc ord d
  | 0, _ => alike_step hT hwl hwg 0 (by omega) (fun d' h => by omega)
  | d + 1, hd => alike_step hT hwl hwg (d + 1) hd (fun d' h => by
    obtain rfl : d' = d := by omega
    exact alike_any hT hwl hwg d' (by omega))
end Go.Proofs.Ytfjfobpdlmdddaa
