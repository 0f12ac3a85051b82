/- A value is brought: heap's (*bringer).bring. -/
import Derived.Test.YtfjfobpdlmdddaaHBringP
import Derived.Test.YtfjfobpdlmdddaaHChange
import Derived.Test.YtfjfobpdlmdddaaHKeep
import Derived.Deep.DeepCutAuto
import Derived.Deep.RegionHeld3
namespace Go.Proofs.Ytfjfobpdlmdddaa
set_option maxRecDepth 100000
open Go.RowKit Go.Maps
theorem BrM.named {w w' : World} {B cb : Nat} {a : Option Addr} {len cap : Nat} {l : List Wd} {v : Value} {acc : List Th} {pb mb : Nat} {ms : List (Int × Int)} {nb : Nat} {u : Value} {st : Br} (h : BrM w B cb a len cap l v acc pb mb ms nb u st) (hg : w.grownBy w' (some nb)) {nw' : List (Int × Int)} (hO : OwnsI w' nb nw') :
    BrM w' B cb a len cap l v acc pb mb ms nb u ⟨st.ws, nw'⟩ ∧ Below B w w' := by
  have hB : Below B w w' := (Below.refl _ _).grown hg (by have := h.ch.hcb; have := h.ch.lt; omega) (fun j hj => by injection hj with hj; subst hj; exact h.hnb)
  have hk : ∀ b, b < w.heap.size → ¬ b = nb → w'.heap[b]? = w.heap[b]? := fun b h1 h2 => hg.block b h1 (fun e => h2 (by injection e))
  have hc := hk cb h.ch.lt (fun e => h.n5.1 e.symm)
  refine ⟨⟨h.ch.kept hB (fun b hb hx => hk b hb (fun e => ?_)), (World.cell?_of_block (w := w) (a := ⟨cb, _, none⟩) hc).trans h.c4, (World.cell?_of_block (w := w) (a := ⟨cb, _, none⟩) hc).trans h.c5, (World.frozen?_of_block (w := w) (a := ⟨cb, _, none⟩) hc).trans h.f4, h.row.keep (fun b hv => hk b (h.row.own_lt hv).2 (h.n7 b hv).2.2.2.1), hO, h.hnb, h.n5, h.n6, h.n7⟩, hB⟩
  subst e
  rcases hx with e | e | e | e
  · exact h.n5.1 e
  · exact h.n5.2.1 e
  · exact h.n5.2.2 e
  · exact h.n6 _ e rfl
theorem brM_more {wa w3 : World} {B cb : Nat} {a : Option Addr} {len cap : Nat} {l : List Wd} {v : Value} {acc : List Th} {pb mb : Nat} {ms : List (Int × Int)} {nb : Nat} {u : Value} {st : Br} (h : BrM wa B cb a len cap l v acc pb mb ms nb u st) {x : List Wd} {g cap3 n : Nat}
    (hown : WdL w3 B (.slice (some ⟨g, 0, none⟩) n cap3) (st.ws ++ x)) (hg : wa.grownBy w3 u.ownBlock) (hat : u.ownBlock = some g ∨ g = wa.heap.size) :
    BrM (w3.setCell ⟨cb, 4, none⟩ (.slice (some ⟨g, 0, none⟩) n cap3)) B cb a len cap l v acc pb mb ms nb (.slice (some ⟨g, 0, none⟩) n cap3) ⟨st.ws ++ x, st.nw⟩ ∧ Below B wa (w3.setCell ⟨cb, 4, none⟩ (.slice (some ⟨g, 0, none⟩) n cap3)) ∧ ∀ b, b < wa.heap.size → ¬ b = cb → ¬ u.ownBlock = some b → (w3.setCell ⟨cb, 4, none⟩ (.slice (some ⟨g, 0, none⟩) n cap3)).heap[b]? = wa.heap[b]? := by
  have hlc := h.ch.lt
  have hlp := h.ch.pl.lt
  have hlm := h.ch.mv.lt
  have hln := h.nw.lt
  have hblk : ∀ b, b < wa.heap.size → ¬ u.ownBlock = some b → w3.heap[b]? = wa.heap[b]? := fun b h1 h2 => hg.block b h1 (fun e => h2 e.symm)
  have hB3 : Below B wa w3 := (Below.refl _ _).grown hg (by have := h.ch.hcb; omega) (fun k hk => (h.row.own_lt hk).1)
  have C3 : Chart w3 B cb a len cap l v acc pb mb ms := h.ch.kept hB3 (fun b hb hx => hblk b hb (fun e => by
    have n7 := h.n7 b e
    rcases hx with hx | hx | hx | hx
    · exact n7.1 hx
    · exact n7.2.1 hx
    · exact n7.2.2.1 hx
    · exact n7.2.2.2.2 hx))
  have hc := hblk cb hlc (fun e => (h.n7 cb e).1 rfl)
  have ng : ¬ g = cb ∧ ¬ g = pb ∧ ¬ g = mb ∧ ¬ g = nb ∧ ¬ v.ownBlock = some g := by
    rcases hat with h' | h'
    · exact h.n7 g h'
    · refine ⟨by omega, by omega, by omega, by omega, fun e => ?_⟩
      have := (h.ch.row.own_lt e).2
      omega
  have hoth : ∀ b, ¬ b = cb → (w3.setCell ⟨cb, 4, none⟩ (.slice (some ⟨g, 0, none⟩) n cap3)).heap[b]? = w3.heap[b]? := fun b hb => Below.heap_setCell _ _ _ _ hb
  have e4 := (World.cell?_of_block (w := wa) (a := ⟨cb, 4, none⟩) hc).trans h.c4
  have e5 := (World.cell?_of_block (w := wa) (a := ⟨cb, 5, none⟩) hc).trans h.c5
  have ef := (World.frozen?_of_block (w := wa) (a := ⟨cb, 4, none⟩) hc).trans h.f4
  refine ⟨⟨C3.set4 _, World.cell?_setCell_same _ _ _ e4, (World.cell?_setCell_other _ _ _ _ (by intro e; injection e with _ e; omega)).trans e5, by simpa using ef, hown.keep (fun b hb => hoth b (by simp [Value.ownBlock] at hb; rw [← hb]; exact ng.1)), h.nw.keep ((hoth nb h.n5.1).trans (hblk nb hln (fun e => (h.n7 nb e).2.2.2.1 rfl))), h.hnb, h.n5, h.n6, fun g' hg' => by simp [Value.ownBlock] at hg'; rw [← hg']; exact ng⟩, hB3.setCell (p := ⟨cb, 4, none⟩) h.ch.hcb _, fun b hb hc hu => (hoth b hc).trans (hblk b hb hu)⟩
theorem BrM.kept {w w' : World} {B cb : Nat} {a : Option Addr} {len cap : Nat} {l : List Wd} {v : Value} {acc : List Th} {pb mb : Nat} {ms : List (Int × Int)} {nb : Nat} {u : Value} {st : Br} (h : BrM w B cb a len cap l v acc pb mb ms nb u st) (hB : Below B w w') (hk : ∀ b, b < w.heap.size → (b = cb ∨ b = pb ∨ b = mb ∨ b = nb ∨ v.ownBlock = some b ∨ u.ownBlock = some b) → w'.heap[b]? = w.heap[b]?) : BrM w' B cb a len cap l v acc pb mb ms nb u st := by
  have hc := hk cb h.ch.lt (Or.inl rfl)
  exact ⟨h.ch.kept hB (fun b hb hx => hk b hb (by rcases hx with e | e | e | e <;> simp [e])), (World.cell?_of_block (w := w) (a := ⟨cb, _, none⟩) hc).trans h.c4, (World.cell?_of_block (w := w) (a := ⟨cb, _, none⟩) hc).trans h.c5, (World.frozen?_of_block (w := w) (a := ⟨cb, _, none⟩) hc).trans h.f4, h.row.keep (fun b hv => hk b (h.row.own_lt hv).2 (by simp [hv])), h.nw.keep (hk nb h.nw.lt (by simp)), h.hnb, h.n5, h.n6, h.n7⟩
theorem fin4 (W : World) (g : Nat) (x y0 y1 y2 : Value) : (∀ b, ¬ b = g → ¬ b = g + 1 → ((((W.setCell ⟨g, 1, none⟩ x).setCell ⟨g + 1, 0, none⟩ y0).setCell ⟨g + 1, 1, none⟩ y1).setCell ⟨g + 1, 2, none⟩ y2).heap[b]? = W.heap[b]?) ∧ ∀ B, B ≤ g → Below B W ((((W.setCell ⟨g, 1, none⟩ x).setCell ⟨g + 1, 0, none⟩ y0).setCell ⟨g + 1, 1, none⟩ y1).setCell ⟨g + 1, 2, none⟩ y2) := by
  refine ⟨fun b h1 h2 => ?_, fun B hB => below_set3s ((Below.refl _ _).setCell (p := ⟨g, 1, none⟩) hB x) (by omega)⟩
  rw [Below.heap_setCell _ _ _ _ h2, Below.heap_setCell _ _ _ _ h2, Below.heap_setCell _ _ _ _ h2, Below.heap_setCell _ _ _ _ h1]
/-- A thing in a box that is made beside a call. -/
structure CutT (w4 wx : World) (g : Nat) (x y z : Int) : Prop where
  bel : Below w4.heap.size w4 wx
  glt : g < wx.heap.size
  gge : w4.heap.size ≤ g
  c0 : wx.cell? ⟨g, 0, none⟩ = some (.int .i64 x)
  c1 : wx.cell? ⟨g, 1, none⟩ = some (.int .i64 y)
  c2 : wx.cell? ⟨g, 2, none⟩ = some (.int .i64 z)
theorem cutT_alloc {w4 w5 : World} {x y z : Int} {t : TypeId} (hb : Below w4.heap.size w4 w5) : CutT w4 (w5.alloc (.cells #[.int .i64 x, .int .i64 y, .int .i64 z] t)) w5.heap.size x y z :=
  ⟨hb.alloc hb.size _, by simp, hb.size, by go_simp, by go_simp, by go_simp⟩
theorem cutT_set {w4 w5 : World} {g : Nat} {x y z : Int} {u0 u1 u2 : Value} (hb : Below w4.heap.size w4 w5) (gge : w4.heap.size ≤ g) (glt : g < w5.heap.size) (b0 : w5.cell? ⟨g, 0, none⟩ = some u0) (b1 : w5.cell? ⟨g, 1, none⟩ = some u1) (b2 : w5.cell? ⟨g, 2, none⟩ = some u2) : CutT w4 (((w5.setCell ⟨g, 0, none⟩ (.int .i64 x)).setCell ⟨g, 1, none⟩ (.int .i64 y)).setCell ⟨g, 2, none⟩ (.int .i64 z)) g x y z :=
  ⟨below_set3s hb gge, by simpa using glt, gge, by simp [go_sem, b0], by simp [go_sem, b1], by simp [go_sem, b2]⟩
theorem bx_thr {w w' : World} {u0 u1 u2 : Value} {t : TypeId} (hb : Below (w.alloc (.cells #[u0, u1, u2] t)).drew.heap.size (w.alloc (.cells #[u0, u1, u2] t)).drew w') :
    (w'.cell? ⟨w.heap.size, 0, none⟩ = some u0 ∧ w'.cell? ⟨w.heap.size, 1, none⟩ = some u1 ∧ w'.cell? ⟨w.heap.size, 2, none⟩ = some u2) ∧ (w'.frozen? ⟨w.heap.size, 0, none⟩ = false ∧ w'.frozen? ⟨w.heap.size, 1, none⟩ = false ∧ w'.frozen? ⟨w.heap.size, 2, none⟩ = false) ∧ w.heap.size < w'.heap.size :=
  box_kept w.heap.size rfl (undrew hb)
set_option maxHeartbeats 4000000 in
theorem bring_any (w : World) (B cb : Nat) (a : Option Addr) (len cap : Nat) (l : List Wd) (v : Value) (acc : List Th) (pb mb : Nat) (ms : List (Int × Int)) (nb : Nat) (u : Value) (st : Br) (lim : Int) (hM : BrM w B cb a len cap l v acc pb mb ms nb u st) (hok : OkC lim l acc ms) (hlen : len = l.length) (hcap : len ≤ cap) (hws : st.ws.length ≤ 60000) (hnw : st.nw.length ≤ 60000) (k n : Int) (s : ByteArray) (hn : wfI n) (hs : k = 5 → hasI (plOf acc) n = true) :
    Calls Try.prog 40 #[.pointer (some ⟨cb, 0, none⟩), .agg #[.int .i64 k, .int .i64 n, .string s]] w fun e w' => e = .returned (.agg #[.int .i64 (brg l ms st ⟨k, n, s⟩).2.k, .int .i64 (brg l ms st ⟨k, n, s⟩).2.n, .string (brg l ms st ⟨k, n, s⟩).2.s]) ∧ Below B w w' ∧ (∃ u', BrM w' B cb a len cap l v acc pb mb ms nb u' (brg l ms st ⟨k, n, s⟩).1 ∧ ∀ g, u'.ownBlock = some g → u.ownBlock = some g ∨ w.heap.size ≤ g) ∧ ∀ b, b < w.heap.size → ¬ b = cb → ¬ b = nb → ¬ u.ownBlock = some b → w'.heap[b]? = w.heap[b]? := by
  have bx := boxes33 w (.int .i64 k) (.int .i64 n) (.string s) (.int .i64 0) (.int .i64 0) (.string ⟨#[]⟩) 37 37
  obtain ⟨w1, hw1⟩ : ∃ w1, w1 = (w.alloc (.cells #[.int .i64 k, .int .i64 n, .string s] 37)).alloc (.cells #[.int .i64 0, .int .i64 0, .string ⟨#[]⟩] 37) := ⟨_, rfl⟩
  have hb1 : Below w.heap.size w w1 := by rw [hw1]; exact below_2 _ _ _
  have hz1 : w1.heap.size = w.heap.size + 2 := by rw [hw1]; simp
  rw [← hw1] at bx
  have M1 := hM.below hb1
  have HFd := hid (fun w' (hb : Below w1.heap.size w1 w') => (find_any w' B cb a len cap l v acc pb mb ms (M1.ch.below hb) k n s hn).mono (fun e w'' h => (⟨h.1, hb.trans (h.2.mono hb.size)⟩ : e = .returned (.agg #[.int .i64 k, .int .i64 (atI ms k n), .string s]) ∧ Below w1.heap.size w1 w'')))
  obtain ⟨⟨t0, t1, t2⟩, ⟨r0, r1, r2⟩, ⟨f0, f1, f2⟩, g0, g1, g2⟩ := bx
  have hl0 : w.heap.size < w1.heap.size := by omega
  have hl1 : w.heap.size + 1 < w1.heap.size := by omega
  have HQ := hid (fun w' (hb : Below w1.heap.size w1 w') => (⟨(hb.cell (p := ⟨w.heap.size, 0, none⟩) hl0).trans t0, (hb.cell (p := ⟨w.heap.size, 1, none⟩) hl0).trans t1, (hb.cell (p := ⟨w.heap.size, 2, none⟩) hl0).trans t2, (hb.cell (p := ⟨w.heap.size + 1, 0, none⟩) hl1).trans r0, (hb.cell (p := ⟨w.heap.size + 1, 1, none⟩) hl1).trans r1, (hb.cell (p := ⟨w.heap.size + 1, 2, none⟩) hl1).trans r2⟩ : w'.cell? ⟨w.heap.size, 0, none⟩ = some (.int .i64 k) ∧ w'.cell? ⟨w.heap.size, 1, none⟩ = some (.int .i64 n) ∧ w'.cell? ⟨w.heap.size, 2, none⟩ = some (.string s) ∧ w'.cell? ⟨w.heap.size + 1, 0, none⟩ = some (.int .i64 0) ∧ w'.cell? ⟨w.heap.size + 1, 1, none⟩ = some (.int .i64 0) ∧ w'.cell? ⟨w.heap.size + 1, 2, none⟩ = some (.string ⟨#[]⟩)))
  have HG := hid (fun w' (hb : Below w1.heap.size w1 w') => (⟨(hb.frozen (p := ⟨w.heap.size, 0, none⟩) hl0).trans f0, (hb.frozen (p := ⟨w.heap.size, 1, none⟩) hl0).trans f1, (hb.frozen (p := ⟨w.heap.size, 2, none⟩) hl0).trans f2, (hb.frozen (p := ⟨w.heap.size + 1, 0, none⟩) hl1).trans g0, (hb.frozen (p := ⟨w.heap.size + 1, 1, none⟩) hl1).trans g1, (hb.frozen (p := ⟨w.heap.size + 1, 2, none⟩) hl1).trans g2⟩ : w'.frozen? ⟨w.heap.size, 0, none⟩ = false ∧ w'.frozen? ⟨w.heap.size, 1, none⟩ = false ∧ w'.frozen? ⟨w.heap.size, 2, none⟩ = false ∧ w'.frozen? ⟨w.heap.size + 1, 0, none⟩ = false ∧ w'.frozen? ⟨w.heap.size + 1, 1, none⟩ = false ∧ w'.frozen? ⟨w.heap.size + 1, 2, none⟩ = false))
  have H1 := hid hw1
  have HB1 := hid hb1
  have HM := hid hM
  have HZ1 := hid hz1
  clear hw1 hb1 hM M1 hz1 r0 r1 r2 f0 f1 f2 g0 g1 g2 hl0 hl1
  go_enter Try.func40, Try.ntmps40
  go_upto_region 1 with fail
  rw [← H1.out]
  go_cut [] (fun wx => ∃ w2, Below w1.heap.size w1 w2 ∧ wx = ((w2.setCell ⟨w.heap.size, 0, none⟩ (.int .i64 k)).setCell ⟨w.heap.size, 1, none⟩ (.int .i64 (atI ms k n))).setCell ⟨w.heap.size, 2, none⟩ (.string s))
  case first =>
    go_region_with (go_at_call 32; refine (HFd.out _ (by first | exact bdrew (Below.refl _ _) 1 | exact Below.refl _ _)).mono ?_; rintro e w2 ⟨rfl, hb2⟩; obtain ⟨q0, q1, q2, _, _, _⟩ := HQ.out _ hb2; obtain ⟨i0, i1, i2, _, _, _⟩ := HG.out _ hb2)
    all_goals (go_wp2_with fail; go_meet)
    all_goals exact ⟨w2, hb2, rfl⟩
  case rest =>
    obtain ⟨w2, hb2, hwc⟩ := hcut
    have hz1 := HZ1.out
    have hz2 := hb2.size
    obtain ⟨q0, q1, q2, y0, y1, y2⟩ := HQ.out _ hb2
    obtain ⟨i0, i1, i2, z0, z1, z2⟩ := HG.out _ hb2
    have hzc : wc.heap.size = w2.heap.size := by rw [hwc]; simp
    have hbc : Below w.heap.size w wc := by rw [hwc]; exact below_set3s (HB1.out.trans (hb2.mono (by omega))) (Nat.le_refl _)
    have Mc := HM.out.below hbc
    have p0 : wc.cell? ⟨w.heap.size, 0, none⟩ = some (.int .i64 k) := by rw [hwc]; simp [go_sem, q0]
    have p1 : wc.cell? ⟨w.heap.size, 1, none⟩ = some (.int .i64 (atI ms k n)) := by rw [hwc]; simp [go_sem, q1]
    have p2 : wc.cell? ⟨w.heap.size, 2, none⟩ = some (.string s) := by rw [hwc]; simp [go_sem, q2]
    have e0 : wc.cell? ⟨w.heap.size + 1, 0, none⟩ = some (.int .i64 0) := by rw [hwc]; simp [go_sem, y0]
    have e1 : wc.cell? ⟨w.heap.size + 1, 1, none⟩ = some (.int .i64 0) := by rw [hwc]; simp [go_sem, y1]
    have e2 : wc.cell? ⟨w.heap.size + 1, 2, none⟩ = some (.string ⟨#[]⟩) := by rw [hwc]; simp [go_sem, y2]
    have j1 : wc.frozen? ⟨w.heap.size, 1, none⟩ = false := by rw [hwc]; simpa using i1
    have k0 : wc.frozen? ⟨w.heap.size + 1, 0, none⟩ = false := by rw [hwc]; simpa using z0
    have k1 : wc.frozen? ⟨w.heap.size + 1, 1, none⟩ = false := by rw [hwc]; simpa using z1
    have k2 : wc.frozen? ⟨w.heap.size + 1, 2, none⟩ = false := by rw [hwc]; simpa using z2
    have hlw : w.heap.size < wc.heap.size := by omega
    have hlw1 : w.heap.size + 1 < wc.heap.size := by omega
    have HBc := hid hbc
    clear q0 q1 q2 y0 y1 y2 i0 i1 i2 z0 z1 z2 hwc hb2 hz1 hz2 hzc hbc HFd HQ HG t0 t1 t2
    by_cases h5 : k = 5
    · subst h5
      have hw5 := hok.ways.end_ n (hs rfl)
      obtain ⟨j, hj, hv1, hv2⟩ := hok.chain.val _ hw5.1
      have hmem := hok.chain.mem acc[j] (List.getElem_mem hj)
      have hin := hok.chain.inL j hj
      have h6 : l.length ≤ 60000 := by have := hok.hi; have := hok.room; omega
      have hA : atI ms 5 n = (acc[j].h : Int) := by unfold atI; rw [if_pos rfl]; exact hv2.symm
      rw [← hv2] at hv1
      rw [hA] at p1
      have hF : fndI ms n = (acc[j].h : Int) := hv2.symm
      have hwm : wfI (acc[j].h : Int) := wfI_nat (by omega)
      have hrun : (Instr.lookup 56 (.map (some nb)) (.int .i64 (acc[j].h : Int)) true).run Try.prog wc.drew = .ok (.tuple #[.int .i64 (valI st.nw (acc[j].h : Int)), .bool (hasI st.nw (acc[j].h : Int))]) wc.drew := OwnsI.look2 (w := wc.drew) Mc.nw hwm
      have c5 := Mc.c5
      cases hh : hasI st.nw (acc[j].h : Int)
      · rw [hh] at hrun
        have HR := hid (brg_new (l := l) (ms := ms) (st := st) (x := ⟨5, n, s⟩) (t := acc[j]) rfl (by rw [← hh, ← hF]) hF hmem.2)
        obtain ⟨i0, hi, iz0, iz1, iz2⟩ := info_parts infoWd
        have HI := hid hi
        have HZ0 := hid iz0
        have HZ1 := hid iz1
        have HZ2 := hid iz2
        clear hi iz0 iz1 iz2
        obtain ⟨au, capu, hu, hcu, hWu, hNu, hFu⟩ := Mc.row.cells
        subst hu
        obtain ⟨nu, hnu⟩ : ∃ nu, nu = st.ws.length := ⟨_, rfl⟩
        obtain ⟨w4, hrun4, hO4, hG4⟩ := OwnsI.put (w := wc.drew.drew) (b := nb) (l := st.nw) Mc.nw.drew.drew (by unfold maxLen; omega) (k := (acc[j].h : Int)) (c := (nu : Int)) hwm (wfI_nat (by omega))
        have HG4 : wc.grownBy w4 (some nb) := ⟨hG4.os, hG4.tape, hG4.output, hG4.size, hG4.block⟩
        obtain ⟨M4, hB4⟩ := Mc.named HG4 hO4
        have HTh := hid (fun w' (hb : Below w4.heap.size w4 w') => (chartThing_any w' B cb a len cap l v acc pb mb ms (M4.ch.below hb) (acc[j].h : Int) hwm j hj hv1).mono (fun e w'' (h : e = .returned (.agg #[.int .i64 acc[j].h, .int .i64 acc[j].f, .int .i64 acc[j].e]) ∧ Below w'.heap.size w' w'') => (⟨h.1, hb.trans (h.2.mono hb.size), (hb.trans (h.2.mono hb.size)).size, h.2⟩ : e = .returned (.agg #[.int .i64 acc[j].h, .int .i64 acc[j].f, .int .i64 acc[j].e]) ∧ Below w4.heap.size w4 w'' ∧ w4.heap.size ≤ w''.heap.size ∧ Below w'.heap.size w' w'')))
        have c4 := Mc.c4
        rw [← hnu] at c4 hcu
        have hnbl := HM.out.nw.lt
        have hne : some w.heap.size ≠ some nb := fun e => by injection e with e; omega
        have hne1 : some (w.heap.size + 1) ≠ some nb := fun e => by injection e with e; omega
        have P0 := (HG4.cell_far ⟨w.heap.size, 0, none⟩ hlw hne).trans p0
        have P1 := (HG4.cell_far ⟨w.heap.size, 1, none⟩ hlw hne).trans p1
        have P2 := (HG4.cell_far ⟨w.heap.size, 2, none⟩ hlw hne).trans p2
        have J1 := (HG4.frozen_far ⟨w.heap.size, 1, none⟩ hlw hne).trans j1
        have E0 := (HG4.cell_far ⟨w.heap.size + 1, 0, none⟩ hlw1 hne1).trans e0
        have E1 := (HG4.cell_far ⟨w.heap.size + 1, 1, none⟩ hlw1 hne1).trans e1
        have E2 := (HG4.cell_far ⟨w.heap.size + 1, 2, none⟩ hlw1 hne1).trans e2
        have K0 := (HG4.frozen_far ⟨w.heap.size + 1, 0, none⟩ hlw1 hne1).trans k0
        have K1 := (HG4.frozen_far ⟨w.heap.size + 1, 1, none⟩ hlw1 hne1).trans k1
        have K2 := (HG4.frozen_far ⟨w.heap.size + 1, 2, none⟩ hlw1 hne1).trans k2
        have hz4 := HG4.size
        have hl4 : w.heap.size < w4.heap.size := by omega
        have hl41 : w.heap.size + 1 < w4.heap.size := by omega
        have HS := hid (fun w' (hb : Below w4.heap.size w4 w') => ((hb.cell (p := ⟨w.heap.size, 1, none⟩) hl4).trans P1 : w'.cell? ⟨w.heap.size, 1, none⟩ = some (.int .i64 (acc[j].h : Int))))
        have HM4 := hid M4
        have HB4 := hid hB4
        have HG4' := hid HG4
        have HBk := hid (fun b (h1 : b < w.heap.size) (h2 : ¬ b = nb) => ((HG4.block b (by omega) (fun e => h2 (by injection e))).trans (HBc.out.block b h1) : w4.heap[b]? = w.heap[b]?))
        have HNu := hid hnu
        have HMem := hid hmem
        have HIn := hid hin
        have hteb : acc[j].e ≤ 60000 := by omega
        generalize acc[j].h = th at *
        generalize acc[j].f = tf at *
        generalize acc[j].e = te at *
        generalize hgv : valI st.nw (th : Int) = y at hrun
        clear hgv hin hmem hv1 hv2 hA hwm hF hh hw5 hs Mc hWu hNu hFu hO4 hG4 HG4 M4 hB4 hnu
        go_wp2_with fail
        go_region
        go_upto_region 7 with fail
        go_region
        clear p0 p1 p2 e0 e1 e2 j1 k0 k1 k2 c4 c5 hrun hrun4
        go_upto_region 8 with fail
        clear P1
        go_cut [7] (fun z wx => ∃ g, z = .pointer (some ⟨g, 0, none⟩) ∧ CutT w4 wx g th tf te)
        case first =>
          go_region_held3 (fun w' => w'.cell? ⟨w.heap.size, 1, none⟩ = some (.int .i64 (th : Int)))
            ((refine HS.out _ ?_; first | assumption | (repeat (first | exact bdrew (Below.refl _ _) 1 | exact bdrew ((Below.refl _ _).alloc (Nat.le_refl _) _) 1 | assumption | refine below_set3s ?_ (by first | exact Nat.le_refl _ | assumption | (simp; done) | (simp; omega)) | refine Below.alloc ?_ (by first | exact Nat.le_refl _ | assumption | (simp; omega)) _))))
            (first
            | (go_at_call 54; refine (HTh.out _ (by first | exact bdrew (Below.refl _ _) 1 | exact bdrew ((Below.refl _ _).alloc (Nat.le_refl _) _) 1)).mono ?_; rintro e w5 ⟨rfl, hb5, hz5, hbx⟩; first | (have bx := bx_thr hbx; obtain ⟨⟨b0, b1, b2⟩, ⟨d0, d1, d2⟩, bl⟩ := bx) | skip))
          all_goals (go_wp2_with fail; go_meet)
          all_goals first | exact ⟨_, rfl, cutT_alloc hb5⟩ | exact ⟨_, rfl, cutT_set hb5 (by simp) bl b0 b1 b2⟩
        case rest =>
          obtain ⟨wa, rfl⟩ : ∃ wa, wa = wc := ⟨_, rfl⟩
          obtain ⟨g7, hg7, hT⟩ := hcut
          subst hg7
          have hin := HIn.out
          have Ma := HM4.out.below hT.bel
          rw [← HNu.out] at Ma
          have hza := hT.bel.size
          have p0 := (hT.bel.cell (p := ⟨w.heap.size, 0, none⟩) hl4).trans P0
          have p1 := HS.out _ hT.bel
          have p2 := (hT.bel.cell (p := ⟨w.heap.size, 2, none⟩) hl4).trans P2
          have j1 := (hT.bel.frozen (p := ⟨w.heap.size, 1, none⟩) hl4).trans J1
          have e0 := (hT.bel.cell (p := ⟨w.heap.size + 1, 0, none⟩) hl41).trans E0
          have e1 := (hT.bel.cell (p := ⟨w.heap.size + 1, 1, none⟩) hl41).trans E1
          have e2 := (hT.bel.cell (p := ⟨w.heap.size + 1, 2, none⟩) hl41).trans E2
          have k0 := (hT.bel.frozen (p := ⟨w.heap.size + 1, 0, none⟩) hl41).trans K0
          have k1 := (hT.bel.frozen (p := ⟨w.heap.size + 1, 1, none⟩) hl41).trans K1
          have k2 := (hT.bel.frozen (p := ⟨w.heap.size + 1, 2, none⟩) hl41).trans K2
          have d0 := hT.c0
          have d2 := hT.c2
          have hgl := hT.glt
          have hlcb := Ma.ch.lt
          obtain ⟨ba, oa, rfl, hba, w7a, w7b, w7c⟩ := Ma.ch.wds th hin.1
          clear w7a w7b w7c
          have x0 := Ma.ch.c0
          have x4 := Ma.c4
          have xf := Ma.f4
          have hte : te ≤ len := by omega
          have hcne : ¬ cap = th := by omega
          have jj2 : (th : Int) ≤ te := by omega
          have jj3 : (te : Int) ≤ cap := by omega
          have hWs := wds_sub (f := th) (cap := cap) (e := te) Ma.ch.wds hin.2.2.2 (by omega)
          rw [if_neg hcne] at hWs
          have hsl := sub_length (l := l) (f := th) hin.2.2.2
          have hrow := Ma.row
          unfold WdL at hrow
          dsimp only at hrow
          rw [← HNu.out] at hrow
          have HRow := hid hrow
          have HNews := hid (fun j u (hu : (wcs (sub l th te))[j]? = some u) => (by rw [Addr.add_lit]; exact hWs.at j u hu : wa.cell? ((⟨ba, oa + th * 3, none⟩ : Addr).add j) = some u))
          have HSl := hid (show (wcs (sub l th te)).length = (te - th) * 3 by rw [wcs_length, hsl])
          have hm0 : 0 < te - th := by omega
          have hnu6 : nu ≤ 60000 := by have := HNu.out; omega
          have hBa : B ≤ wa.heap.size := by have := Ma.ch.hcb; omega
          have HFar := hid (fun (w3 : World) (hg : wa.grownBy w3 (Value.slice au nu capu).ownBlock) => (⟨hg.cell_far ⟨cb, 4, none⟩ hlcb (fun e => (Ma.n7 cb e.symm).1 rfl), hg.frozen_far ⟨cb, 4, none⟩ hlcb (fun e => (Ma.n7 cb e.symm).1 rfl)⟩ : w3.cell? ⟨cb, 4, none⟩ = wa.cell? ⟨cb, 4, none⟩ ∧ w3.frozen? ⟨cb, 4, none⟩ = wa.frozen? ⟨cb, 4, none⟩))
          have HMa := hid Ma
          have HTb := hid hT.bel
          have HZa := hid hza
          clear hT Ma hrow hWs hsl hin hza HTh HS HM4 P0 P2 J1 E0 E1 E2 K0 K1 K2
          go_upto_region 9 with fail
          go_cut [] (fun wx => ∃ g cap3 w3, w3.ownsRow B 37 3 (.slice (some ⟨g, 0, none⟩) (nu + (te - th)) cap3) (nu + (te - th)) (wcs st.ws ++ wcs (sub l th te)) ∧ wa.grownBy w3 (Value.slice au nu capu).ownBlock ∧ ((Value.slice au nu capu).ownBlock = some g ∨ g = wa.heap.size) ∧ wx = w3.setCell ⟨cb, 4, none⟩ (.slice (some ⟨g, 0, none⟩) (nu + (te - th)) cap3))
          case first =>
            go_region_law (refine step_append_lies _ rfl (.tmp 51) (.tmp 61) 22 rfl B 37 i0 (.agg #[.int .i64 0, .int .i64 0, .string ⟨#[]⟩]) 3 32 Try.underlying22 HI.out HZ0.out HZ1.out HZ2.out rfl (by decide) (.slice au nu capu) nu (wcs st.ws) (by first | rfl | simp [Act.eval, Act.put]) HRow.out ⟨ba, oa + th * 3, none⟩ (te - th) (cap - th) (wcs (sub l th te)) (by first | rfl | simp [Act.eval, Act.put]) HSl.out HNews.out (wcs_one _) hm0 (by unfold maxLen; omega) (by omega) hBa _ rfl ?_; intro g cap3 w3 hown3 hgrow3 hat3 hlt3; obtain ⟨u1, uf⟩ := HFar.out w3 ⟨hgrow3.os, hgrow3.tape, hgrow3.output, hgrow3.size, hgrow3.block⟩)
            all_goals (go_wp2_with fail; go_meet)
            all_goals exact ⟨g, cap3, w3, hown3, ⟨hgrow3.os, hgrow3.tape, hgrow3.output, hgrow3.size, hgrow3.block⟩, hat3, rfl⟩
          case rest =>
            obtain ⟨g, cap3, w3, hown, hgr, hat, hwx⟩ := hcut
            have hsl := sub_length (l := l) (f := th) HIn.out.2.2.2
            have hWf : WdL w3 B (.slice (some ⟨g, 0, none⟩) (nu + (te - th)) cap3) (st.ws ++ sub l th te) := by unfold WdL; rw [wcs_append, List.length_append, ← HNu.out, hsl]; exact hown
            obtain ⟨Mf, hBf, hof⟩ := brM_more (x := sub l th te) HMa.out hWf hgr hat
            rw [← hwx] at Mf hBf hof
            have hol : ∀ b, (Value.slice au nu capu).ownBlock = some b → b < w.heap.size := fun b e => by rw [HNu.out] at e; exact (HM.out.row.own_lt e).2
            have hcw := HM.out.ch.lt
            have hpw := HM.out.ch.pl.lt
            have hmw := HM.out.ch.mv.lt
            have hza := HZa.out
            have hBw : B ≤ w.heap.size := by have := HM.out.ch.hcb; omega
            have B3 := hof w.heap.size (by omega) (by omega) (fun e => by have := hol _ e; omega)
            have B4 := hof (w.heap.size + 1) (by omega) (by omega) (fun e => by have := hol _ e; omega)
            have P0 := (World.cell?_of_block (w := wa) (a := ⟨w.heap.size, 0, none⟩) B3).trans p0
            have P1 := (World.cell?_of_block (w := wa) (a := ⟨w.heap.size, 1, none⟩) B3).trans p1
            have P2 := (World.cell?_of_block (w := wa) (a := ⟨w.heap.size, 2, none⟩) B3).trans p2
            have J1 := (World.frozen?_of_block (w := wa) (a := ⟨w.heap.size, 1, none⟩) B3).trans j1
            have E0 := (World.cell?_of_block (w := wa) (a := ⟨w.heap.size + 1, 0, none⟩) B4).trans e0
            have E1 := (World.cell?_of_block (w := wa) (a := ⟨w.heap.size + 1, 1, none⟩) B4).trans e1
            have E2 := (World.cell?_of_block (w := wa) (a := ⟨w.heap.size + 1, 2, none⟩) B4).trans e2
            have K0 := (World.frozen?_of_block (w := wa) (a := ⟨w.heap.size + 1, 0, none⟩) B4).trans k0
            have K1 := (World.frozen?_of_block (w := wa) (a := ⟨w.heap.size + 1, 1, none⟩) B4).trans k1
            have K2 := (World.frozen?_of_block (w := wa) (a := ⟨w.heap.size + 1, 2, none⟩) B4).trans k2
            have hall : ∀ b, (b = cb ∨ b = pb ∨ b = mb ∨ b = nb ∨ v.ownBlock = some b ∨ (Value.slice (some ⟨g, 0, none⟩) (nu + (te - th)) cap3).ownBlock = some b) → ¬ b = w.heap.size ∧ ¬ b = w.heap.size + 1 := fun b hb => by
              rcases hb with hb | hb | hb | hb | hb | hb
              · omega
              · omega
              · omega
              · omega
              · have := (HM.out.ch.row.own_lt hb).2; omega
              · simp [Value.ownBlock] at hb
                rcases hat with h | h
                · have := hol _ h; omega
                · omega
            obtain ⟨F1, F2⟩ := fin4 wc w.heap.size (.int .i64 (nu : Int)) (.int .i64 5) (.int .i64 (nu : Int)) (.string s)
            have hBB : Below B w wc := (((HBc.out.mono hBw).trans HB4.out).trans (HTb.out.mono (by omega))).trans hBf
            have HFin := hid (And.intro (hBB.trans (F2 B hBw)) (And.intro (Mf.kept (F2 B hBw) (fun b _ hb => F1 b (hall b hb).1 (hall b hb).2)) (fun b (hb : b < w.heap.size) (h1 : ¬ b = cb) (h2 : ¬ b = nb) (h3 : ¬ (Value.slice au nu capu).ownBlock = some b) => (F1 b (by omega) (by omega)).trans ((hof b (by omega) h1 h3).trans ((HTb.out.block b (by omega)).trans (HBk.out b hb h2))))))
            have HNewG := hid (fun g' (h : (Value.slice (some ⟨g, 0, none⟩) (nu + (te - th)) cap3).ownBlock = some g') => (by
              simp [Value.ownBlock] at h
              subst h
              rcases hat with h | h
              · exact Or.inl h
              · exact Or.inr (by omega) : (Value.slice au nu capu).ownBlock = some g' ∨ w.heap.size ≤ g'))
            have hlx : w.heap.size < wc.heap.size := by have := hBf.size; omega
            have hlx1 : w.heap.size + 1 < wc.heap.size := by have := hBf.size; omega
            clear hown hgr hat hwx hsl hWf Mf hBf hof hol hza B3 B4 hall F1 F2 hBB p0 p1 p2 j1 e0 e1 e2 k0 k1 k2 x0 x4 xf d0 d2
            go_wp2_with fail
            refine bodyPost_ret (v := .agg #[.int .i64 5, .int .i64 (nu : Int), .string s]) (by simp [results, Try.results40, go_sem, E0, E1, E2]) rfl ?_
            rw [HR.out]
            dsimp only
            rw [← HNu.out]
            try rw [← hlen]
            exact ⟨rfl, HFin.out.1, ⟨_, HFin.out.2.1, HNewG.out⟩, HFin.out.2.2⟩
      · rw [hh] at hrun
        have HR := hid (brg_old (l := l) (ms := ms) (st := st) (x := ⟨5, n, s⟩) rfl (by show hasI st.nw (fndI ms n) = true; rw [hF]; exact hh))
        have HF := hid hF
        generalize (acc[j].h : Int) = m at p1 hrun HF
        generalize hgv : valI st.nw m = y at hrun
        have HY := hid hgv
        clear hgv hin hmem hv1 hv2 hA hwm hF hh hw5 hs Mc
        go_wp2_with fail
        go_region
        go_wp2_with fail
        refine bodyPost_ret (v := .agg #[.int .i64 5, .int .i64 y, .string s]) (by simp [results, Try.results40, go_sem, e0, e1, e2]) rfl ?_
        have hF' := HF.out
        have hbf := bdrew (below_set3s (g := w.heap.size + 1) (x0 := .int .i64 5) (x1 := .int .i64 y) (x2 := .string s) (HBc.out.setCell (p := ⟨w.heap.size, 1, none⟩) (Nat.le_refl _) (.int .i64 y)) (by omega)) 1
        rw [HR.out]
        dsimp only
        rw [hF', HY.out]
        exact ⟨rfl, hbf.mono (by have := HM.out.ch.hcb; have := HM.out.ch.lt; omega), ⟨u, HM.out.below hbf, fun g h => Or.inl h⟩, fun b hb _ _ _ => hbf.block b hb⟩
    · have h5b : (k != 5) = true := by simp [h5]
      have hA : atI ms k n = n := by unfold atI; rw [if_neg h5]
      rw [hA] at p1
      have HR := hid (brg_no (l := l) (ms := ms) (st := st) (x := ⟨k, n, s⟩) h5)
      clear Mc
      go_wp2_with fail
      refine bodyPost_ret (v := .agg #[.int .i64 k, .int .i64 n, .string s]) (by simp [results, Try.results40, go_sem, e0, e1, e2]) rfl ?_
      have hbf := below_set3s (g := w.heap.size + 1) (x0 := .int .i64 k) (x1 := .int .i64 n) (x2 := .string s) HBc.out (by omega)
      rw [HR.out]
      exact ⟨rfl, hbf.mono (by have := HM.out.ch.hcb; have := HM.out.ch.lt; omega), ⟨u, HM.out.below hbf, fun g h => Or.inl h⟩, fun b hb _ _ _ => hbf.block b hb⟩
end Go.Proofs.Ytfjfobpdlmdddaa
