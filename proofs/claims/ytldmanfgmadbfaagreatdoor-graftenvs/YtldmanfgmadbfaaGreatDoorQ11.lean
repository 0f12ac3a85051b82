/- Ways through code: vm's come, goOn, hold. -/
import Derived.Test.YtldmanfgmadbfaaGreatDoorQ08
namespace Go.Proofs.YtldmanfgmadbfaaGreatDoor
set_option maxRecDepth 100000
open HH UU VV
open Go.RowKit Go.Maps Go.WideMaps
/-- What lay ahead of N is as it was, but for block g. -/
structure KpB (N g : Nat) (w w' : World) : Prop where
  os : w'.os = w.os
  tape : w'.tape = w.tape
  output : w'.output = w.output
  size : w.heap.size ≤ w'.heap.size
  block : ∀ k, k < N → ¬ k = g → w'.heap[k]? = w.heap[k]?
theorem KpB.refl (N g : Nat) (w : World) : KpB N g w w := ⟨rfl, rfl, rfl, Nat.le_refl _, fun _ _ _ => rfl⟩
theorem KpB.of {N B g : Nat} {w w' : World} (h : Below B w w') (hN : N ≤ B) : KpB N g w w' := ⟨h.os, h.tape, h.output, h.size, fun k hk _ => h.block k (by omega)⟩
theorem KpB.trans {N g : Nat} {a b c : World} (h : KpB N g a b) (k : KpB N g b c) : KpB N g a c :=
  ⟨k.os.trans h.os, k.tape.trans h.tape, k.output.trans h.output, Nat.le_trans h.size k.size, fun i hi hn => (k.block i hi hn).trans (h.block i hi hn)⟩
theorem KpB.mono {N N' g : Nat} {a b : World} (h : KpB N g a b) (hN : N' ≤ N) : KpB N' g a b := ⟨h.os, h.tape, h.output, h.size, fun k hk => h.block k (by omega)⟩
theorem KpB.below {N g B : Nat} {a b : World} (h : KpB N g a b) (hN : B ≤ N) (hg : B ≤ g) : Below B a b := ⟨h.os, h.tape, h.output, h.size, fun k hk => h.block k (by omega) (by omega)⟩
theorem KpB.set (N g j : Nat) (w : World) (v : Value) : KpB N g w (w.setCell ⟨g, j, none⟩ v) :=
  ⟨rfl, rfl, rfl, by simp, fun k _ hk => Below.heap_setCell w ⟨g, j, none⟩ v k hk⟩
theorem KpB.cell {N g : Nat} {w w' : World} (h : KpB N g w w') {b o : Nat} (hb : b < N) (hg : ¬ b = g) : w'.cell? ⟨b, o, none⟩ = w.cell? ⟨b, o, none⟩ := World.cell?_of_block (w := w) (h.block b hb hg)
/-- Heights in a row. -/
def Hgt (w : World) (g : Nat) (hs : List Int) : Prop := ∀ j (h : j < hs.length), w.cell? ⟨g, j, none⟩ = some (.int .i64 hs[j]) ∧ w.frozen? ⟨g, j, none⟩ = false
theorem Hgt.set {w : World} {g : Nat} {hs : List Int} (h : Hgt w g hs) (k : Nat) (x : Int) (_hk : k < hs.length) : Hgt (w.setCell ⟨g, k, none⟩ (.int .i64 x)) g (hs.set k x) := by
  intro j hj
  have hj2 : j < hs.length := by simpa using hj
  refine ⟨?_, by rw [World.frozen?_setCell]; exact (h j hj2).2⟩
  rw [List.getElem_set]
  by_cases e : k = j
  · subst e
    rw [if_pos rfl, World.cell?_setCell_same _ _ _ (h k hj2).1]
  · rw [if_neg e, World.cell?_setCell_other _ _ _ _ (by intro x; injection x with _ x; exact e x), (h j hj2).1]
theorem Hgt.kept {w w' : World} {g : Nat} {hs : List Int} (h : Hgt w g hs) (hb : w'.heap[g]? = w.heap[g]?) : Hgt w' g hs := fun j hj =>
  ⟨(World.cell?_of_block (w := w) (a := ⟨g, j, none⟩) hb).trans (h j hj).1, (World.frozen?_of_block (w := w) (a := ⟨g, j, none⟩) hb).trans (h j hj).2⟩
structure WaysAt (w : World) (y g : Nat) (ca : Option Addr) (cap n : Nat) : Prop where
  lt : y < w.heap.size
  glt : g < w.heap.size
  ne : ¬ y = g
  c0 : w.cell? ⟨y, 0, none⟩ = some (.slice ca n cap)
  c1 : w.cell? ⟨y, 1, none⟩ = some (.slice (some ⟨g, 0, none⟩) n n)
theorem WaysAt.keep {w w' : World} {y g cap n : Nat} {ca : Option Addr} (h : WaysAt w y g ca cap n) (hk : KpB w.heap.size g w w') : WaysAt w' y g ca cap n :=
  ⟨Nat.lt_of_lt_of_le h.lt hk.size, Nat.lt_of_lt_of_le h.glt hk.size, h.ne, (hk.cell h.lt h.ne).trans h.c0, (hk.cell h.lt h.ne).trans h.c1⟩
theorem getD_at {hs : List Int} {k : Nat} (h : k < hs.length) : hs.getD k 0 = hs[k] := by rw [List.getD_eq_getElem?_getD, List.getElem?_eq_getElem h]; rfl
/-- What a step along the ways tells: whether it may be, and the heights then. -/
def CameR (o : Option (List Int)) (g n N : Nat) (w : World) (e : Ending) (w' : World) : Prop :=
  ∃ r hs', e = .returned (.bool r) ∧ o = (if r = true then some hs' else none) ∧ hs'.length = n ∧ Hgt w' g hs' ∧ KpB N g w w'
theorem CameR.no {o : Option (List Int)} {g n N : Nat} {w w' : World} {hs : List Int} (ho : o = none) (hn : hs.length = n) (hH : Hgt w' g hs) (hk : KpB N g w w') : CameR o g n N w (.returned (.bool false)) w' :=
  ⟨false, hs, rfl, by rw [ho]; rfl, hn, hH, hk⟩
theorem CameR.yes {o : Option (List Int)} {g n N : Nat} {w w' : World} {hs : List Int} (ho : o = some hs) (hn : hs.length = n) (hH : Hgt w' g hs) (hk : KpB N g w w') : CameR o g n N w (.returned (.bool true)) w' :=
  ⟨true, hs, rfl, by rw [ho]; rfl, hn, hH, hk⟩
set_option maxHeartbeats 1000000 in
theorem come_any (w : World) (y g cap n k : Nat) (ca : Option Addr) (hs : List Int) (to h : Int) (hY : WaysAt w y g ca cap n) (hH : Hgt w g hs) (hn : hs.length = n) (_hm : n ≤ 9223372036854775807) :
    Calls Tryz.prog 94 #[.pointer (some ⟨y, 0, none⟩), .int .i64 k, .int .i64 to, .int .i64 h] w fun e w' => CameR (comeI hs k to h) g n w.heap.size w e w' := by
  have c0 := hY.c0
  have c1 := hY.c1
  have HH0 := hid hH
  have HN := hid hn
  clear hY hH
  by_cases h1 : to ≤ (k : Int)
  · have hc := hid (show comeI hs k to h = none by unfold comeI; rw [if_pos (Or.inl h1)])
    clear hn
    go_enter Tryz.func94, Tryz.ntmps94
    go_wp2
    go_ret
    exact CameR.no hc.out HN.out HH0.out (KpB.refl _ _ _)
  · by_cases h2 : (n : Int) ≤ to
    · have hc := hid (show comeI hs k to h = none by unfold comeI; rw [if_pos (Or.inr (by rw [hn]; exact h2))])
      clear hn
      go_enter Tryz.func94, Tryz.ntmps94
      go_wp2
      go_ret
      exact CameR.no hc.out HN.out HH0.out (KpB.refl _ _ _)
    · obtain ⟨m, rfl⟩ := Int.eq_ofNat_of_zero_le (show 0 ≤ to by omega)
      have hmn : m < n := by omega
      have hml : m < hs.length := by omega
      have hm2 : (m : Int) < n := by omega
      obtain ⟨d0, d1⟩ := HH0.out m hml
      have hst := HH0.out.set m h hml
      have hg := getD_at hml
      by_cases h3 : 0 ≤ hs[m] ∧ ¬ hs[m] = h
      · have hc := hid (show comeI hs k (m : Int) h = none by unfold comeI; rw [if_neg (by omega), Int.toNat_natCast, hg, if_pos h3])
        obtain ⟨h3a, h3b⟩ := h3
        clear hst hg
        generalize hs[m] = x at d0 h3a h3b
        have h3c : (x != h) = true := by simp [h3b]
        clear hn
        go_enter Tryz.func94, Tryz.ntmps94
        go_wp2
        go_ret
        exact CameR.no hc.out HN.out HH0.out (KpB.refl _ _ _)
      · have hc := hid (show comeI hs k (m : Int) h = some (hs.set m h) by unfold comeI; rw [if_neg (by omega), Int.toNat_natCast, hg, if_neg h3])
        have HS := hid hst
        clear hst hg
        generalize hs[m] = x at d0 h3
        clear hn
        by_cases h4 : 0 ≤ x
        · have h5 : x = h := by
            by_cases e : x = h
            · exact e
            · exact absurd ⟨h4, e⟩ h3
          subst h5
          clear h3
          go_enter Tryz.func94, Tryz.ntmps94
          go_wp2
          go_ret
          exact CameR.yes hc.out (by rw [List.length_set]; exact HN.out) HS.out (KpB.set _ _ _ _ _)
        · clear h3
          go_enter Tryz.func94, Tryz.ntmps94
          go_wp2
          go_ret
          exact CameR.yes hc.out (by rw [List.length_set]; exact HN.out) HS.out (KpB.set _ _ _ _ _)
end Go.Proofs.YtldmanfgmadbfaaGreatDoor
