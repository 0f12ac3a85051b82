/- The things of a heap, one behind the other: heap's addThings. -/
import Derived.Test.YtfjfobpdlmdddaaHAdd
namespace Go.Proofs.Ytfjfobpdlmdddaa
set_option maxRecDepth 100000
open Go.RowKit Go.Maps
/-- Things from the first word on, up to an address. -/
inductive Chain (l : List Wd) : List Th → Nat → Prop
  | nil : Chain l [] 0
  | snoc {acc : List Th} {a f e : Nat} : Chain l acc a → a < l.length → tAt l a = some (f, e) → Chain l (acc ++ [⟨a, f, e⟩]) e
theorem fitT_le {l : List Wd} {f n : Nat} {p : Nat × Nat} (h : fitT l f n = some p) : p.1 = f ∧ f ≤ p.2 ∧ p.2 ≤ l.length := by
  unfold fitT at h
  split at h
  · injection h with h; subst h; exact ⟨rfl, by simp, by simpa⟩
  · cases h
theorem tailT_le {l : List Wd} {f : Nat} {k : Int} {p : Nat × Nat} (h : tailT l f k = some p) : f ≤ p.1 ∧ p.1 ≤ p.2 ∧ p.2 ≤ l.length := by
  unfold tailT at h
  split at h
  · split at h
    · have := fitT_le h; omega
    · cases h
  · have := fitT_le h; omega
theorem tAt_le {l : List Wd} {a f e : Nat} (h : tAt l a = some (f, e)) : a < f ∧ f ≤ e ∧ e ≤ l.length := by
  unfold tAt at h
  split at h
  · cases h
  · split at h
    · cases h
    · split at h
      · split at h
        · have := tailT_le h; omega
        · cases h
      · have := tailT_le h; omega
theorem Chain.le {l : List Wd} {acc : List Th} {a : Nat} (h : Chain l acc a) : a ≤ l.length ∧ acc.length ≤ a := by
  cases h with
  | nil => simp
  | snoc h1 h2 h3 =>
    have := tAt_le h3
    have ih := h1.le
    simp
    omega
theorem frame_box {w w' : World} {b : Nat} {v0 v1 v2 : Value} (hb : w'.heap[b]? = w.heap[b]?) (h : w.cell? ⟨b, 0, none⟩ = some v0 ∧ w.cell? ⟨b, 1, none⟩ = some v1 ∧ w.cell? ⟨b, 2, none⟩ = some v2) : w'.cell? ⟨b, 0, none⟩ = some v0 ∧ w'.cell? ⟨b, 1, none⟩ = some v1 ∧ w'.cell? ⟨b, 2, none⟩ = some v2 :=
  ⟨(World.cell?_of_block (w := w) hb).trans h.1, (World.cell?_of_block (w := w) hb).trans h.2.1, (World.cell?_of_block (w := w) hb).trans h.2.2⟩
set_option maxHeartbeats 2000000 in
theorem addThings_any (w : World) (B cb : Nat) (a : Option Addr) (len cap : Nat) (l : List Wd) (pb mb : Nat) (ms : List (Int × Int)) (v : Value) (hC : Chart w B cb a len cap l v [] pb mb ms) (hlen : len = l.length) (hl : len ≤ 60000) :
    Calls Try.prog 49 #[.pointer (some ⟨cb, 0, none⟩)] w fun e w' => Below B w w' ∧ ((e = .returned (.bool true) ∧ ∃ v' acc, Chain l acc l.length ∧ Chart w' B cb a len cap l v' acc pb mb ms) ∨ (e = .returned (.bool false) ∧ ∃ acc i, Chain l acc i ∧ i < l.length ∧ tAt l i = none)) := by
  have hL := hid hlen
  clear hlen
  go_enter Try.func49, Try.ntmps49
  go_wp2_with fail
  go_loopw [3] (fun i wr => ∃ (k : Nat) (acc : List Th) (v : Value), k ≤ len ∧ i = .int .i64 k ∧ Chain l acc k ∧ Chart wr B cb a len cap l v acc pb mb ms ∧ Below B w wr) (fun i _ => len - (intOf i).toNat)
  case atStart => exact ⟨0, [], v, Nat.zero_le _, rfl, Chain.nil, hC, Below.refl _ _⟩
  case round =>
    obtain ⟨k, acc, v, hk, rfl, hCh, hCr, hBr⟩ := hrel
    have HCh := hid hCh
    have HB := hid hBr
    have c0 := hCr.c0
    have hcb := hCr.hcb
    have hclt := hCr.lt
    clear hCh hBr
    by_cases hlt : k < len
    · have hlt2 : (k : Int) < len := by omega
      go_wp2_with fail
      have hcall := thingAt_any wr B a l len cap k hL.out hl hlt (by omega) hCr.wds
      cases htA : tAt l k with
      | none =>
        rw [htA] at hcall
        go_fit hcall
        clear hcall
        rintro e w1 ⟨rfl, hb1⟩
        dsimp only [thR]
        go_wp2_with fail
        go_ret
        exact ⟨HB.out.trans (Below.alloc (hb1.mono (by omega)) (by have := hb1.size; omega) _), Or.inr ⟨rfl, acc, k, HCh.out, by rw [← hL.out]; exact hlt, htA⟩⟩
      | some p =>
        obtain ⟨f, e⟩ := p
        rw [htA] at hcall
        have hle := tAt_le htA
        have hac := HCh.out.le
        rw [← hL.out] at hle hac
        go_fit hcall
        clear hcall
        rintro e' w1 ⟨rfl, hb1⟩
        dsimp only [thR]
        go_wp2_with fail
        have C1 := hCr.below hb1
        have hz1 := hb1.size
        obtain ⟨w2, hw2⟩ : ∃ w2, w2 = w1.alloc (.cells #[.int .i64 (k : Int), .int .i64 (f : Int), .int .i64 (e : Int)] 81) := ⟨_, rfl⟩
        have hb2 : Below w1.heap.size w1 w2 := by rw [hw2]; exact (Below.refl _ _).alloc (Nat.le_refl _) _
        have hz2 : w2.heap.size = w1.heap.size + 1 := by rw [hw2]; simp
        have tt : w2.cell? ⟨w1.heap.size, 0, none⟩ = some (.int .i64 (k : Int)) ∧ w2.cell? ⟨w1.heap.size, 1, none⟩ = some (.int .i64 (f : Int)) ∧ w2.cell? ⟨w1.heap.size, 2, none⟩ = some (.int .i64 (e : Int)) := by
          rw [hw2]; refine ⟨?_, ?_, ?_⟩ <;> go_simp
        rw [← hw2]
        clear hw2
        have C2 := C1.below hb2
        have hcall := add_any w2 B cb a len cap l v acc pb mb ms ⟨k, f, e⟩ C2 (by omega) (by dsimp only; omega)
        go_fit hcall
        clear hcall
        rintro e'' w3 ⟨rfl, hB3, ⟨v', C3⟩, hfr⟩
        obtain ⟨_, _, t2⟩ := frame_box (hfr w1.heap.size (by omega) (by omega) (by have := C1.pl.lt; omega) (fun hv => by have := (C1.row.own_lt hv).2; omega)) tt
        have HB3 := hid (((HB.out.trans (hb1.mono (by omega))).trans (hb2.mono (by omega))).trans hB3)
        have HC3 := hid C3
        clear hB3 C3 hfr C2 C1 tt hb1 hb2 c0 hCr
        go_wp2_with fail
        go_roundw
        case rel => exact ⟨e, acc ++ [⟨k, f, e⟩], v', hle.2.2, rfl, Chain.snoc HCh.out (by rw [← hL.out]; exact hlt) htA, HC3.out, HB3.out⟩
        case measure => simp [intOf]; omega
    · have hlt2 : ¬ (k : Int) < len := by omega
      go_wp2_with fail
      go_ret
      exact ⟨HB.out, Or.inl ⟨rfl, v, acc, by have h := HCh.out; rw [show k = l.length by rw [← hL.out]; omega] at h; exact h, hCr⟩⟩
end Go.Proofs.Ytfjfobpdlmdddaa
