/- The document's FoundOf. -/
import Derived.Test.YtdeefckneailpaaHFind
import Derived.Test.YtdeefckneailpaaHFault
namespace Go.Proofs.Ytdeefckneailpaa
set_option maxRecDepth 100000
open Go.RowKit Go.Maps
set_option maxHeartbeats 2000000 in
theorem FoundOf_any (w : World) (B : Nat) (a : Option Addr) (len cap : Nat) (l : List Wd) (lim : Int) (k n : Int) (s : ByteArray) (hW : Wds w B a l) (hB : B ≤ w.heap.size) (hlen : len = l.length) (hl : len ≤ 9223372036854775807) (k' n' : Int) (s' : ByteArray) (r : Int) (hd : FdI lim l k n s k' n' s' r) :
    Calls Try.prog 14 #[.agg #[.slice a len cap, .int .i64 lim], .agg #[.int .i64 k, .int .i64 n, .string s]] w fun e w' => e = .returned (.tuple #[.agg #[.int .i64 k', .int .i64 n', .string s'], .int .i64 r]) ∧ Below w.heap.size w w' := by
  have HL := hid hlen
  clear hlen
  obtain ⟨w2, hw2⟩ : ∃ w2, w2 = ((w.alloc (.cells #[.slice a len cap, .int .i64 lim] 24)).alloc (.cells #[.int .i64 k, .int .i64 n, .string s] 30)).alloc (.cells #[.int .i64 0, .int .i64 0, .string ⟨#[]⟩] 30) := ⟨_, rfl⟩
  obtain ⟨⟨y0, y1⟩, ⟨t0, t1, t2⟩, ⟨r0, r1, r2⟩, ⟨f0, f1, f2⟩, hz2, hb2⟩ := boxes233 w _ _ _ _ _ _ _ _ _ _ _ w2 hw2
  have HC := hid (ValueFault_any w2 B a len cap l lim k n s (hW.below (hb2.mono hB)) (by omega) HL.out hl)
  have H2 := hid hw2
  have HB2 := hid hb2
  clear hw2 hb2
  go_enter Try.func14, Try.ntmps14
  go_wp2_with fail
  rw [← H2.out]
  have hcall := HC.out
  go_fit hcall
  clear hcall
  rintro e w4 ⟨r', rfl, hr', hb4⟩
  have hrr := cv_vf hd.cv hr'
  rw [← hrr]
  clear hrr hr'
  have hB4 := hid (HB2.out.trans (hb4.mono (by omega)))
  have hz4 := hb4.size
  have x0 := (hb4.cell (p := ⟨w.heap.size, 0, none⟩) (by dsimp only; omega)).trans y0
  have v0 := (hb4.cell (p := ⟨w.heap.size + 1, 0, none⟩) (by dsimp only; omega)).trans t0
  have v1 := (hb4.cell (p := ⟨w.heap.size + 1, 1, none⟩) (by dsimp only; omega)).trans t1
  have v2 := (hb4.cell (p := ⟨w.heap.size + 1, 2, none⟩) (by dsimp only; omega)).trans t2
  have q0 := (hb4.cell (p := ⟨w.heap.size + 2, 0, none⟩) (by dsimp only; omega)).trans r0
  have q1 := (hb4.cell (p := ⟨w.heap.size + 2, 1, none⟩) (by dsimp only; omega)).trans r1
  have q2 := (hb4.cell (p := ⟨w.heap.size + 2, 2, none⟩) (by dsimp only; omega)).trans r2
  have g0 := (hb4.frozen (p := ⟨w.heap.size + 2, 0, none⟩) (by dsimp only; omega)).trans f0
  have g1 := (hb4.frozen (p := ⟨w.heap.size + 2, 1, none⟩) (by dsimp only; omega)).trans f1
  have g2 := (hb4.frozen (p := ⟨w.heap.size + 2, 2, none⟩) (by dsimp only; omega)).trans f2
  clear hb4 y0 y1 t0 t1 t2 r0 r1 r2 f0 f1 f2
  rcases hd with ⟨acc, ms, hok, hv, rfl, rfl, rfl, rfl⟩ | ⟨⟨rfl, rfl, rfl⟩, hno⟩
  · have hcall := where_any w4 B a len cap l (hW.below (hB4.out.mono hB)) (by omega) HL.out acc ms hok.ways k' n s' (fun h5 => val_ref hv h5)
    have HCl := hid hcall
    clear hcall
    go_wp2_with fail
    have hcall := HCl.out
    go_fit hcall
    clear hcall
    rintro e w6 ⟨rfl, hb6⟩
    have hB6 := hid (hB4.out.trans (hb6.mono (by omega)))
    have p0 := (hb6.cell (p := ⟨w.heap.size + 2, 0, none⟩) (by dsimp only; omega)).trans q0
    have p1 := (hb6.cell (p := ⟨w.heap.size + 2, 1, none⟩) (by dsimp only; omega)).trans q1
    have p2 := (hb6.cell (p := ⟨w.heap.size + 2, 2, none⟩) (by dsimp only; omega)).trans q2
    have e0 := (hb6.frozen (p := ⟨w.heap.size + 2, 0, none⟩) (by dsimp only; omega)).trans g0
    have e1 := (hb6.frozen (p := ⟨w.heap.size + 2, 1, none⟩) (by dsimp only; omega)).trans g1
    have e2 := (hb6.frozen (p := ⟨w.heap.size + 2, 2, none⟩) (by dsimp only; omega)).trans g2
    clear hb6 q0 q1 q2 g0 g1 g2
    go_wp2_with fail
    refine bodyPost_ret (v := .tuple #[.agg #[.int .i64 k', .int .i64 (atI ms k' n), .string s'], .int .i64 0]) (by simp [results, Try.results14, go_sem, p0, p1, p2]) rfl ⟨rfl, below_set3s hB6.out (by omega)⟩
  · have hr : ¬ r = 0 := by rcases hno with ⟨rfl, _⟩ | ⟨rfl, _⟩ <;> omega
    have hrb : (r != 0) = true := by simp [hr]
    clear hno
    go_wp2_with fail
    refine bodyPost_ret (v := .tuple #[.agg #[.int .i64 0, .int .i64 0, .string ⟨#[]⟩], .int .i64 r]) (by simp [results, Try.results14, go_sem, q0, q1, q2]) rfl ⟨rfl, below_set3s hB4.out (by omega)⟩
end Go.Proofs.Ytdeefckneailpaa
