/- unit.Check: an environment that may be: P2.3. -/
import Derived.Test.YteblglkmkakcjaaUEnv
import Derived.RegionTactic
import Derived.Deep.RegionWith
namespace Go.Proofs.Yteblglkmkakcjaa
set_option maxRecDepth 100000
open Go.RowKit Go.WideMaps Go.Maps
theorem Fill2.words {w0 w : World} {k p : Nat} (h : Fill2 w0 w k keyws p prims) : Words w k p := ⟨h.one.own, h.own⟩
set_option maxHeartbeats 400000 in
theorem Check_any (W : World) (B : Nat) (ga sa : Option Addr) (gs : List ByteArray) (l : List Sh) (gl gc sl sc : Nat) (w : World) (hgl : gl = gs.length) (hsl : sl = l.length) (hg : gl ≤ 9223372036854775807) (hs : sl ≤ 9223372036854775807) (hgc : gl ≤ gc) (hsc : sl ≤ sc)
    (hB : Below B W w) (hBw : B ≤ w.heap.size) (hG : Strs W B ga gs) (hS : Shs W B sa l) :
    Calls Try.prog 35 #[.agg #[.slice ga gl gc, .slice sa sl sc]] w fun e w' => e = .returned (.int .i64 (envI gs l)) ∧ Below w.heap.size w w' := by
  have hb0 := hid ((Below.refl w.heap.size w).alloc (Nat.le_refl _) (.cells #[.slice ga gl gc, .slice sa sl sc] 58))
  have hL := hid hgl
  have hM := hid hsl
  clear hgl hsl
  go_enter Try.func35, Try.ntmps35
  go_wp2_with fail
  go_region_with (first
    | (go_at_call 37; refine (newWords_any _).mono ?_; rintro e w1 ⟨k, p, rfl, hF⟩
       have hb1 : Below (w.heap.size + 1) (w.alloc (.cells #[.slice ga gl gc, .slice sa sl sc] 58)) w1 := by
         have h := hF.one.bel
         exact ⟨h.os, h.tape, h.output, h.size, fun k hk => h.block k (by simpa using hk)⟩
       have hz : w.heap.size + 1 ≤ w1.heap.size := by have h := hb1.size; simpa using h
       obtain ⟨g2, g3⟩ := box22 hb1
       have hW := hid (hF.words)
       have hB1 := hid (hB.trans ((hb0.out.trans (hb1.mono (by omega))).mono hBw))
       clear hF)
    | (go_at_call 38; refine (checkEnv_any W B k p ga sa gs l gl gc sl sc w1 hL.out hM.out hg hs hgc hsc hW.out hB1.out (by omega) hG hS).mono ?_; rintro e w2 ⟨rfl, hb2⟩))
  all_goals (go_wp2; go_ret; exact ⟨rfl, (hb0.out.trans (hb1.mono (by omega))).trans (hb2.mono (by omega))⟩)
end Go.Proofs.Yteblglkmkakcjaa
