/- The document's exprFault at a Let. -/
import Derived.Test.YteblglkmkakcjaaCNames
namespace Go.Proofs.Yteblglkmkakcjaa
set_option maxRecDepth 100000
open Go.RowKit Go.WideMaps Go.Maps
set_option maxHeartbeats 4000000 in
theorem rf_5 (W : World) (B : Nat) (pu : Bool) (olds ro : Int) (hro : RoOk pu olds ro) (d : Nat) (ih : ∀ y l, RfAt W B pu olds ro d y l) (x : Xn) (ks : List Ex) (hk : x.k = 5) : RfAt W B pu olds ro (d + 1) x ks := by
  intro ba bs bl bc w hW hB hF hbs hbl hb40 hbc
  have HBl := hid hbl
  clear hbl
  have hO := hF.1
  have HKs := hid hF.kids
  obtain ⟨m, hml⟩ : ∃ m, m = ks.length := ⟨_, rfl⟩
  rw [← hml] at hO HKs ⊢
  have hb0 := hid ((Below.refl w.heap.size w).alloc (Nat.le_refl _) (.cells (xcs x m) 28))
  have HBx := hid (fun (w' : World) (h : Below (w.heap.size + 1) (w.alloc (.cells (xcs x m) 28)) w') => lies_new h)
  have hm := hO.alen
  have hnl := hO.nlen
  have hs := hO.size
  have hs2 : x.s.size ≤ 9223372036854775807 := by have : maxLen = 9223372036854775807 := rfl; omega
  have HST := hid hO.strs
  have HFine := hid hO.fine
  have HBs := hid hbs
  have HX := hid (exI_is (W := W) (pure := pu) (olds := olds) (d := d) (scope := bs) (x := x) hml)
  have HMany := hid (fun j t => @kid_many (exI W pu olds d) bs x ks m j t hml)
  have HKin := hid (fun j t => @kid_in (exI W pu olds d) bs x ks m j t hml)
  have HKout := hid (fun j t => @kid_out (exI W pu olds d) bs x ks m j t hml)
  rw [← HBl.out] at HMany HKin
  have hnc := hO.ncap
  generalize exI W pu olds (d + 1) bs (.mk x ks) = R at HX ⊢
  generalize kidI (exI W pu olds d) bs x ks = kf at *
  have HF := hid (fun j => firstI_step kf m j)
  have HS := hid (fun j => firstI_stop kf m j)
  have HEn := hid (fun j => firstI_end kf m j)
  clear hO hbs hF hml
  unfold xaloneI at HX
  obtain ⟨k, dk, dn, ds, da, dl, dc, s, n, na, ns, nc, aa, ac⟩ := x
  dsimp only [xv, xcs] at *
  subst hk
  generalize hnn : ns.length = nl at *
  have HNl := hid hnn
  clear hnn
  have hm2 : (m : Int) ≤ 9223372036854775807 := by have : maxLen = 9223372036854775807 := rfl; omega
  have hm3 : (0 : Int) ≤ m := by omega
  have hn2 : (nl : Int) ≤ 1000000000000000 := by omega
  have hRo : (pu = false ∧ olds = 0 ∧ ro = -1) ∨ (pu = true ∧ ro = olds ∧ 0 ≤ olds ∧ olds ≤ 6) := hro
  clear hro
  by_cases hc : (m : Int) = (nl : Int) + 1 ∧ (m : Int) ≤ 7
  · have HC1 := hid (show countB 5 s ns m = true by simp [countB, HNl.out]; omega)
    have hn6 : nl ≤ 6 := by omega
    have hcm := hc.1
    have hcn := hc.2
    clear hc
    have hcb : ((m : Int) == (nl : Int) + 1) = true := by simpa using hcm
    clear hcm
    have HTa := hid (freeTo_all ns)
    rw [HNl.out] at HTa
    go_enter Try.func11, Try.ntmps11
    go_wp2_with fail
    go_loopw [8, 9] (fun ok i wr => ∃ q : Nat, q ≤ nl ∧ i = .int .i64 q ∧ ok = .bool (freeTo ns q) ∧ Below (w.heap.size + 1) (w.alloc (.cells #[.int .i64 5, .int .i64 dk, .int .i64 dn, .string ds, .slice da dl dc, .string s, .int .i64 n, .slice na nl nc, .slice aa m ac] 28)) wr) (fun _ i _ => nl - (intOf i).toNat)
    case atStart => exact ⟨0, Nat.zero_le _, rfl, by rw [freeTo_zero], Below.refl _ _⟩
    case round =>
      obtain ⟨q, hq, rfl, rfl, hbr⟩ := hrel
      have hzr := hbr.size
      simp at hzr
      obtain ⟨c0, c1, c2, c3, c4, c5, c6, c7, c8⟩ := HBx.out _ hbr
      dsimp only at c0 c1 c2 c3 c4 c5 c6 c7 c8; rw [HNl.out] at c7
      have HBr := hid hbr
      clear hbr
      by_cases hlt : q < nl
      · have hlt2 : (q : Int) < nl := by omega
        have hql : q < ns.length := by rw [HNl.out]; exact hlt
        have HSt := hid (HST.out.below ((hW.trans (hb0.out.mono hB)).trans (HBr.out.mono (by omega))))
        obtain ⟨hys0, b, o, rfl, hbB, hcy⟩ := HSt.out q hql
        have HYe := hid (fun h => @freeTo_yes ns q h hql)
        have HNo := hid (@freeTo_no ns q)
        generalize ns[q]'hql = y at *
        have hys : y.size ≤ 9223372036854775807 := by have : maxLen = 9223372036854775807 := rfl; omega
        have hbw : b < wr.heap.size := by omega
        have hq6 : q ≤ nc := by omega
        have hqa : (0 : Int) ≤ q := by omega
        have hqb : (q : Int) ≤ nc := by omega
        have hqc : (q : Int) ≤ nl := by omega
        have HIq := hid (fun (w' : World) (h : Below wr.heap.size wr w') => isIn_any w' B (some ⟨b, o, none⟩) ns q nc y (HSt.out.below (h.mono (by omega))) (by omega) (by omega))
        have HSk := hid (fun (w' : World) (h : Below wr.heap.size wr w') => (⟨h, (h.cell (p := ⟨w.heap.size, 7, none⟩) (by dsimp only; omega)).trans c7, (h.cell (p := ⟨b, o + q, none⟩) (by dsimp only; omega)).trans hcy⟩ : Below wr.heap.size wr w' ∧ w'.cell? ⟨w.heap.size, 7, none⟩ = some (.slice (some ⟨b, o, none⟩) nl nc) ∧ w'.cell? ⟨b, o + q, none⟩ = some (.string y)))
        go_wp2_with fail
        cases hf : freeTo ns q
        · have HFn := hid (HNo.out hf)
          go_quiet (fail)
          go_wp2_with fail
          go_roundw
          case rel => exact ⟨q + 1, by omega, by go_num, by rw [HFn.out], bdrw HBr.out _⟩
          case measure => simp [intOf]; omega
        · have HFy := hid (HYe.out hf)
          cases hfb : freeB y.data.toList
          · refine wp_region_held_drew (S := fun w' => Below wr.heap.size wr w' ∧ w'.cell? ⟨w.heap.size, 7, none⟩ = some (.slice (some ⟨b, o, none⟩) nl nc) ∧ w'.cell? ⟨b, o + q, none⟩ = some (.string y)) (by kernel_rfl) (HSk.out _ (bdrw (Below.refl _ _) 1)) (fun hHeld => ?_)
            refine wpAnyH_take (i := 0) (oi := { dst := some 163, op := Op.move (Operand.tmp 8), type := 4, pos := "code.go:47", after := #[], guard := none }) (v := ?v0) rfl (by kernel_rfl) (by kernel_rfl) (by kernel_rfl) (fun _ _ _ h => h) (Or.inl ⟨by rfl, ?hy0⟩) (by assumption) ?rest0
            case hy0 => (intro w hSw; (try dsimp only at hSw); go_simp <;> with_reducible rfl)
            simp only [Act.put, List.setIfInBounds_toArray, List.set_cons_zero, List.set_cons_succ]
            refine wpAnyH_take (i := 1) (oi := { dst := some 164, op := Op.move (Operand.tmp 163), type := 4, pos := "code.go:47", after := #[{ on := 0, ground := Ground.data }], guard := none }) (v := ?v1) rfl (by kernel_rfl) (by kernel_rfl) (by kernel_rfl) (fun _ _ _ h => h) (Or.inl ⟨by rfl, ?hy1⟩) (by assumption) ?rest1
            case hy1 => (intro w hSw; (try dsimp only at hSw); go_simp <;> with_reducible rfl)
            simp only [Act.put, List.setIfInBounds_toArray, List.set_cons_zero, List.set_cons_succ]
            refine wpAnyH_take (i := 2) (oi := { dst := some 165, op := Op.fieldAddr 28 (Operand.tmp 3) 4, type := 0, pos := "code.go:47", after := #[{ on := 1, ground := Ground.guard }], guard := some (1, true) }) (v := ?v2) rfl (by kernel_rfl) (by kernel_rfl) (by kernel_rfl) (fun _ _ _ h => h) (Or.inl ⟨by rfl, ?hy2⟩) (by assumption) ?rest2
            case hy2 => (intro w hSw; (try dsimp only at hSw); go_simp <;> with_reducible rfl)
            simp only [Act.put, List.setIfInBounds_toArray, List.set_cons_zero, List.set_cons_succ]
            refine wpAnyH_take (i := 3) (oi := { dst := some 166, op := Op.load 25 (Operand.tmp 165), type := 25, pos := "code.go:47", after := #[{ on := 2, ground := Ground.data }, { on := 1, ground := Ground.guard }], guard := some (1, true) }) (v := ?v3) rfl (by kernel_rfl) (by kernel_rfl) (by kernel_rfl) (fun _ _ _ h => h) (Or.inl ⟨by rfl, ?hy3⟩) (by assumption) ?rest3
            case hy3 => (intro w hSw; (try dsimp only at hSw); go_simp <;> with_reducible rfl)
            simp only [Act.put, List.setIfInBounds_toArray, List.set_cons_zero, List.set_cons_succ]
            refine wpAnyH_take (i := 4) (oi := { dst := some 167, op := Op.move (Operand.tmp 9), type := 3, pos := "code.go:47", after := #[{ on := 1, ground := Ground.guard }], guard := some (1, true) }) (v := ?v4) rfl (by kernel_rfl) (by kernel_rfl) (by kernel_rfl) (fun _ _ _ h => h) (Or.inl ⟨by rfl, ?hy4⟩) (by assumption) ?rest4
            case hy4 => (intro w hSw; (try dsimp only at hSw); go_simp <;> with_reducible rfl)
            simp only [Act.put, List.setIfInBounds_toArray, List.set_cons_zero, List.set_cons_succ]
            refine wpAnyH_take (i := 5) (oi := { dst := some 168, op := Op.indexAddr 25 (Operand.tmp 166) (Operand.tmp 167), type := 0, pos := "code.go:47", after := #[{ on := 3, ground := Ground.data }, { on := 4, ground := Ground.data }, { on := 1, ground := Ground.guard }], guard := some (1, true) }) (v := ?v5) rfl (by kernel_rfl) (by kernel_rfl) (by kernel_rfl) (fun _ _ _ h => h) (Or.inl ⟨by rfl, ?hy5⟩) (by assumption) ?rest5
            case hy5 => (intro w hSw; (try dsimp only at hSw); go_simp <;> with_reducible rfl)
            simp only [Act.put, List.setIfInBounds_toArray, List.set_cons_zero, List.set_cons_succ]
            refine wpAnyH_take (i := 6) (oi := { dst := some 169, op := Op.load 9 (Operand.tmp 168), type := 9, pos := "code.go:47", after := #[{ on := 5, ground := Ground.data }, { on := 1, ground := Ground.guard }], guard := some (1, true) }) (v := ?v6) rfl (by kernel_rfl) (by kernel_rfl) (by kernel_rfl) (fun _ _ _ h => h) (Or.inl ⟨by rfl, ?hy6⟩) (by assumption) ?rest6
            case hy6 => (intro w hSw; (try dsimp only at hSw); go_simp <;> with_reducible rfl)
            simp only [Act.put, List.setIfInBounds_toArray, List.set_cons_zero, List.set_cons_succ]
            refine wpAnyH_ready (rs := [7]) (by kernel_rfl) (by simp) ?_
            refine AllReadyH.cons rfl (fun K hK => ?_) AllReadyH.nil
            go_simp
            go_wp2_with (go_at_call 19; refine (freeName_any _ _ hys).mono ?_; rintro e w2 ⟨rfl, hb2⟩; rw [hfb]; have hb2' : Below wr.heap.size wr w2 := (bdrw (Below.refl _ _) 1).trans (hb2.mono (Nat.le_refl _)))
            refine hK.out _ _ (HSk.out _ hb2') (fun hHeld2 => ?_)
            clear hK K hHeld
            try simp only [Act.put, List.setIfInBounds_toArray, List.set_cons_zero, List.set_cons_succ]
            refine wpAnyH_take (i := 8) (oi := { dst := some 171, op := Op.pick (Operand.tmp 164) (Operand.tmp 170) (Operand.const (Value.bool false)), type := 4, pos := "code.go:47", after := #[{ on := 1, ground := Ground.data }, { on := 7, ground := Ground.data }], guard := none }) (v := ?v8) rfl (by kernel_rfl) (by kernel_rfl) (by kernel_rfl) (fun _ _ _ h => h) (Or.inl ⟨by rfl, ?hy8⟩) (by assumption) ?rest8
            case hy8 => (intro w hSw; (try dsimp only at hSw); go_simp <;> with_reducible rfl)
            simp only [Act.put, List.setIfInBounds_toArray, List.set_cons_zero, List.set_cons_succ]
            refine wpAnyH_take (i := 9) (oi := { dst := some 172, op := Op.move (Operand.tmp 171), type := 4, pos := "code.go:47", after := #[{ on := 8, ground := Ground.data }, { on := 7, ground := Ground.chain }], guard := none }) (v := ?v9) rfl (by kernel_rfl) (by kernel_rfl) (by kernel_rfl) (fun _ _ _ h => h) (Or.inl ⟨by rfl, ?hy9⟩) (by assumption) ?rest9
            case hy9 => (intro w hSw; (try dsimp only at hSw); go_simp <;> with_reducible rfl)
            simp only [Act.put, List.setIfInBounds_toArray, List.set_cons_zero, List.set_cons_succ]
            refine wpAnyH_take (i := 10) (oi := { dst := some 173, op := Op.fieldAddr 28 (Operand.tmp 3) 4, type := 0, pos := "code.go:47", after := #[{ on := 9, ground := Ground.guard }], guard := some (9, true) }) (v := undef) rfl (by kernel_rfl) (by kernel_rfl) (by kernel_rfl) (fun _ _ _ h => h) (Or.inr ⟨by rfl, rfl⟩) (by assumption) ?_
            simp only [Act.put, List.setIfInBounds_toArray, List.set_cons_zero, List.set_cons_succ]
            refine wpAnyH_take (i := 11) (oi := { dst := some 174, op := Op.load 25 (Operand.tmp 173), type := 25, pos := "code.go:47", after := #[{ on := 10, ground := Ground.data }, { on := 9, ground := Ground.guard }], guard := some (9, true) }) (v := undef) rfl (by kernel_rfl) (by kernel_rfl) (by kernel_rfl) (fun _ _ _ h => h) (Or.inr ⟨by rfl, rfl⟩) (by assumption) ?_
            simp only [Act.put, List.setIfInBounds_toArray, List.set_cons_zero, List.set_cons_succ]
            refine wpAnyH_take (i := 12) (oi := { dst := some 175, op := Op.move (Operand.tmp 9), type := 3, pos := "code.go:47", after := #[{ on := 9, ground := Ground.guard }], guard := some (9, true) }) (v := undef) rfl (by kernel_rfl) (by kernel_rfl) (by kernel_rfl) (fun _ _ _ h => h) (Or.inr ⟨by rfl, rfl⟩) (by assumption) ?_
            simp only [Act.put, List.setIfInBounds_toArray, List.set_cons_zero, List.set_cons_succ]
            refine wpAnyH_take (i := 13) (oi := { dst := some 176, op := Op.slice 25 (Operand.tmp 174) none (some (Operand.tmp 175)) none, type := 25, pos := "code.go:47", after := #[{ on := 11, ground := Ground.data }, { on := 12, ground := Ground.data }, { on := 9, ground := Ground.guard }], guard := some (9, true) }) (v := undef) rfl (by kernel_rfl) (by kernel_rfl) (by kernel_rfl) (fun _ _ _ h => h) (Or.inr ⟨by rfl, rfl⟩) (by assumption) ?_
            simp only [Act.put, List.setIfInBounds_toArray, List.set_cons_zero, List.set_cons_succ]
            refine wpAnyH_take (i := 14) (oi := { dst := some 177, op := Op.fieldAddr 28 (Operand.tmp 3) 4, type := 0, pos := "code.go:47", after := #[{ on := 9, ground := Ground.guard }], guard := some (9, true) }) (v := undef) rfl (by kernel_rfl) (by kernel_rfl) (by kernel_rfl) (fun _ _ _ h => h) (Or.inr ⟨by rfl, rfl⟩) (by assumption) ?_
            simp only [Act.put, List.setIfInBounds_toArray, List.set_cons_zero, List.set_cons_succ]
            refine wpAnyH_take (i := 15) (oi := { dst := some 178, op := Op.load 25 (Operand.tmp 177), type := 25, pos := "code.go:47", after := #[{ on := 14, ground := Ground.data }, { on := 9, ground := Ground.guard }], guard := some (9, true) }) (v := undef) rfl (by kernel_rfl) (by kernel_rfl) (by kernel_rfl) (fun _ _ _ h => h) (Or.inr ⟨by rfl, rfl⟩) (by assumption) ?_
            simp only [Act.put, List.setIfInBounds_toArray, List.set_cons_zero, List.set_cons_succ]
            refine wpAnyH_take (i := 16) (oi := { dst := some 179, op := Op.move (Operand.tmp 9), type := 3, pos := "code.go:47", after := #[{ on := 9, ground := Ground.guard }], guard := some (9, true) }) (v := undef) rfl (by kernel_rfl) (by kernel_rfl) (by kernel_rfl) (fun _ _ _ h => h) (Or.inr ⟨by rfl, rfl⟩) (by assumption) ?_
            simp only [Act.put, List.setIfInBounds_toArray, List.set_cons_zero, List.set_cons_succ]
            refine wpAnyH_take (i := 17) (oi := { dst := some 180, op := Op.indexAddr 25 (Operand.tmp 178) (Operand.tmp 179), type := 0, pos := "code.go:47", after := #[{ on := 15, ground := Ground.data }, { on := 16, ground := Ground.data }, { on := 9, ground := Ground.guard }], guard := some (9, true) }) (v := undef) rfl (by kernel_rfl) (by kernel_rfl) (by kernel_rfl) (fun _ _ _ h => h) (Or.inr ⟨by rfl, rfl⟩) (by assumption) ?_
            simp only [Act.put, List.setIfInBounds_toArray, List.set_cons_zero, List.set_cons_succ]
            refine wpAnyH_take (i := 18) (oi := { dst := some 181, op := Op.load 9 (Operand.tmp 180), type := 9, pos := "code.go:47", after := #[{ on := 17, ground := Ground.data }, { on := 9, ground := Ground.guard }], guard := some (9, true) }) (v := undef) rfl (by kernel_rfl) (by kernel_rfl) (by kernel_rfl) (fun _ _ _ h => h) (Or.inr ⟨by rfl, rfl⟩) (by assumption) ?_
            simp only [Act.put, List.setIfInBounds_toArray, List.set_cons_zero, List.set_cons_succ]
            refine wpAnyH_ready (rs := [19]) (by kernel_rfl) (by simp) ?_
            refine AllReadyH.cons (o := { dst := some 182, op := Op.call { callee := Callee.value (Operand.func 18), args := #[Operand.tmp 176, Operand.tmp 181], argTypes := #[25, 9] }, type := 4, pos := "code.go:47", after := #[{ on := 13, ground := Ground.data }, { on := 18, ground := Ground.data }, { on := 9, ground := Ground.chain }, { on := 9, ground := Ground.guard }], guard := some (9, true) }) rfl (fun K hK => ?_) AllReadyH.nil
            rw [if_neg ?hn19]
            case hn19 => exact fun h => Bool.noConfusion (show false = true from h)
            refine hK.out _ _ hHeld2 (fun hHeld => ?_)
            clear hK K hHeld2
            simp only [Act.put, List.setIfInBounds_toArray, List.set_cons_zero, List.set_cons_succ]
            refine wpAnyH_take (i := 20) (oi := { dst := some 183, op := Op.unOp UnOp.not 4 (Operand.tmp 182), type := 4, pos := "code.go:47", after := #[{ on := 19, ground := Ground.data }, { on := 9, ground := Ground.guard }], guard := some (9, true) }) (v := undef) rfl (by kernel_rfl) (by kernel_rfl) (by kernel_rfl) (fun _ _ _ h => h) (Or.inr ⟨by rfl, rfl⟩) (by assumption) ?_
            simp only [Act.put, List.setIfInBounds_toArray, List.set_cons_zero, List.set_cons_succ]
            refine wpAnyH_take (i := 21) (oi := { dst := some 184, op := Op.pick (Operand.tmp 172) (Operand.tmp 183) (Operand.const (Value.bool false)), type := 4, pos := "code.go:47", after := #[{ on := 9, ground := Ground.data }, { on := 20, ground := Ground.data }], guard := none }) (v := ?v21) rfl (by kernel_rfl) (by kernel_rfl) (by kernel_rfl) (fun _ _ _ h => h) (Or.inl ⟨by rfl, ?hy21⟩) (by assumption) ?rest21
            case hy21 => (intro w hSw; (try dsimp only at hSw); go_simp <;> with_reducible rfl)
            simp only [Act.put, List.setIfInBounds_toArray, List.set_cons_zero, List.set_cons_succ]
            refine wpAnyH_take (i := 22) (oi := { dst := some 8, op := Op.assign (Operand.tmp 184), type := 4, pos := "code.go:47", after := #[{ on := 21, ground := Ground.data }, { on := 19, ground := Ground.chain }, { on := 0, ground := Ground.phase }, { on := 1, ground := Ground.phase }, { on := 2, ground := Ground.phase }, { on := 3, ground := Ground.phase }, { on := 4, ground := Ground.phase }, { on := 5, ground := Ground.phase }, { on := 6, ground := Ground.phase }, { on := 7, ground := Ground.phase }, { on := 8, ground := Ground.phase }, { on := 9, ground := Ground.phase }, { on := 10, ground := Ground.phase }, { on := 11, ground := Ground.phase }, { on := 12, ground := Ground.phase }, { on := 13, ground := Ground.phase }, { on := 14, ground := Ground.phase }, { on := 15, ground := Ground.phase }, { on := 16, ground := Ground.phase }, { on := 17, ground := Ground.phase }, { on := 18, ground := Ground.phase }, { on := 19, ground := Ground.phase }, { on := 20, ground := Ground.phase }, { on := 21, ground := Ground.phase }], guard := none }) (v := ?v22) rfl (by kernel_rfl) (by kernel_rfl) (by kernel_rfl) (fun _ _ _ h => h) (Or.inl ⟨by rfl, ?hy22⟩) (by assumption) ?rest22
            case hy22 => (intro w hSw; (try dsimp only at hSw); go_simp <;> with_reducible rfl)
            simp only [Act.put, List.setIfInBounds_toArray, List.set_cons_zero, List.set_cons_succ]
            refine wpAnyH_done (by kernel_rfl) ?_ _
            go_wp2_with fail
            go_roundw
            case rel => exact ⟨q + 1, by omega, by go_num, by rw [HFy.out, hfb]; rfl, HBr.out.trans (hb2'.mono (by omega))⟩
            case measure => simp [intOf]; omega
          · cases hhi : hasS (ns.take q) y
            all_goals
              go_region_held3 (fun w' => Below wr.heap.size wr w' ∧ w'.cell? ⟨w.heap.size, 7, none⟩ = some (.slice (some ⟨b, o, none⟩) nl nc) ∧ w'.cell? ⟨b, o + q, none⟩ = some (.string y))
                ((refine HSk.out _ ?_; first | exact bdrw (Below.refl _ _) 1 | assumption))
                (first
                | (go_at_call 19; refine (freeName_any _ _ hys).mono ?_; rintro e w2 ⟨rfl, hb2⟩; rw [hfb]; have hb2' : Below wr.heap.size wr w2 := (bdrw (Below.refl _ _) 1).trans (hb2.mono (Nat.le_refl _)))
                | (go_at_call 18; refine (HIq.out _ (by assumption)).mono ?_; rintro e w3 ⟨rfl, hw3⟩; rw [hhi]; obtain rfl := hw3.symm))
            all_goals
              go_wp2_with fail
              go_roundw
              case rel => exact ⟨q + 1, by omega, by go_num, by rw [HFy.out, hfb, hhi]; rfl, HBr.out.trans (hb2'.mono (by omega))⟩
              case measure => simp [intOf]; omega
      · have hlt2 : ¬ (q : Int) < nl := by omega
        obtain rfl : q = nl := by omega
        rw [HTa.out]
        have Hst := HBr
        cases hfa : freeAll ns
        · have HR0 := hid (show R = 6 by rw [HX.out, HC1.out]; simp [namedB, hfa])
          go_wp2_with fail
          go_ret
          exact ⟨ret_int HR0.out.symm, hb0.out.trans (Hst.out.mono (by omega))⟩
        · have HN1 := hid (show namedB 5 s n ns bs = true by simp [namedB, hfa])
          rcases hRo with ⟨hpu, hol, hr⟩ | ⟨hpu, hr, hr0, hr6⟩
          · obtain rfl : ro = -1 := hr
            have HPu := hid hpu
            clear hpu hol
            have HR0 := hid (show R = firstI kf 0 m by rw [HX.out, HC1.out, HN1.out, HPu.out]; simp)
            go_wp2_with fail
            go_loopw [10] (fun i wr => ∃ j : Nat, j ≤ m ∧ i = .int .i64 j ∧ R = firstI kf j (m - j) ∧ Below (w.heap.size + 1) (w.alloc (.cells #[.int .i64 5, .int .i64 dk, .int .i64 dn, .string ds, .slice da dl dc, .string s, .int .i64 n, .slice na q nc, .slice aa m ac] 28)) wr) (fun i _ => m - (intOf i).toNat)
            case atStart => exact ⟨0, Nat.zero_le _, rfl, HR0.out, Hst.out⟩
            case round =>
              clear Hst
              obtain ⟨j, hj, rfl, hfi, hbr⟩ := hrel
              have HFi := hid hfi
              clear hfi
              have hzr := hbr.size
              simp at hzr
              obtain ⟨c0, c1, c2, c3, c4, c5, c6, c7, c8⟩ := HBx.out _ hbr
              dsimp only at c0 c1 c2 c3 c4 c5 c6 c7 c8; rw [HNl.out] at c7
              have HWr := hid ((hW.trans (hb0.out.mono hB)).trans (hbr.mono (by omega)))
              have HBw := hid (hb0.out.trans (hbr.mono (by omega)))
              have HBr := hid hbr
              clear hbr
              by_cases hlt : j < m
              · have hlt2 : (j : Int) < m := by omega
                obtain ⟨y, l, b, o, hget, rfl, hbB, hL, hFk⟩ := HKs.out j hlt
                have hbw : b < wr.heap.size := by omega
                have hwx : w.heap.size < wr.heap.size := by omega
                have HFj := hid (HF.out j hlt)
                have HSj := hid (HS.out j hlt)
                cases hjb : ((j : Int) == (m : Int) - 1)
                · have HBn := hid (show bindsB 5 m j = false by simp [bindsB]; simpa using hjb)
                  have HKj := hid (HKout.out j _ hget HBn.out)
                  rw [HKj.out] at HFj HSj
                  obtain ⟨l0, l1, l2, l3, l4, l5, l6, l7, l8⟩ := hL.below HWr.out hbB
                  have HC := hid (ih y l ba bs bl bc wr HWr.out (by omega) hFk ((HBs.out.below HBw.out).mono (by omega)) HBl.out hb40 hbc)
                  generalize exI W pu olds d bs (.mk y l) = r at HC HFj HSj HKj
                  clear hL hget hFk
                  generalize l.length = ml at *
                  obtain ⟨k', dk', dn', ds', da', dl', dc', s', n', na', ns', nc', aa', ac'⟩ := y
                  dsimp only [xv, xcs] at *
                  generalize ns'.length = nl' at *
                  go_wp2_with fail
                  have hcall := HC.out
                  go_fit hcall
                  clear hcall
                  rintro e w4 ⟨rfl, hb4⟩
                  by_cases hr : r = 0
                  · have HSS := hid (HFj.out hr)
                    go_wp2_with fail
                    go_roundw
                    case rel => exact ⟨j + 1, by omega, by go_num, HFi.out.trans HSS.out, HBr.out.trans (hb4.mono (by omega))⟩
                    case measure => simp [intOf]; omega
                  · have hrb : (r == 0) = false := by simpa using hr
                    have HTT := hid (HFi.out.trans (HSj.out hr))
                    go_wp2_with fail
                    go_ret
                    exact ⟨ret_int HTT.out.symm, hb0.out.trans ((HBr.out.trans (hb4.mono (by omega))).mono (by omega))⟩
                · have HBn := hid (show bindsB 5 m j = true by simp [bindsB]; simpa using hjb)
                  have hst2 := (HST.out.below HWr.out).mono (show B ≤ wr.heap.size by omega)
                  have hbs2 := (HBs.out.below HBw.out).mono (show w.heap.size ≤ wr.heap.size by omega)
                  have HCc := hid (texts2 wr ba na bs ns bl q bc nc wr.heap.size rfl HBl.out HNl.out.symm hbs2 hst2 hb40 hn6)
                  clear hst2 hbs2
                  go_wp2_with fail
                  have hcall := HCc.out
                  go_fit hcall
                  clear hcall
                  rintro e w3 ⟨a3, cap3, rfl, hcap3, hstr3, hb3⟩
                  have hz3 := hb3.size
                  simp at hz3
                  have HB3 := hid (((Below.refl wr.heap.size wr).alloc (Nat.le_refl _) (.cells #[.slice ba bl bc, .slice na q nc] 25)).trans (hb3.mono (by omega)))
                  have HBr3 := hid (HBr.out.trans (HB3.out.mono (by omega)))
                  have HW3 := hid (HWr.out.trans (HB3.out.mono (by omega)))
                  clear c0 c1 c2 c3 c4 c5 c6 c7 c8 hb3
                  obtain ⟨c0, c1, c2, c3, c4, c5, c6, c7, c8⟩ := HBx.out _ HBr3.out
                  dsimp only at c0 c1 c2 c3 c4 c5 c6 c7 c8; rw [HNl.out] at c7
                  obtain ⟨l0, l1, l2, l3, l4, l5, l6, l7, l8⟩ := hL.below HW3.out hbB
                  have hsum : (bl : Int) + q ≤ 46 := by omega
                  by_cases h40 : 40 < bl + q
                  · have HKj := hid (HMany.out j _ hget HBn.out (by first | exact h40 | (rw [HNl.out]; exact h40)))
                    rw [HKj.out] at HSj
                    have h402 : (40 : Int) < (bl + q : Nat) := by omega
                    have HTT := hid (HFi.out.trans (HSj.out (by omega)))
                    generalize bl + q = bn at *
                    go_wp2_with fail
                    go_ret
                    exact ⟨ret_int HTT.out.symm, hb0.out.trans (HBr3.out.mono (by omega))⟩
                  · have HKj := hid (HKin.out j _ hget HBn.out (by first | exact h40 | (rw [HNl.out]; exact h40)))
                    rw [HKj.out] at HFj HSj
                    have h402 : ¬ (40 : Int) < (bl + q : Nat) := by omega
                    have HC := hid (ih y l a3 (bs ++ ns) (bl + q) cap3 w3 HW3.out (by omega) hFk hstr3 (by rw [List.length_append, HBl.out, HNl.out]) (by omega) hcap3)
                    generalize exI W pu olds d (bs ++ ns) (.mk y l) = r at HC HFj HSj HKj
                    clear hL hget hFk
                    generalize bl + q = bn at *
                    generalize l.length = ml at *
                    obtain ⟨k', dk', dn', ds', da', dl', dc', s', n', na', ns', nc', aa', ac'⟩ := y
                    dsimp only [xv, xcs] at *
                    generalize ns'.length = nl' at *
                    go_wp2_with fail
                    have hcall := HC.out
                    go_fit hcall
                    clear hcall
                    rintro e w4 ⟨rfl, hb4⟩
                    by_cases hr : r = 0
                    · have HSS := hid (HFj.out hr)
                      go_wp2_with fail
                      go_roundw
                      case rel => exact ⟨j + 1, by omega, by go_num, HFi.out.trans HSS.out, HBr3.out.trans (hb4.mono (by omega))⟩
                      case measure => simp [intOf]; omega
                    · have hrb : (r == 0) = false := by simpa using hr
                      have HTT := hid (HFi.out.trans (HSj.out hr))
                      go_wp2_with fail
                      go_ret
                      exact ⟨ret_int HTT.out.symm, hb0.out.trans ((HBr3.out.trans (hb4.mono (by omega))).mono (by omega))⟩
              · have hlt2 : ¬ (j : Int) < m := by omega
                have HE2 := hid (HFi.out.trans (HEn.out j hlt))
                go_wp2_with fail
                go_ret
                exact ⟨ret_int HE2.out.symm, HBw.out⟩
          · have HPu := hid hpu
            have hr7 : ¬ ro < 0 := by omega
            clear hpu hr hr6
            have HR0 := hid (show R = 15 by rw [HX.out, HC1.out, HN1.out, HPu.out]; simp [pureB])
            go_wp2_with fail
            go_ret
            exact ⟨ret_int HR0.out.symm, hb0.out.trans (Hst.out.mono (by omega))⟩
  · have HC1 := hid (show countB 5 s ns m = false by simp [countB, HNl.out]; omega)
    have HR0 := hid (show R = 10 by rw [HX.out, HC1.out]; simp)
    have hcase : ((m : Int) == (nl : Int) + 1) = false ∨ ((m : Int) = (nl : Int) + 1 ∧ ¬ (m : Int) ≤ 7) := by
      by_cases h : (m : Int) = (nl : Int) + 1
      · exact Or.inr ⟨h, by omega⟩
      · exact Or.inl (by simpa using h)
    have Hst := hid (Below.refl (w.heap.size + 1) (w.alloc (.cells #[.int .i64 5, .int .i64 dk, .int .i64 dn, .string ds, .slice da dl dc, .string s, .int .i64 n, .slice na nl nc, .slice aa m ac] 28)))
    rcases hcase with hcb | ⟨hcm, hcn⟩
    · clear hc
      go_enter Try.func11, Try.ntmps11
      go_wp2_with fail
      go_ret
      exact ⟨ret_int HR0.out.symm, hb0.out.trans (Hst.out.mono (by omega))⟩
    · have hcb : ((m : Int) == (nl : Int) + 1) = true := by simpa using hcm
      clear hc hcm
      go_enter Try.func11, Try.ntmps11
      go_wp2_with fail
      go_ret
      exact ⟨ret_int HR0.out.symm, hb0.out.trans (Hst.out.mono (by omega))⟩
end Go.Proofs.Yteblglkmkakcjaa
