/- The bringer brings the values of all that was brought: bringParts. -/
import Derived.Test.YtfjfobpdlmdddaaHCollS
import Derived.RegionTactic
import Derived.Deep.RegionWith
namespace Go.Proofs.Ytfjfobpdlmdddaa
set_option maxRecDepth 100000
open Go.RowKit Go.Maps
theorem WdL.open {w : World} {B : Nat} {v : Value} {l : List Wd} (h : WdL w B v l) (hl : 0 < l.length) : ∃ g cap, v = .slice (some ⟨g, 0, none⟩) l.length cap ∧ l.length ≤ cap ∧ B ≤ g ∧ g < w.heap.size ∧ Wds w w.heap.size (some ⟨g, 0, none⟩) l ∧ ∀ j, w.frozen? ⟨g, j, none⟩ = false := by
  obtain ⟨a, cap, rfl, h1, h2, h3, h4⟩ := h.cells
  rcases h.2 with ⟨hv, h0⟩ | ⟨g, cap', cur, hv, hb, hc, _⟩
  · omega
  · injection hv with e1 e2 e3
    subst e1
    exact ⟨g, cap, rfl, h1, hb, (h.own_lt (g := g) rfl).2, h2, h4 _ rfl⟩
/-- A word of what was brought is another one. -/
theorem BrM.put {w : World} {B cb : Nat} {a : Option Addr} {len cap : Nat} {l : List Wd} {v : Value} {acc : List Th} {pb mb : Nat} {ms : List (Int × Int)} {nb g n capu : Nat} {st : Br} (h : BrM w B cb a len cap l v acc pb mb ms nb (.slice (some ⟨g, 0, none⟩) n capu) st) {q : Nat} (hq : q < st.ws.length) (x : Wd) (W : World) (hW : W = set3 w g (q * 3) (.int .i64 x.k) (.int .i64 x.n) (.string x.s)) :
    BrM W B cb a len cap l v acc pb mb ms nb (.slice (some ⟨g, 0, none⟩) n capu) ⟨st.ws.set q x, st.nw⟩ ∧ Below B w W ∧ ∀ b, ¬ b = g → W.heap[b]? = w.heap[b]? := by
  subst hW
  have n7 := h.n7 g rfl
  have hg := h.row.own_lt (g := g) rfl
  have hoth : ∀ b, ¬ b = g → (set3 w g (q * 3) (.int .i64 x.k) (.int .i64 x.n) (.string x.s)).heap[b]? = w.heap[b]? := fun b hb => by
    rw [Below.heap_setCell _ _ _ _ (by dsimp only; omega), Below.heap_setCell _ _ _ _ (by dsimp only; omega), Below.heap_setCell _ _ _ _ (by dsimp only; omega)]
  have hB : Below B w (set3 w g (q * 3) (.int .i64 x.k) (.int .i64 x.n) (.string x.s)) := (((Below.refl _ _).setCell (p := ⟨g, _, none⟩) hg.1 _).setCell (p := ⟨g, _, none⟩) hg.1 _).setCell (p := ⟨g, _, none⟩) hg.1 _
  have hc := hoth cb (fun e => n7.1 e.symm)
  refine ⟨⟨h.ch.kept hB (fun b _ hx => hoth b (fun e => ?_)), (World.cell?_of_block (w := w) (a := ⟨cb, _, none⟩) hc).trans h.c4, (World.cell?_of_block (w := w) (a := ⟨cb, _, none⟩) hc).trans h.c5, (World.frozen?_of_block (w := w) (a := ⟨cb, _, none⟩) hc).trans h.f4, h.row.put hq x, h.nw.keep (hoth nb (fun e => n7.2.2.2.1 e.symm)), h.hnb, h.n5, h.n6, h.n7⟩, hB, hoth⟩
  subst e
  rcases hx with hx | hx | hx | hx
  · exact n7.1 hx
  · exact n7.2.1 hx
  · exact n7.2.2.1 hx
  · exact n7.2.2.2.2 hx
/-- Behind a world w, in which the words lay in u: the bringer now, and what is as it was. -/
structure PSt (w : World) (B cb : Nat) (a : Option Addr) (len cap : Nat) (l : List Wd) (v : Value) (acc : List Th) (pb mb : Nat) (ms : List (Int × Int)) (nb : Nat) (u : Value) (wr : World) (st' : Br) (u' : Value) : Prop where
  M : BrM wr B cb a len cap l v acc pb mb ms nb u' st'
  bel : Below B w wr
  keep : ∀ b, b < w.heap.size → ¬ b = cb → ¬ b = nb → ¬ u.ownBlock = some b → wr.heap[b]? = w.heap[b]?
  uo : ∀ g, u'.ownBlock = some g → u.ownBlock = some g ∨ w.heap.size ≤ g
section
variable {w : World} {B cb : Nat} {a : Option Addr} {len cap : Nat} {l : List Wd} {v : Value} {acc : List Th} {pb mb : Nat} {ms : List (Int × Int)} {nb : Nat} {u : Value} {wr : World} {st' : Br} {u' : Value}
theorem PSt.refl (h : BrM w B cb a len cap l v acc pb mb ms nb u st') : PSt w B cb a len cap l v acc pb mb ms nb u w st' u := ⟨h, Below.refl _ _, fun _ _ _ _ _ => rfl, fun _ h => Or.inl h⟩
theorem PSt.below (h : PSt w B cb a len cap l v acc pb mb ms nb u wr st' u') {w2 : World} (hb : Below wr.heap.size wr w2) : PSt w B cb a len cap l v acc pb mb ms nb u w2 st' u' := by
  have hz := h.bel.size
  have hB : B ≤ wr.heap.size := by have := h.M.ch.hcb; have := h.M.ch.lt; omega
  exact ⟨h.M.below hb, h.bel.trans (hb.mono hB), fun b h1 h2 h3 h4 => (hb.block b (by omega)).trans (h.keep b h1 h2 h3 h4), h.uo⟩
theorem PSt.trans {w2 : World} {st2 : Br} {u2 : Value} (h : PSt w B cb a len cap l v acc pb mb ms nb u wr st' u') (k : PSt wr B cb a len cap l v acc pb mb ms nb u' w2 st2 u2) : PSt w B cb a len cap l v acc pb mb ms nb u w2 st2 u2 := by
  have hz := h.bel.size
  refine ⟨k.M, h.bel.trans k.bel, fun b h1 h2 h3 h4 => (k.keep b (by omega) h2 h3 (fun e => ?_)).trans (h.keep b h1 h2 h3 h4), fun g hg => ?_⟩
  · rcases h.uo b e with h5 | h5
    · exact h4 h5
    · omega
  · rcases k.uo g hg with h5 | h5
    · exact h.uo g h5
    · exact Or.inr (by omega)
end
/-- Within a thing that was brought: the values ahead of k are brought, too. -/
def InS (l : List Wd) (acc : List Th) (ms : List (Int × Int)) (ord : List Th) (j : Nat) (hj : j < ord.length) (V : Br) (k : Nat) (st : Br) : Prop :=
  ∃ r, Inv l acc st (ord ++ r) j k ∧ V = valsV l ms ord[j].h (offT ord j) st k (szT ord[j] - k)
theorem InS.step {l : List Wd} {acc : List Th} {ms : List (Int × Int)} {lim : Int} {ord : List Th} {j : Nat} {hj : j < ord.length} {V : Br} {k : Nat} {st : Br} (h : InS l acc ms ord j hj V k st) (hok : OkC lim l acc ms) (hwf : wfL l) (hf : ord[j].f - ord[j].h ≤ k) (hk : k < szT ord[j]) :
    ∃ x : Wd, st.ws[offT ord j + k]? = some x ∧ (x.k = 5 → hasI (plOf acc) x.n = true) ∧ wfI x.n ∧ InS l acc ms ord j hj V (k + 1) ⟨(brg l ms st x).1.ws.set (offT ord j + k) (brg l ms st x).2, (brg l ms st x).1.nw⟩ := by
  obtain ⟨r, hI, hV⟩ := h
  have eg : (ord ++ r)[j]'(by simp; omega) = ord[j] := List.getElem_append_left hj
  have eo := offT_apps ord r j (by omega)
  obtain ⟨x, h1, h2, h3⟩ := hI.val hok (by simp; omega) (by rw [eg]; exact hf) (by rw [eg]; exact hk)
  obtain ⟨e, r2, hI2⟩ := hI.step hok (by simp; omega) (by rw [eg]; exact hf) (by rw [eg]; exact hk) h1 h3
  rw [eg, eo] at e hI2
  rw [eo] at h2
  rw [eg] at h1
  obtain ⟨hlt, hx⟩ := List.getElem?_eq_some_iff.1 h1
  refine ⟨x, h2, h3, by rw [← hx]; exact (hwf _ hlt).1, r ++ r2, ?_, ?_⟩
  · rw [← e, ← List.append_assoc]; exact hI2
  · rw [hV, vals_step l ms _ _ st k _ hk, e]
theorem InS.small {l : List Wd} {acc : List Th} {ms : List (Int × Int)} {lim : Int} {ord : List Th} {j : Nat} {hj : j < ord.length} {V : Br} {k : Nat} {st : Br} (h : InS l acc ms ord j hj V k st) (hok : OkC lim l acc ms) : st.ws.length ≤ 60000 ∧ st.nw.length ≤ 60000 ∧ offT ord j + szT ord[j] ≤ st.ws.length := by
  obtain ⟨r, hI, _⟩ := h
  obtain ⟨h1, h2, h3⟩ := hI.small hok.chain
  have := hok.room
  have := hok.hi
  have e1 := offT_succ (ord ++ r) j (by simp; omega)
  have eg : (ord ++ r)[j]'(by simp; omega) = ord[j] := List.getElem_append_left hj
  rw [eg, offT_apps ord r j (by omega)] at e1
  have e2 := offT_le (ord ++ r) (j + 1) ((ord ++ r).length - (j + 1)) (by simp; omega)
  rw [show j + 1 + ((ord ++ r).length - (j + 1)) = (ord ++ r).length by simp; omega, ← hI.len] at e2
  exact ⟨by omega, by omega, by omega⟩
theorem InS.done {l : List Wd} {acc : List Th} {ms : List (Int × Int)} {ord : List Th} {j : Nat} {hj : j < ord.length} {V : Br} {st : Br} (h : InS l acc ms ord j hj V (szT ord[j]) st) : V = st ∧ ∃ r, Inv l acc st (ord ++ r) (j + 1) 0 ∧ offT (ord ++ r) (j + 1) = offT ord j + szT ord[j] ∧ j + 1 ≤ (ord ++ r).length := by
  obtain ⟨r, hI, hV⟩ := h
  rw [Nat.sub_self, valsV] at hV
  have e1 := offT_succ (ord ++ r) j (by simp; omega)
  have eg : (ord ++ r)[j]'(by simp; omega) = ord[j] := List.getElem_append_left hj
  rw [eg, offT_apps ord r j (by omega)] at e1
  exact ⟨hV, r, hI.next, e1, by simp; omega⟩
set_option maxHeartbeats 4000000 in
theorem bringParts_any (w : World) (B cb : Nat) (a : Option Addr) (len cap : Nat) (l : List Wd) (v : Value) (acc : List Th) (pb mb : Nat) (ms : List (Int × Int)) (nb : Nat) (u : Value) (st : Br) (lim : Int) (hM : BrM w B cb a len cap l v acc pb mb ms nb u st) (hok : OkC lim l acc ms) (hlen : len = l.length) (hcap : len ≤ cap) (hwf : wfL l)
    (ord : List Th) (hI : Inv l acc st ord 0 0) :
    Calls Try.prog 27 #[.pointer (some ⟨cb, 0, none⟩)] w fun e w' => e = .returned (.tuple #[]) ∧ ∃ u', PSt w B cb a len cap l v acc pb mb ms nb u w' (partsV l ms 60001 st 0) u' := by
  have HOk := hid hok
  have HLen := hid hlen
  have hl6 : l.length ≤ 60000 := by have := hok.room; have := hok.hi; omega
  have HInv := hid hI
  have HM := hid hM
  have HWf := hid hwf
  clear hok hlen hI hM hwf
  generalize hFin : partsV l ms 60001 st 0 = FIN
  have HFin := hid hFin
  clear hFin
  go_enter Try.func27, Try.ntmps27
  go_wp2_with fail
  go_loopw [2] (fun i wr => ∃ (j : Nat) (st' : Br) (ord' : List Th) (u' : Value), i = .int .i64 (offT ord' j : Nat) ∧ j ≤ ord'.length ∧ Inv l acc st' ord' j 0 ∧ PSt w B cb a len cap l v acc pb mb ms nb u wr st' u' ∧ FIN = partsV l ms (60001 - j) st' j) (fun i _ => 60001 - (intOf i).toNat)
  case atStart => exact ⟨0, st, ord, u, rfl, Nat.zero_le _, HInv.out, PSt.refl HM.out, HFin.out.symm⟩
  case round =>
    obtain ⟨j, st', ord', u', rfl, hj, hI', hP, hF⟩ := hrel
    obtain ⟨hw6, hn6, ho6⟩ := hI'.small HOk.out.chain
    have hlen' := hI'.len
    have HF := hid hF
    have HP := hid hP
    have HI := hid hI'
    have c4 := hP.M.c4
    have c4l := hP.M.ch.lt
    obtain ⟨au, capu, hu, hcu, hWu, _, _⟩ := hP.M.row.cells
    clear hF hP hI'
    by_cases hlt : j < ord'.length
    · have hta := (HOk.out.chain.mem _ (HI.out.mem _ (List.getElem_mem hlt))).2
      have hle := tAt_le hta
      have hsh := HI.out.shape HOk.out.chain j hlt
      have HSt := hid (parts_step (ms := ms) (n := 60000 - j) HI.out HOk.out.chain hlt)
      rw [show 60000 - j + 1 = 60001 - j by omega, show 60000 - j = 60001 - (j + 1) by omega] at HSt
      have hs0 : InS l acc ms ord' j hlt (valsV l ms ord'[j].h (offT ord' j) st' (ord'[j].f - ord'[j].h) (szT ord'[j] - (ord'[j].f - ord'[j].h))) (ord'[j].f - ord'[j].h) st' := ⟨[], by rw [List.append_nil]; exact HI.out.skip (Nat.zero_le _), rfl⟩
      have hsm := hs0.small HOk.out
      have HS0 := hid hs0
      have HF2 := hid (HF.out.trans HSt.out)
      have HStp := hid (fun k st'' (h : InS l acc ms ord' j hlt (valsV l ms ord'[j].h (offT ord' j) st' (ord'[j].f - ord'[j].h) (szT ord'[j] - (ord'[j].f - ord'[j].h))) k st'') (h1 : ord'[j].f - ord'[j].h ≤ k) (h2 : k < szT ord'[j]) => h.step HOk.out HWf.out h1 h2)
      have HSm := hid (fun k st'' (h : InS l acc ms ord' j hlt (valsV l ms ord'[j].h (offT ord' j) st' (ord'[j].f - ord'[j].h) (szT ord'[j] - (ord'[j].f - ord'[j].h))) k st'') => h.small HOk.out)
      have HDn := hid (fun st'' (h : InS l acc ms ord' j hlt (valsV l ms ord'[j].h (offT ord' j) st' (ord'[j].f - ord'[j].h) (szT ord'[j] - (ord'[j].f - ord'[j].h))) (szT ord'[j]) st'') => h.done)
      have hsz : szT ord'[j] = ord'[j].e - ord'[j].h := rfl
      generalize valsV l ms ord'[j].h (offT ord' j) st' (ord'[j].f - ord'[j].h) (szT ord'[j] - (ord'[j].f - ord'[j].h)) = V at *
      have hfs : ord'[j].f - ord'[j].h ≤ szT ord'[j] := by omega
      have hz1 : 0 < szT ord'[j] := by omega
      rw [show ord'[j].e - ord'[j].h = szT ord'[j] from rfl] at hsh
      generalize ord'[j].f - ord'[j].h = fr at *
      generalize szT ord'[j] = sz at *
      generalize offT ord' j = off at *
      clear hta hle hsz hlen' HSt hs0 HF
      rw [hu] at c4
      obtain ⟨ff, hff⟩ : ∃ ff, ff = off + fr := ⟨_, rfl⟩
      obtain ⟨ee, hee⟩ : ∃ ee, ee = off + sz := ⟨_, rfl⟩
      rw [← hff, ← hee] at hsh
      have HFf := hid hff
      have HEe := hid hee
      have hnu : off < st'.ws.length := by omega
      have hee6 : ee ≤ 60000 := by omega
      clear hff hee
      have hT := thingAt_any wr wr.heap.size au st'.ws st'.ws.length capu off rfl (by omega) hnu (Nat.le_refl _) hWu
      rw [hsh] at hT
      have HT := hid hT
      have hn6' : st'.ws.length ≤ 60000 := by omega
      clear hT hsh hWu
      generalize st'.ws.length = nu at *
      have hnu2 : (off : Int) < nu := by omega
      have hlts := HP.out.M.lts
      have HLts := hid hlts
      clear hlts
      go_wp2_with fail
      have hcall := HT.out
      go_fit hcall
      clear hcall
      rintro e w2 ⟨rfl, hb2⟩
      dsimp only [thR]
      have hz2 := hb2.size
      obtain ⟨w3, hw3⟩ : ∃ w3, w3 = w2.alloc (.cells #[.int .i64 (off : Int), .int .i64 (ff : Int), .int .i64 (ee : Int)] 81) := ⟨_, rfl⟩
      have hb3 : Below w2.heap.size w2 w3 := by rw [hw3]; exact (Below.refl _ _).alloc (Nat.le_refl _) _
      have hz3 : w3.heap.size = w2.heap.size + 1 := by rw [hw3]; simp
      have t1 : w3.cell? ⟨w2.heap.size, 1, none⟩ = some (.int .i64 (ff : Int)) := by rw [hw3]; go_simp
      have t2 : w3.cell? ⟨w2.heap.size, 2, none⟩ = some (.int .i64 (ee : Int)) := by rw [hw3]; go_simp
      have HP3 := hid (HP.out.below (hb2.trans (hb3.mono hz2)))
      have HW3 := hid hw3
      have HTb : Hid (¬ w2.heap.size = cb ∧ ¬ w2.heap.size = nb ∧ ¬ u'.ownBlock = some w2.heap.size) := hid (⟨fun e => by have := HLts.out cb (by simp); omega, fun e => by have := HLts.out nb (by simp); omega, fun e => by have := HLts.out _ (Or.inr (Or.inr (Or.inr (Or.inr (Or.inr e))))); omega⟩)
      clear hb2 hb3 hw3 c4
      go_wp2_with fail
      rw [← HW3.out]
      go_loopw [5] (fun i wq => ∃ (ii k : Nat) (st'' : Br) (u'' : Value), i = .int .i64 ii ∧ ii = off + k ∧ fr ≤ k ∧ k ≤ sz ∧ InS l acc ms ord' j hlt V k st'' ∧ PSt w3 B cb a len cap l v acc pb mb ms nb u' wq st'' u'') (fun i _ => ee - (intOf i).toNat)
      case atStart => exact ⟨ff, fr, st', u', rfl, HFf.out, Nat.le_refl _, hfs, HS0.out, PSt.refl HP3.out.M⟩
      case round =>
        obtain ⟨ii, k, st'', u'', rfl, hii, hk1, hk2, hIS, hPq⟩ := hrel
        have hzq := hPq.bel.size
        have hkt := hPq.keep w2.heap.size (by omega) HTb.out.1 HTb.out.2.1 HTb.out.2.2
        have q1 := (World.cell?_of_block (w := w3) (a := ⟨w2.heap.size, 1, none⟩) hkt).trans t1
        have q2 := (World.cell?_of_block (w := w3) (a := ⟨w2.heap.size, 2, none⟩) hkt).trans t2
        obtain ⟨hs1, hs2, hs3⟩ := HSm.out k st'' hIS
        have HII := hid hii
        have HIS := hid hIS
        have HPq := hid hPq
        clear hii hIS hkt
        by_cases hks : k < sz
        · have hie : ii < ee := by have := HII.out; have := HEe.out; omega
          have hie2 : (ii : Int) < ee := by omega
          obtain ⟨x, hx1, hx2, hx3, hx4⟩ := HStp.out k st'' HIS.out hk1 hks
          rw [← HII.out] at hx1 hx4
          obtain ⟨hil, hxe⟩ := List.getElem?_eq_some_iff.1 hx1
          obtain ⟨g, cap2, hu2, hc2, hBg, hgl, hWq, _⟩ := hPq.M.row.open (by omega)
          obtain ⟨b', o', e', _, d0, d1, d2⟩ := hWq ii hil
          injection e' with e'; injection e' with e1 e2
          subst e1 e2
          rw [hxe] at d0 d1 d2
          rw [Nat.zero_add] at d0 d1 d2
          have c4 := hPq.M.c4
          rw [hu2] at c4
          obtain ⟨xk, xn, xs⟩ := x
          dsimp only at d0 d1 d2 hx2 hx3
          have HC := hid (bring_any wr B cb a len cap l v acc pb mb ms nb u'' st'' lim hPq.M HOk.out HLen.out hcap hs1 hs2 xk xn xs hx3 hx2)
          have HX4 := hid hx4
          have hcq := hPq.M.ch.lt
          have hnil : ii < st''.ws.length := hil
          clear hx1 hxe hil hWq hPq hx4 hx2
          generalize brg l ms st'' ⟨xk, xn, xs⟩ = bg at *
          obtain ⟨st3, ⟨yk, yn, ys⟩⟩ := bg
          dsimp only at HC HX4
          generalize st''.ws.length = nq at *
          have hin : (ii : Int) < nq := by omega
          have hcq2 : (nq : Int) ≤ 60000 := by omega
          go_wp2_with fail
          have hcall := HC.out
          go_fit hcall
          clear hcall
          rintro e w4 ⟨rfl, hb4, ⟨u4, hM4, hu4⟩, hk4⟩
          have hz4 := hb4.size
          have hsm4 := HSm.out (k + 1) _ HX4.out
          dsimp only at hsm4
          rw [List.length_set] at hsm4
          have hi4 : ii < st3.ws.length := by have := HII.out; omega
          obtain ⟨g4, cap4, hu4e, hc4, hBg4, hgl4, hWq4, hfz4⟩ := hM4.row.open (by omega)
          subst hu4e
          obtain ⟨b', o', e', _, p0, p1, p2⟩ := hWq4 ii hi4
          injection e' with e'; injection e' with e1 e2
          subst e1 e2
          rw [Nat.zero_add] at p0 p1 p2
          generalize st3.ws[ii].k = z0 at p0
          generalize st3.ws[ii].n = z1 at p1
          generalize st3.ws[ii].s = z2 at p2
          have c44 := hM4.c4
          have f0 := hfz4 (ii * 3)
          have f1 := hfz4 (ii * 3 + 1)
          have f2 := hfz4 (ii * 3 + 2)
          have hc44 : cb < w4.heap.size := hM4.ch.lt
          have hne : ¬ g4 = cb := (hM4.n7 g4 rfl).1
          have HPut := hid (hM4.put hi4 ⟨yk, yn, ys⟩ _ rfl)
          have HB4 := hid hb4
          have HK4 := hid hk4
          have HU4 := hid hu4
          have hn4 : (ii : Int) < st3.ws.length := by omega
          have hn46 : (st3.ws.length : Int) ≤ 60000 := by omega
          clear hM4 hWq4 hfz4 hb4 hk4 hu4 hsm4 q1 q2 d0 d1 d2 c4
          generalize st3.ws.length = n4 at *
          go_wp2_with fail
          go_region_with fail
          all_goals
            go_wp2_with fail
            go_roundw
            case rel =>
              have hP := HPut.out
              have hbF : Below (set3 w4 g4 (ii * 3) (.int .i64 yk) (.int .i64 yn) (.string ys)).heap.size (set3 w4 g4 (ii * 3) (.int .i64 yk) (.int .i64 yn) (.string ys)) ((set3 w4 g4 (ii * 3) (.int .i64 yk) (.int .i64 yn) (.string ys)).alloc (.cells #[.int .i64 yk, .int .i64 yn, .string ys] 37)).drew := bdrew ((Below.refl _ _).alloc (Nat.le_refl _) _) 1
              refine ⟨ii + 1, k + 1, _, _, by go_num, by have := HII.out; omega, by omega, by omega, HX4.out, HPq.out.trans ⟨hP.1.below hbF, ?_, ?_, HU4.out⟩⟩
              · exact (HB4.out.trans hP.2.1).trans (hbF.mono (by simp; omega))
              · intro b h1 h2 h3 h4
                refine (hbF.block b (by simp; omega)).trans ((hP.2.2 b (fun e => ?_)).trans (HK4.out b h1 h2 h3 h4))
                subst e
                rcases HU4.out b rfl with h6 | h6
                · exact h4 h6
                · omega
            case measure => simp [intOf]; omega
        · have hie : ¬ (ii : Int) < ee := by have := HII.out; have := HEe.out; omega
          obtain rfl : k = sz := by omega
          have HE := hid (HDn.out st'' HIS.out)
          go_wp2_with fail
          go_roundw
          case rel =>
            obtain ⟨hV, r, hI2, ho2, hj2⟩ := HE.out
            refine ⟨j + 1, st'', ord' ++ r, u'', ?_, hj2, hI2, HP3.out.trans HPq.out, ?_⟩
            · rw [ho2, ← HEe.out]
            · rw [← hV]; exact HF2.out
          case measure => simp [intOf]; have := HEe.out; omega
    · have hjl : j = ord'.length := by omega
      subst hjl
      have e1 := parts_end (ms := ms) (n := 60000 - ord'.length) HI.out hlt
      rw [show 60000 - ord'.length + 1 = 60001 - ord'.length by omega] at e1
      have HF2 := hid (HF.out.trans e1)
      rw [hu] at c4
      rw [← hlen'] at *
      clear hlen' e1 HI HF
      generalize st'.ws.length = nu at *
      have hnu : ¬ (nu : Int) < nu := by omega
      go_wp2_with fail
      go_end0
      refine ⟨rfl, u', ?_⟩
      rw [HF2.out]
      exact HP.out
end Go.Proofs.Ytfjfobpdlmdddaa
