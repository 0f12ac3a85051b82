/- May a thing stand on a world's heap: vm's mayStand. -/
import Derived.Test.YtldmanfgmadbfaaGreatDoorQ15
namespace Go.Proofs.YtldmanfgmadbfaaGreatDoor
set_option maxRecDepth 100000
open HH UU VV
open Go.RowKit Go.Maps Go.WideMaps
/-- What a closure, and a record, must be. -/
def standB (x : Wv) (l : List Wd) (t : Th) : Bool :=
  if kindAt l t.h = 8 then (match x.fs[(nInt l t.h).toNat]? with
    | none => false
    | some f => decide (((t.e - t.f : Nat) : Int) = f.c))
  else if kindAt l t.h = 9 then (match x.rs[(nInt l t.h).toNat]? with
    | none => false
    | some r => match r.vs[(nInt l (t.h + 1)).toNat]? with
      | none => false
      | some s => decide (t.e - t.f = s.fs.length))
  else true
theorem nInt_at {l : List Wd} {m : Nat} (h : m < l.length) : nInt l m = l[m].n := by unfold nInt; rw [List.getElem?_eq_getElem h]
theorem kind_at {l : List Wd} {m : Nat} (h : m < l.length) : kindAt l m = l[m].k := by unfold kindAt; rw [Int.toNat_natCast, List.getElem?_eq_getElem h]
set_option maxRecDepth 1000000 in
set_option maxHeartbeats 4000000 in
theorem mayStand_any (v : Vw) (th : List Th) (w : World) (hV : ViewAt w v th) (B : Nat) (a : Option Addr) (len cap : Nat) (l : List Wd) (t : Th) (hW : Wds w B a l) (hB : B ≤ w.heap.size) (hlen : len = l.length) (hl : len ≤ 60000) (ht : ThingIs l t.h t.f t.e) :
    Calls Tryz.prog 59 #[viewV v, .slice a len cap, .int .i64 t.h] w fun e w' => e = .returned (.bool (standB v.x l t)) ∧ Below w.heap.size w w' := by
  obtain ⟨p, f, e⟩ := t
  dsimp only at ht ⊢
  have hti := ht
  obtain ⟨hp, ⟨n, hn, hn6⟩, hkind⟩ := ht
  have hba : Below w.heap.size w (w.alloc (.cells #[.slice v.x.fa v.x.fs.length v.x.fcap, .slice v.x.ga v.x.gs.length v.x.gcap, .slice v.x.ra v.x.rs.length v.x.rcap, .slice v.x.ha v.x.hs.length v.x.hcap, .int .i64 v.lim, finG v.gq, finR v.rq, valF v.vq, .map (some v.pm)] 45)) := (Below.refl _ _).alloc (Nat.le_refl _) _
  obtain ⟨w1, hw1⟩ : ∃ w1, w1 = (w.alloc (.cells #[.slice v.x.fa v.x.fs.length v.x.fcap, .slice v.x.ga v.x.gs.length v.x.gcap, .slice v.x.ra v.x.rs.length v.x.rcap, .slice v.x.ha v.x.hs.length v.x.hcap, .int .i64 v.lim, finG v.gq, finR v.rq, valF v.vq, .map (some v.pm)] 45)) := ⟨_, rfl⟩
  rw [← hw1] at hba
  have hz1 : w1.heap.size = w.heap.size + 1 := by rw [hw1]; simp
  have HVB := hid (show VBox w1 w.heap.size v from by rw [hw1]; exact vbox_new w v 45)
  have HB1 := hid hba
  have H1 := hid hw1
  have HL := hid hlen
  have HV := hid hV
  have HW := hid hW
  have HS := hid (sides_any w1 B a l len cap p f e (hW.below (hba.mono hB)) hlen hl hti)
  have hp2 : (p : Int) < len := by omega
  have hK : kindAt l p = l[p].k := kind_at hp
  have hN : nInt l p = n := (nInt_at hp).trans hn
  have hfs : v.x.fs.length ≤ 9223372036854775807 := by have := hV.big.f; omega
  have hrs : v.x.rs.length ≤ 9223372036854775807 := by have := hV.big.r; omega
  clear hba hw1 hti hlen hV hW
  go_enter Tryz.func59, Tryz.ntmps59
  go_wp2_with fail
  rw [← H1.out]
  have hcall := HS.out
  go_fit hcall
  clear hcall
  rintro r w2 ⟨rfl, hb2⟩
  have HB2 := hid (HB1.out.trans (hb2.mono (by omega)))
  obtain ⟨vlt, c0, c1, c2, c3, c4, c5, c6, c7, c8⟩ := HVB.out.below hb2 (by omega)
  clear hb2 HS
  obtain ⟨b, o, rfl, _, k0, k1, _⟩ := (HW.out.below (HB2.out.mono hB)) p hp
  rw [hn] at k1
  rcases hkind with ⟨hk, hf, he⟩ | ⟨hk, hf, he⟩ | ⟨hk, h1, m, hm, hm2, hf, he⟩ | ⟨hk, h1, h2, q, m, hq, hq2, hm, hm2, hf, he⟩
  · have HR := hid (show standB v.x l ⟨p, f, e⟩ = true from by unfold standB; rw [hK, hk]; simp)
    rw [hk] at k0
    clear hk hn hK hf he
    go_wp2_with fail
    go_ret
    exact ⟨ret_bool HR.out.symm, HB2.out⟩
  · have HR := hid (show standB v.x l ⟨p, f, e⟩ = true from by unfold standB; rw [hK, hk]; simp)
    rw [hk] at k0
    clear hk hn hK hf he
    go_wp2_with fail
    go_ret
    exact ⟨ret_bool HR.out.symm, HB2.out⟩
  · have hR0 : standB v.x l ⟨p, f, e⟩ = (match v.x.fs[n]? with
        | none => false
        | some f => decide ((m : Int) = f.c)) := by
      unfold standB
      rw [hK, hk, if_pos rfl, hN, Int.toNat_natCast]
      have : e - f = m := by omega
      rw [this]
    rw [hk] at k0
    have hsub : (e : Int) - (f : Int) = m := by omega
    have hmw : IntKind.i64.wrap (m : Int) = m := wrap_small (by omega) (by omega)
    by_cases hnf : n < v.x.fs.length
    case neg =>
      have hnf2 : ¬ (n : Int) < v.x.fs.length := by omega
      have HR := hid (hR0.trans (by rw [List.getElem?_eq_none (by omega)]))
      clear hk hn hK hN hR0 hnf hf he hm h1 c1 c2 c3 c4 c5 c6 c7 c8
      go_wp2_with fail
      go_ret
      exact ⟨ret_bool HR.out.symm, HB2.out⟩
    have hnf2 : (n : Int) < v.x.fs.length := by omega
    obtain ⟨fb, fo, hfq, -, -, -, d2, -⟩ := fn_at (Cs.below HV.out.sub.f HB2.out (Nat.le_refl _)) hnf
    have HR := hid (show standB v.x l ⟨p, f, e⟩ = decide ((m : Int) = (v.x.fs[n]'hnf).c) from hR0.trans (by rw [List.getElem?_eq_getElem hnf]))
    generalize (v.x.fs[n]'hnf).c = fc at d2 HR
    rw [hfq] at c0
    clear hk hn hK hN hR0 hf he hm h1 hfq c1 c2 c3 c4 c5 c6 c7 c8
    go_wp2_with fail
    go_ret
    exact ⟨ret_bool (by rw [HR.out]; rfl), HB2.out⟩
  · obtain ⟨b', o', hbq, -, -, k4, -⟩ := (HW.out.below (HB2.out.mono hB)) (p + 1) h1
    injection hbq with hbq
    injection hbq with e1 e2
    subst e1 e2
    rw [hq] at k4
    obtain ⟨p1, hp1⟩ : ∃ p1, p1 = p + 1 := ⟨_, rfl⟩
    have hlen2 := HL.out
    have q1 : (p : Int) + 1 = p1 := by omega
    have u1 : IntKind.i64.wrap (p1 : Int) = p1 := wrap_small (by omega) (by omega)
    have v1 : (p1 : Int) < len := by omega
    rw [← hp1] at k4
    rcases hk with hk | hk
    case inr =>
      have HR := hid (show standB v.x l ⟨p, f, e⟩ = true from by unfold standB; rw [hK, hk]; simp)
      rw [hk] at k0
      clear hk hn hK hN hf he hm h1 h2 hp1 hlen2 q1 u1 v1 hq k4
      go_wp2_with fail
      go_ret
      exact ⟨ret_bool HR.out.symm, HB2.out⟩
    rw [hk] at k0
    have hNq : nInt l ((p + 1 : Nat) : Int).toNat = q := by rw [Int.toNat_natCast]; exact (nInt_at h1).trans hq
    have hR0 : standB v.x l ⟨p, f, e⟩ = (match v.x.rs[n]? with
        | none => false
        | some r => match r.vs[q]? with
          | none => false
          | some s => decide (m = s.fs.length)) := by
      unfold standB
      dsimp only
      rw [hK, hk, if_neg (by decide), if_pos rfl, hN, Int.toNat_natCast, (nInt_at h1).trans hq, Int.toNat_natCast]
      have : e - f = m := by omega
      rw [this]
    have hsub : (e : Int) - (f : Int) = m := by omega
    have hmw : IntKind.i64.wrap (m : Int) = m := wrap_small (by omega) (by omega)
    by_cases hnf : n < v.x.rs.length
    case neg =>
      have hnf2 : (v.x.rs.length : Int) ≤ n := by omega
      have HR := hid (hR0.trans (by rw [List.getElem?_eq_none (by omega)]))
      clear hk hn hK hN hR0 hsub hnf hf he hm hmw h1 h2 hp1 hlen2 hNq hq c0 c1 c3 c4 c5 c6 c7 c8
      go_wp2_with fail
      go_ret
      exact ⟨ret_bool HR.out.symm, HB2.out⟩
    have hnf2 : ¬ (v.x.rs.length : Int) ≤ n := by omega
    have hnf3 : (n : Int) < v.x.rs.length := by omega
    obtain ⟨fb, fo, hfq, -, -, d1, -⟩ := rc_at (Cs.below HV.out.sub.r HB2.out (Nat.le_refl _)) hnf
    have hR1 : standB v.x l ⟨p, f, e⟩ = (match (v.x.rs[n]'hnf).vs[q]? with
          | none => false
          | some s => decide (m = s.fs.length)) := hR0.trans (by rw [List.getElem?_eq_getElem hnf])
    have hsr := (HV.out.sub.rs _ (List.getElem_mem hnf)).v
    have hbg := (HV.out.big.rs _ (List.getElem_mem hnf)).v
    have HSr := hid (Cs.below hsr HB2.out HB2.out.size)
    clear hR0 hsr
    generalize v.x.rs[n]'hnf = r at d1 hR1 HSr hbg
    obtain ⟨rn, va, vcap, vs, ma, mcap, ms⟩ := r
    dsimp only at d1 hR1 HSr hbg
    have hvl : vs.length ≤ 9223372036854775807 := by omega
    rw [hfq] at c2
    by_cases hqv : q < vs.length
    case neg =>
      have hqv2 : ¬ (q : Int) < vs.length := by omega
      have HR := hid (hR1.trans (by rw [List.getElem?_eq_none (by omega)]))
      clear hk hn hK hN hR1 hsub hnf hf he hm hmw h1 h2 hp1 hlen2 hNq hq hfq hbg hqv c0 c1 c3 c4 c5 c6 c7 c8
      go_wp2_with fail
      go_ret
      exact ⟨ret_bool HR.out.symm, HB2.out⟩
    have hqv2 : (q : Int) < vs.length := by omega
    obtain ⟨sb, so, hsq, -, -, g1⟩ := sh_at HSr.out hqv
    have HR := hid (show standB v.x l ⟨p, f, e⟩ = decide (m = (vs[q]'hqv).fs.length) from hR1.trans (by rw [List.getElem?_eq_getElem hqv]))
    generalize (vs[q]'hqv).adr = sa at g1
    generalize (vs[q]'hqv).cap = sc at g1
    generalize (vs[q]'hqv).fs.length = fl at g1 HR
    rw [hsq] at d1
    have HD := hid (show decide (m = fl) = ((m : Int) == (fl : Int)) from by rw [Bool.eq_iff_iff]; simp; omega)
    clear hk hn hK hN hR1 hf he hm h1 h2 hp1 hlen2 hNq hq hfq hbg hqv hsq c0 c1 c3 c4 c5 c6 c7 c8
    go_wp2_with fail
    go_ret
    exact ⟨ret_bool (by rw [HR.out, HD.out]), HB2.out⟩
end Go.Proofs.YtldmanfgmadbfaaGreatDoor
