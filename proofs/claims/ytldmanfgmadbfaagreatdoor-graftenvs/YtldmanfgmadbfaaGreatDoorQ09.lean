/- A region that draws its order, by what holds of each operation's value: no order is walked. · What an operation that is not wanted owes, in a region by its values. -/
import Derived.Orders
import Derived.Laws.World
namespace Go.Proofs.YtldmanfgmadbfaaGreatDoor
set_option maxRecDepth 100000
section
variable {P : Program} {ops : Array Oper} {Q : Exit → Act → World → Prop}
/-- Each operation waits for earlier ones only, and no two write one slot; all slots lie in the frame. -/
def wellB (ops : Array Oper) (n : Nat) : Bool :=
  (List.range ops.size).all fun i => match ops[i]? with
    | some o => (o.after.all fun e => !Region.binds .any e || decide (e.on < i)) && (match o.dst with
      | some d => decide (d < n) && (List.range ops.size).all fun j => j == i || ((ops[j]?).bind (·.dst)) != some d
      | none => true)
    | none => true
/-- The frame with all values. -/
def putsL (vs : Nat → Value) : List Oper → Nat → Act → Act
  | [], _, a => a
  | o :: r, k, a => putsL vs r (k + 1) (a.put o.dst (vs k))
/-- What an operation finds: the old slots, and the values that it waits for. -/
structure Found (ops : Array Oper) (a0 : Act) (p : Nat → Value → World → Prop) (o : Oper) (a : Act) (w : World) : Prop where
  old : ∀ t, (ops.all fun x => x.dst != some t) = true → a.tmps[t]? = a0.tmps[t]?
  vals : ∀ e ∈ o.after, Region.binds .any e = true → ∃ v, (∀ d, (ops[e.on]?).bind (·.dst) = some d → a.tmps[d]? = some v) ∧ p e.on v w
theorem wellB_after {n : Nat} (h : wellB ops n = true) {i : Nat} {o : Oper} (ho : ops[i]? = some o) : ∀ e ∈ o.after, Region.binds .any e = true → e.on < i := by
  have hlt := (Array.getElem?_eq_some_iff.1 ho).1
  have h1 := List.all_eq_true.1 h i (List.mem_range.2 hlt)
  rw [ho] at h1
  simp only [Bool.and_eq_true] at h1
  intro e he hb
  have := Array.all_eq_true_iff_forall_mem.1 h1.1 e he
  simpa [hb] using this
theorem wellB_dst {n : Nat} (h : wellB ops n = true) {i : Nat} {o : Oper} (ho : ops[i]? = some o) {d : Tmp} (hd : o.dst = some d) : d < n ∧ ∀ j o', ops[j]? = some o' → o'.dst = some d → j = i := by
  have hlt := (Array.getElem?_eq_some_iff.1 ho).1
  have h1 := List.all_eq_true.1 h i (List.mem_range.2 hlt)
  rw [ho] at h1
  simp only [Bool.and_eq_true, hd] at h1
  refine ⟨by simpa using h1.2.1, fun j o' hj hd' => ?_⟩
  have h2 := List.all_eq_true.1 h1.2.2 j (List.mem_range.2 (Array.getElem?_eq_some_iff.1 hj).1)
  rw [hj] at h2
  simpa [hd'] using h2
theorem done_of_ready {n : Nat} (hw : wellB ops n = true) {listed : Array Bool} (hs : listed.size = ops.size) (hr : Region.ready .any ops listed = []) : ∀ i, i < ops.size → listed.getD i false = true := by
  intro i
  induction i using Nat.strongRecOn with
  | ind i ih =>
    intro hi
    rcases hb : listed.getD i false with _ | _
    · exfalso
      have ho : ops[i]? = some ops[i] := Array.getElem?_eq_getElem hi
      have : i ∈ Region.ready .any ops listed := mem_ready.2 ⟨by
        have hx : i < listed.size := by omega
        simp only [Array.getD, hx, dif_pos] at hb ⊢
        exact hb, _, ho, fun e he hb => ih e.on (wellB_after hw ho e he hb) (by have := wellB_after hw ho e he hb; omega)⟩
      rw [hr] at this
      cases this
    · rfl
theorem put_get {a : Act} {d : Option Tmp} {v : Value} (t : Nat) (h : d ≠ some t) : (a.put d v).tmps[t]? = a.tmps[t]? := by
  cases d with
  | none => rfl
  | some d =>
    have : d ≠ t := fun e => h (by rw [e])
    simp [Act.put, Array.getElem?_setIfInBounds_ne this]
theorem put_size {a : Act} {d : Option Tmp} {v : Value} : (a.put d v).tmps.size = a.tmps.size := by cases d <;> simp [Act.put]
theorem put_defs {a : Act} {d : Option Tmp} {v : Value} : (a.put d v).defers = a.defers := by cases d <;> rfl
theorem put_own {a : Act} {d : Tmp} {v : Value} (h : d < a.tmps.size) : (a.put (some d) v).tmps[d]? = some v := by
  simp [Act.put, Array.getElem?_setIfInBounds_self_of_lt h]
theorem putsL_size (vs : Nat → Value) : ∀ (l : List Oper) (k : Nat) (a : Act), (putsL vs l k a).tmps.size = a.tmps.size ∧ (putsL vs l k a).defers = a.defers
  | [], _, _ => ⟨rfl, rfl⟩
  | o :: r, k, a => by
    have h := putsL_size vs r (k + 1) (a.put o.dst (vs k))
    exact ⟨h.1.trans put_size, h.2.trans put_defs⟩
theorem putsL_other (vs : Nat → Value) : ∀ (l : List Oper) (k : Nat) (a : Act) (t : Nat), (∀ o ∈ l, o.dst ≠ some t) → (putsL vs l k a).tmps[t]? = a.tmps[t]?
  | [], _, _, _, _ => rfl
  | o :: r, k, _, t, h => (putsL_other vs r (k + 1) _ t (fun o' ho => h o' (List.mem_cons_of_mem _ ho))).trans (put_get t (h o List.mem_cons_self))
theorem putsL_at (vs : Nat → Value) : ∀ (l : List Oper) (k : Nat) (a : Act) (i : Nat) (o : Oper) (d : Tmp), l[i]? = some o → o.dst = some d → d < a.tmps.size → (∀ j o', l[j]? = some o' → o'.dst = some d → j = i) → (putsL vs l k a).tmps[d]? = some (vs (k + i))
  | [], _, _, _, _, _, h, _, _, _ => by simp at h
  | x :: r, k, a, 0, _, d, h, hd, hlt, hu => by
    simp at h
    subst h
    have h1 := putsL_other vs r (k + 1) (a.put x.dst (vs k)) d (fun o' ho e => by
      obtain ⟨j, hj⟩ := List.getElem?_of_mem ho
      have := hu (j + 1) o' (by simpa using hj) e
      omega)
    simp only [putsL]
    rw [h1, hd]
    exact put_own hlt
  | x :: r, k, a, i + 1, o, d, h, hd, hlt, hu => by
    have := putsL_at vs r (k + 1) (a.put x.dst (vs k)) i o d (by simpa using h) hd (by rw [put_size]; exact hlt) (fun j o' hj e => by
      have := hu (j + 1) o' (by simpa using hj) e
      omega)
    simp only [putsL]
    rw [this, Nat.add_right_comm k 1 i]
    rfl
theorem act_ext {a b : Act} (h1 : a.tmps.size = b.tmps.size) (h2 : a.defers = b.defers) (h3 : ∀ t : Nat, t < b.tmps.size → a.tmps[t]? = b.tmps[t]?) : a = b := by
  obtain ⟨ta, da⟩ := a
  obtain ⟨tb, db⟩ := b
  simp only at h1 h2 h3
  subst h2
  congr
  apply Array.ext h1
  intro i hi hj
  have := h3 i hj
  rw [Array.getElem?_eq_getElem hi, Array.getElem?_eq_getElem hj] at this
  exact Option.some.inj this
theorem count_set_true {l : Array Bool} {i : Nat} (hi : l.getD i true = false) : (l.setIfInBounds i true).toList.count false + 1 = l.toList.count false := by
  have hlt : i < l.size := by
    rcases Nat.lt_or_ge i l.size with h | h
    · exact h
    · simp [Array.getD, Nat.not_lt.2 h] at hi
  have hv : l.toList[i]'(by simpa using hlt) = false := by
    simp only [Array.getD, hlt, dif_pos] at hi
    simpa using hi
  have hpos : 0 < l.toList.count false := by
    rw [List.count_pos_iff, ← hv]
    exact List.getElem_mem _
  simp only [Array.toList_setIfInBounds]
  rw [List.count_set (by simpa using hlt), hv]
  rw [if_pos (show (false == false) = true from rfl), if_neg (by decide)]
  omega
/-- Does operation i wait for operation j? -/
def waitsB (ops : Array Oper) (i j : Nat) : Bool := ((ops[i]?).map fun o => o.after.any fun e => e.on == j && Region.binds .any e).getD false
/-- From m on each waits for all ahead of m, and for the one ahead of it: they go in their order, last. -/
def tailB (ops : Array Oper) (m : Nat) : Bool :=
  decide (m ≤ ops.size) && (List.range ops.size).all fun i => decide (i < m) || ((List.range m).all fun j => waitsB ops i j) && (i == m || waitsB ops i (i - 1))
theorem waits_spec {i j : Nat} {o : Oper} (ho : ops[i]? = some o) (h : waitsB ops i j = true) : ∃ e ∈ o.after, Region.binds .any e = true ∧ e.on = j := by
  simp only [waitsB, ho, Option.map_some, Option.getD_some] at h
  obtain ⟨e, h1, h2⟩ := Array.any_eq_true'.1 h
  simp only [Bool.and_eq_true, beq_iff_eq] at h2
  exact ⟨e, h1, h2.2, h2.1⟩
theorem tail_le {m : Nat} (h : tailB ops m = true) : m ≤ ops.size := by
  simp only [tailB, Bool.and_eq_true, decide_eq_true_eq] at h
  exact h.1
theorem tail_pre {m i j : Nat} (h : tailB ops m = true) (hi : i < ops.size) (hm : m ≤ i) (hj : j < m) : waitsB ops i j = true := by
  simp only [tailB, Bool.and_eq_true, List.all_eq_true, List.mem_range, Bool.or_eq_true, decide_eq_true_eq] at h
  rcases h.2 i hi with h1 | h1
  · omega
  · exact h1.1 j hj
theorem tail_prev {m i : Nat} (h : tailB ops m = true) (hi : i < ops.size) (hm : m < i) : waitsB ops i (i - 1) = true := by
  simp only [tailB, Bool.and_eq_true, List.all_eq_true, List.mem_range, Bool.or_eq_true, decide_eq_true_eq, beq_iff_eq] at h
  rcases h.2 i hi with h1 | h1
  · omega
  · rcases h1.2 with h2 | h2
    · omega
    · exact h2
/-- One more is done. -/
def upd (dn : Nat → Bool) (i : Nat) : Nat → Bool := fun j => if j = i then true else dn j
structure RInv (ops : Array Oper) (m : Nat) (a0 : Act) (p : Nat → Value → World → Prop) (St : (Nat → Bool) → World → Prop) (listed : Array Bool) (a : Act) (w : World) : Prop where
  lsize : listed.size = ops.size
  size : a.tmps.size = a0.tmps.size
  defers : a.defers = a0.defers
  old : ∀ t, (ops.all fun x => x.dst != some t) = true → a.tmps[t]? = a0.tmps[t]?
  late : ∀ i o d, m ≤ i → ops[i]? = some o → o.dst = some d → a.tmps[d]? = a0.tmps[d]?
  lateU : ∀ i, m ≤ i → listed.getD i false = false
  st : St (fun j => listed.getD j false) w
  vals : ∀ i o, ops[i]? = some o → listed.getD i false = true → ∃ v, (∀ d, o.dst = some d → a.tmps[d]? = some v) ∧ p i v w
/-- What is to be shown of operation i. -/
def OpOk (P : Program) (Q : Exit → Act → World → Prop) (ops : Array Oper) (a0 : Act) (St : (Nat → Bool) → World → Prop) (R : Nat → World → World → Prop) (p : Nat → Value → World → Prop) (i : Nat) (o : Oper) : Prop :=
  ∀ (dn : Nat → Bool) a w, (∀ j, j = i ∨ waitsB ops j i = true → dn j = false) → St dn w → Found ops a0 p o a w → ∀ K : Act → World → Prop, (∀ a' v w', a' = a.put o.dst v → St (upd dn i) w' → R i w w' → p i v w' → K a' w') →
      if Region.wanted o (yielded ops a.tmps) = true then Oper.wp P o a w K Q else K (a.put o.dst undef) w
section
variable {a0 : Act} {m : Nat} {St : (Nat → Bool) → World → Prop} {R : Nat → World → World → Prop} {p : Nat → Value → World → Prop}
theorem putsL_take_other (vs : Nat → Value) {i : Nat} {o : Oper} {d : Tmp} (hwell : wellB ops a0.tmps.size = true) (hi : m ≤ i) (ho : ops[i]? = some o) (hd : o.dst = some d) : (putsL vs (ops.toList.take m) 0 a0).tmps[d]? = a0.tmps[d]? := by
  refine putsL_other vs _ _ _ _ (fun o' ho' e => ?_)
  obtain ⟨j, hj⟩ := List.getElem?_of_mem ho'
  have hjm : j < m := by
    have := (List.getElem?_eq_some_iff.1 hj).1
    simp at this
    omega
  rw [List.getElem?_take_of_lt hjm] at hj
  have := (wellB_dst hwell ho hd).2 j o' (by simpa using hj) e
  omega
theorem RInv.frame (hwell : wellB ops a0.tmps.size = true) (hm : m ≤ ops.size) {listed : Array Bool} {a : Act} {w : World} (h : RInv ops m a0 p St listed a w) (hall : ∀ i, i < m → listed.getD i false = true) :
    ∃ vs : Nat → Value, a = putsL vs (ops.toList.take m) 0 a0 ∧ ∀ i, i < m → p i (vs i) w := by
  have hex : ∀ i, ∃ v, i < m → ((∀ d, (ops[i]?).bind (·.dst) = some d → a.tmps[d]? = some v) ∧ p i v w) := by
    intro i
    by_cases hi : i < m
    · have hi' : i < ops.size := by omega
      obtain ⟨v, h1, h2⟩ := h.vals i ops[i] (Array.getElem?_eq_getElem hi') (hall i hi)
      exact ⟨v, fun _ => ⟨fun d hd => h1 d (by rw [Array.getElem?_eq_getElem hi'] at hd; exact hd), h2⟩⟩
    · exact ⟨undef, fun h => absurd h hi⟩
  obtain ⟨vs, hvs⟩ := Classical.axiomOfChoice hex
  refine ⟨vs, ?_, fun i hi => (hvs i hi).2⟩
  obtain ⟨e1, e2⟩ := putsL_size vs (ops.toList.take m) 0 a0
  refine act_ext (h.size.trans e1.symm) (h.defers.trans e2.symm) (fun t ht => ?_)
  rw [e1] at ht
  by_cases hd : (ops.all fun x => x.dst != some t) = true
  · rw [h.old t hd, putsL_other]
    intro o ho
    have := Array.all_eq_true_iff_forall_mem.1 hd o (Array.mem_toList_iff.1 (List.mem_of_mem_take ho))
    simpa using this
  · rw [Array.all_eq_true_iff_forall_mem] at hd
    obtain ⟨o, ho, hdo⟩ : ∃ o, o ∈ ops ∧ o.dst = some t := by
      apply Classical.byContradiction
      intro hno
      apply hd
      intro x hx
      have : x.dst ≠ some t := fun e => hno ⟨x, hx, e⟩
      simpa using this
    obtain ⟨i, hi, rfl⟩ := Array.mem_iff_getElem.1 ho
    have ho' : ops[i]? = some ops[i] := Array.getElem?_eq_getElem hi
    by_cases him : i < m
    · have h1 := (hvs i him).1 t (by rw [ho']; exact hdo)
      rw [h1, putsL_at vs (ops.toList.take m) 0 a0 i ops[i] t (by rw [List.getElem?_take_of_lt him]; simp) hdo ht (fun j o' hj e => by
        have hjm : j < m := by
          have := (List.getElem?_eq_some_iff.1 hj).1
          simp at this
          omega
        rw [List.getElem?_take_of_lt hjm] at hj
        exact (wellB_dst hwell ho' hdo).2 j o' (by simpa using hj) e)]
      rw [Nat.zero_add]
    · rw [h.late i _ t (by omega) ho' hdo, putsL_take_other vs hwell (by omega) ho' hdo]
theorem getD_of {l : Array Bool} {i : Nat} (h : l.getD i true = false) : l.getD i false = false := by
  rcases Nat.lt_or_ge i l.size with hx | hx
  · simp only [Array.getD, hx, dif_pos] at h ⊢
    exact h
  · simp [Array.getD, Nat.not_lt.2 hx]
theorem upd_set {listed : Array Bool} {n i : Nat} (h : listed.size = n) (hi : i < n) : (fun j => (listed.setIfInBounds i true).getD j false) = upd (fun j => listed.getD j false) i := by
  funext j
  unfold upd
  by_cases hji : j = i
  · subst hji
    simp [h, hi]
  · rw [if_neg hji, getD_set_ne false (fun e => hji e.symm)]
theorem RInv.next (hwell : wellB ops a0.tmps.size = true) (hmono : ∀ i j v w w', i < m → j < m → j ≠ i → waitsB ops i j = false → (∃ dn, St dn w) → p i v w → R j w w' → p i v w')
    (hop : ∀ i o, i < m → ops[i]? = some o → OpOk P Q ops a0 St R p i o) {listed : Array Bool} {a : Act} {w : World} {i : Nat} {o : Oper} (h : RInv ops m a0 p St listed a w) (him : i < m) (ho : ops[i]? = some o) (hun : listed.getD i true = false)
    (hdep : ∀ e ∈ o.after, Region.binds .any e = true → listed.getD e.on false = true) (hafter : ∀ j, listed.getD j false = true → waitsB ops j i = false) :
    wpOp P ops Q i (fun a' w' => RInv ops m a0 p St (listed.setIfInBounds i true) a' w') a w := by
  have hf : Found ops a0 p o a w := ⟨h.old, fun e he hb => by
    have hon := hdep e he hb
    have hlt := wellB_after hwell ho e he hb
    have hi' := (Array.getElem?_eq_some_iff.1 ho).1
    have hoe : ops[e.on]? = some ops[e.on] := Array.getElem?_eq_getElem (by omega)
    obtain ⟨v, h1, h2⟩ := h.vals e.on _ hoe hon
    exact ⟨v, fun d hd => h1 d (by rw [hoe] at hd; exact hd), h2⟩⟩
  have key := hop i o him ho _ a w (fun j hj => by
    rcases hj with rfl | hj
    · exact getD_of hun
    · rcases hb : listed.getD j false with _ | _
      · rfl
      · rw [hafter j hb] at hj; cases hj) h.st hf (fun a' w' => RInv ops m a0 p St (listed.setIfInBounds i true) a' w') (fun a' v w' ha hS hR hp => by
    subst ha
    have hsz : a.tmps.size = a0.tmps.size := h.size
    refine ⟨by simp [h.lsize], put_size.trans hsz, put_defs.trans h.defers, fun t ht => ?_, fun j oj d hj hoj hd => ?_, fun j hj => ?_, (by rw [upd_set h.lsize (Array.getElem?_eq_some_iff.1 ho).1]; exact hS), fun j oj hj hlj => ?_⟩
    · rw [put_get t (fun e => ?_), h.old t ht]
      have := Array.all_eq_true_iff_forall_mem.1 ht o (Array.mem_of_getElem? ho)
      simp [e] at this
    · rw [put_get d (fun e => ?_), h.late j oj d hj hoj hd]
      have := (wellB_dst hwell hoj hd).2 i o ho e
      omega
    · have hne : i ≠ j := by omega
      rw [getD_set_ne false hne]
      exact h.lateU j hj
    · by_cases hji : j = i
      · subst hji
        rw [ho] at hj
        obtain rfl := Option.some.inj hj
        exact ⟨v, fun d hd => by rw [hd]; exact put_own (by rw [hsz]; exact (wellB_dst hwell ho hd).1), hp⟩
      · have hne : i ≠ j := fun e => hji e.symm
        rw [getD_set_ne false hne] at hlj
        obtain ⟨u, h1, h2⟩ := h.vals j oj hj hlj
        have hjm : j < m := by
          rcases Nat.lt_or_ge j m with hx | hx
          · exact hx
          · rw [h.lateU j hx] at hlj; cases hlj
        refine ⟨u, fun d hd => ?_, hmono j i u w w' hjm him hne (hafter j hlj) ⟨_, h.st⟩ h2 hR⟩
        rw [put_get d (fun e => hji ((wellB_dst hwell ho e).2 j oj hj hd))]
        exact h1 d hd)
  unfold wpOp
  simp only [ho]
  by_cases hw : Region.wanted o (yielded ops a.tmps) = true
  · rw [if_pos hw] at key ⊢
    exact Or.inl key
  · rw [if_neg hw] at key ⊢
    exact key
/-- All that is listed had all listed that it waits for. -/
def Shut2 (ops : Array Oper) (listed : Array Bool) : Prop := ∀ j k, listed.getD j false = true → waitsB ops j k = true → listed.getD k false = true
theorem Shut2.set {listed : Array Bool} (h : Shut2 ops listed) {i : Nat} {o : Oper} (ho : ops[i]? = some o) (hdep : ∀ e ∈ o.after, Region.binds .any e = true → listed.getD e.on false = true) : Shut2 ops (listed.setIfInBounds i true) := by
  intro j k hj hw
  by_cases hji : i = j
  · subst hji
    obtain ⟨e, h1, h2, rfl⟩ := waits_spec ho hw
    exact getD_set_true (hdep e h1 h2)
  · rw [getD_set_ne false hji] at hj
    exact getD_set_true (h j k hj hw)
theorem Shut2.later {listed : Array Bool} (h : Shut2 ops listed) {i : Nat} (hun : listed.getD i true = false) : ∀ j, listed.getD j false = true → waitsB ops j i = false := by
  intro j hj
  cases hw : waitsB ops j i with
  | false => rfl
  | true =>
    have := h j i hj hw
    rw [getD_of hun] at this
    cases this
/-- The last ones, in their order. -/
theorem wpAny_tail (htail : tailB ops m = true) (hwell : wellB ops a0.tmps.size = true) : ∀ (n k : Nat) (fuel : Nat) (listed : Array Bool) (a : Act) (w : World), ops.size - k = n → n ≤ fuel → m ≤ k → listed.size = ops.size →
    (∀ i, i < k → i < ops.size → listed.getD i false = true) → (∀ i, k ≤ i → listed.getD i false = false) → wpOps P ops Q (List.range' k (ops.size - k)) a w → wpAny P .any ops Q fuel listed a w := by
  intro n
  induction n with
  | zero =>
    intro k fuel listed a w hn hf hmk hs h1 h2 h
    rw [hn] at h
    have hr : Region.ready .any ops listed = [] := by
      apply List.eq_nil_iff_forall_not_mem.2
      intro i hi
      obtain ⟨hun, o, ho, _⟩ := mem_ready.1 hi
      have := h1 i (by have := (Array.getElem?_eq_some_iff.1 ho).1; omega) (Array.getElem?_eq_some_iff.1 ho).1
      rw [getD_of hun] at this
      cases this
    cases fuel with
    | zero => exact ⟨hr, h⟩
    | succ f => exact ⟨fun _ => h, by rw [hr]; simp⟩
  | succ n ih =>
    intro k fuel listed a w hn hf hmk hs h1 h2 h
    obtain ⟨f, rfl⟩ : ∃ f, fuel = f + 1 := ⟨fuel - 1, by omega⟩
    have hk : k < ops.size := by omega
    have hko : ops[k]? = some ops[k] := Array.getElem?_eq_getElem hk
    have hun : listed.getD k true = false := by
      have := h2 k (Nat.le_refl _)
      simp only [Array.getD, hs, hk, dif_pos] at this ⊢
      exact this
    have hkr : k ∈ Region.ready .any ops listed := mem_ready.2 ⟨hun, _, hko, fun e he hb => h1 e.on (wellB_after hwell hko e he hb) (by have := wellB_after hwell hko e he hb; omega)⟩
    refine ⟨fun hr => (by rw [hr] at hkr; cases hkr), fun i hi => ?_⟩
    obtain ⟨hui, o, ho, hd⟩ := mem_ready.1 hi
    have hio := (Array.getElem?_eq_some_iff.1 ho).1
    have hik : i = k := by
      rcases Nat.lt_trichotomy i k with hlt | heq | hgt
      · have := h1 i hlt hio
        rw [getD_of hui] at this
        cases this
      · exact heq
      · exfalso
        obtain ⟨e, he1, he2, he3⟩ := waits_spec ho (tail_prev htail hio (by omega))
        have := hd e he1 he2
        rw [he3, h2 (i - 1) (by omega)] at this
        cases this
    subst hik
    have hlen : ops.size - i = n + 1 := hn
    rw [hlen, List.range'_succ, wpOps_cons] at h
    refine wpOp_mono (fun a' w' h' => ih (i + 1) f _ a' w' (by omega) (by omega) (by omega) (by simp [hs]) (fun j hj hjs => ?_) (fun j hj => ?_) (by rw [show ops.size - (i + 1) = n from by omega]; exact h')) h
    · by_cases hji : i = j
      · subst hji
        simp [hs, hk]
      · rw [getD_set_ne false hji]; exact h1 j (by omega) hjs
    · rw [getD_set_ne false (by omega)]; exact h2 j (by omega)
/-- **THE LAW.** -/
theorem wp_region_inv {id : Nat} {draw : Bool} {w0 : World} (hm : P.follows .mixedOrders = true)
    (hwell : wellB ops a0.tmps.size = true) (htail : tailB ops m = true) (hst : St (fun _ => false) (if draw then w0.drew else w0)) (hmono : ∀ i j v w w', i < m → j < m → j ≠ i → waitsB ops i j = false → (∃ dn, St dn w) → p i v w → R j w w' → p i v w')
    (hop : ∀ i o, i < m → ops[i]? = some o → OpOk P Q ops a0 St R p i o)
    (hend : ∀ dn w vs, (∀ i, i < m → dn i = true) → St dn w → (∀ i, i < m → p i (vs i) w) → wpOps P ops Q (List.range' m (ops.size - m)) (putsL vs (ops.toList.take m) 0 a0) w) : (Code.region id ops draw).wp P Q a0 w0 := by
  have hmle := tail_le htail
  have h0 : RInv ops m a0 p St (Array.replicate ops.size false) a0 (if draw then w0.drew else w0) := ⟨by simp, rfl, rfl, fun _ _ => rfl, fun _ _ _ _ _ _ => rfl, fun i _ => by simp [Array.getD], (by
    have e : (fun j => (Array.replicate ops.size false).getD j false) = fun _ => false := by funext j; simp [Array.getD]
    rw [e]; exact hst), fun i o ho hl => by simp [Array.getD] at hl⟩
  have hs0 : Shut2 ops (Array.replicate ops.size false) := fun j k hj => by simp [Array.getD] at hj
  cases draw with
  | true =>
    simp only [if_true] at h0
    have main : ∀ (fuel : Nat) (listed : Array Bool) (a : Act) (w : World), listed.toList.count false ≤ fuel → Shut2 ops listed → RInv ops m a0 p St listed a w → wpAny P .any ops Q fuel listed a w := by
      have fin : ∀ (fuel : Nat) (listed : Array Bool) (a : Act) (w : World), listed.toList.count false ≤ fuel → RInv ops m a0 p St listed a w → (∀ i, i < m → listed.getD i false = true) → wpAny P .any ops Q fuel listed a w := by
        intro fuel listed a w hc h hall
        obtain ⟨vs, rfl, hvs⟩ := h.frame hwell hmle hall
        have hcount : ops.size - m ≤ listed.toList.count false := by
          have e : listed.toList = listed.toList.take m ++ listed.toList.drop m := (List.take_append_drop m _).symm
          have hd : (listed.toList.drop m).count false = ops.size - m := by
            have : listed.toList.drop m = List.replicate (ops.size - m) false := by
              apply List.eq_replicate_iff.2
              refine ⟨by simp [h.lsize], fun b hb => ?_⟩
              obtain ⟨i, hi, rfl⟩ := List.getElem_of_mem hb
              have := h.lateU (m + i) (by omega)
              have hlt : m + i < listed.size := by simp at hi; omega
              simp only [Array.getD, hlt, dif_pos] at this
              simpa using this
            rw [this]
            simp
          rw [e, List.count_append, hd]
          omega
        exact wpAny_tail (m := m) (a0 := a0) htail hwell _ m fuel listed _ w rfl (by omega) (Nat.le_refl _) h.lsize (fun i hi _ => hall i hi) h.lateU (hend _ w vs hall h.st hvs)
      intro fuel
      induction fuel with
      | zero =>
        intro listed a w hc _ h
        refine fin 0 listed a w hc h (fun i hi => ?_)
        rcases hb : listed.getD i false with _ | _
        · have hx : i < listed.size := by rw [h.lsize]; omega
          have : listed.getD i true = false := by
            simp only [Array.getD, hx, dif_pos] at hb ⊢
            exact hb
          have := count_set_true this
          omega
        · rfl
      | succ fuel ih =>
        intro listed a w hc hsh h
        by_cases hall : ∀ i, i < m → listed.getD i false = true
        · exact fin _ listed a w hc h hall
        · have hpre : ∀ i ∈ Region.ready .any ops listed, i < m := by
            intro i hi
            obtain ⟨hun, o, ho, hdep⟩ := mem_ready.1 hi
            apply Classical.byContradiction
            intro hx
            apply hall
            intro j hj
            obtain ⟨e, h1, h2, h3⟩ := waits_spec ho (tail_pre htail (Array.getElem?_eq_some_iff.1 ho).1 (by omega) hj)
            have := hdep e h1 h2
            rw [h3] at this
            exact this
          refine ⟨fun hr => absurd (fun i hi => done_of_ready hwell h.lsize hr i (by omega)) hall, fun i hi => ?_⟩
          obtain ⟨hun, o, ho, hdep⟩ := mem_ready.1 hi
          have hst := RInv.next hwell hmono hop h (hpre i hi) ho hun hdep (hsh.later hun)
          refine wpOp_mono (fun a' w' h' => ih _ a' w' ?_ (hsh.set ho hdep) h') hst
          have := count_set_true hun
          omega
    exact wp_region_any hm (main ops.size _ a0 _ (by simp) hs0 h0)
  | false =>
    simp only [Bool.false_eq_true, if_false] at h0
    have main : ∀ (n k : Nat) (listed : Array Bool) (a : Act) (w : World), m - k = n → k ≤ m → (∀ i, i < k → listed.getD i false = true) → (∀ i, k ≤ i → listed.getD i false = false) → Shut2 ops listed → RInv ops m a0 p St listed a w →
        wpOps P ops Q (List.range' k (ops.size - k)) a w := by
      intro n
      induction n with
      | zero =>
        intro k listed a w hn hk h1 _ _ h
        obtain rfl : k = m := by omega
        obtain ⟨vs, rfl, hvs⟩ := h.frame hwell hmle h1
        exact hend _ w vs h1 h.st hvs
      | succ n ih =>
        intro k listed a w hn hk h1 h2 hsh h
        have hko : k < ops.size := by omega
        have ho : ops[k]? = some ops[k] := Array.getElem?_eq_getElem hko
        have hun : listed.getD k true = false := by
          have := h2 k (Nat.le_refl _)
          simp only [Array.getD, h.lsize, hko, dif_pos] at this ⊢
          exact this
        have hdep : ∀ e ∈ (ops[k]).after, Region.binds .any e = true → listed.getD e.on false = true := fun e he hb => h1 e.on (wellB_after hwell ho e he hb)
        have hst := RInv.next hwell hmono hop h (by omega) ho hun hdep (hsh.later hun)
        rw [show ops.size - k = (ops.size - (k + 1)) + 1 from by omega, List.range'_succ, wpOps_cons]
        refine wpOp_mono (fun a' w' h' => ih (k + 1) _ a' w' (by omega) (by omega) (fun j hj => ?_) (fun j hj => ?_) (hsh.set ho hdep) h') hst
        · by_cases hjk : k = j
          · subst hjk
            simp [h.lsize, hko]
          · rw [getD_set_ne false hjk]; exact h1 j (by omega)
        · rw [getD_set_ne false (by omega)]; exact h2 j (by omega)
    refine wp_region ?_
    have := main m 0 _ a0 w0 (by omega) (by omega) (fun i hi => by omega) (fun i _ => by simp [Array.getD]) hs0 h0
    rw [List.range_eq_range']
    simpa using this
end
/-- Of each operation of a row. -/
def OpsAll (f : Nat → Oper → Prop) : List Oper → Nat → Prop
  | [], _ => True
  | o :: r, k => f k o ∧ OpsAll f r (k + 1)
theorem OpsAll.get {f : Nat → Oper → Prop} : ∀ {l : List Oper} {k : Nat}, OpsAll f l k → ∀ i o, l[i]? = some o → f (k + i) o
  | [], _, _, _, _, h => by simp at h
  | x :: r, k, h, 0, o, ho => by
    simp at ho
    subst ho
    exact h.1
  | x :: r, k, h, i + 1, o, ho => by
    have := OpsAll.get h.2 i o (by simpa using ho)
    rw [Nat.add_right_comm] at this
    exact this
theorem Found.val {a0 : Act} {p : Nat → Value → World → Prop} {o : Oper} {a : Act} {w : World} (h : Found ops a0 p o a w) (j d : Nat) (he : (o.after.any fun e => e.on == j && Region.binds .any e) = true) (hd : (ops[j]?).bind (·.dst) = some d) : ∃ v, a.tmps[d]? = some v ∧ p j v w := by
  obtain ⟨e, h1, h2⟩ := Array.any_eq_true'.1 he
  simp only [Bool.and_eq_true, beq_iff_eq] at h2
  obtain ⟨rfl, h3⟩ := h2
  obtain ⟨v, hv, hp⟩ := h.vals e h1 h3
  exact ⟨v, hv d hd, hp⟩
theorem Found.val0 {a0 : Act} {p : Nat → Value → World → Prop} {o : Oper} {a : Act} {w : World} (h : Found ops a0 p o a w) (j : Nat) (he : (o.after.any fun e => e.on == j && Region.binds .any e) = true) : ∃ v, p j v w := by
  obtain ⟨e, h1, h2⟩ := Array.any_eq_true'.1 he
  simp only [Bool.and_eq_true, beq_iff_eq] at h2
  obtain ⟨rfl, h3⟩ := h2
  obtain ⟨v, _, hp⟩ := h.vals e h1 h3
  exact ⟨v, hp⟩
theorem Found.out {a0 : Act} {p : Nat → Value → World → Prop} {o : Oper} {a : Act} {w : World} (h : Found ops a0 p o a w) (t : Nat) {v : Value} (h1 : (ops.all fun x => x.dst != some t) = true) (h2 : a0.tmps[t]? = some v) : a.tmps[t]? = some v := (h.old t h1).trans h2
theorem wp_region_invL {id : Nat} {draw : Bool} {a0 : Act} {w0 : World} (m : Nat) (St : (Nat → Bool) → World → Prop) (R : Nat → World → World → Prop) (p : Nat → Value → World → Prop) (hm : P.follows .mixedOrders = true)
    (hwell : wellB ops a0.tmps.size = true) (htail : tailB ops m = true) (hst : St (fun _ => false) (if draw then w0.drew else w0)) (hmono : ∀ i j v w w', i < m → j < m → j ≠ i → waitsB ops i j = false → (∃ dn, St dn w) → p i v w → R j w w' → p i v w')
    (hop : OpsAll (OpOk P Q ops a0 St R p) (ops.toList.take m) 0)
    (hend : ∀ dn w vs, (∀ i, i < m → dn i = true) → St dn w → (∀ i, i < m → p i (vs i) w) → wpOps P ops Q (List.range' m (ops.size - m)) (putsL vs (ops.toList.take m) 0 a0) w) : (Code.region id ops draw).wp P Q a0 w0 :=
  wp_region_inv hm hwell htail hst hmono (fun i o hi ho => by
    have := hop.get i o (by rw [List.getElem?_take_of_lt hi]; simpa using ho)
    rw [Nat.zero_add] at this
    exact this) hend
/-- All of it, in whatever order. -/
theorem wp_region_invA {id : Nat} {draw : Bool} {a0 : Act} {w0 : World} (St : (Nat → Bool) → World → Prop) (R : Nat → World → World → Prop) (p : Nat → Value → World → Prop) (hm : P.follows .mixedOrders = true)
    (hwell : wellB ops a0.tmps.size = true) (hst : St (fun _ => false) (if draw then w0.drew else w0)) (hmono : ∀ i j v w w', i < ops.size → j < ops.size → j ≠ i → waitsB ops i j = false → (∃ dn, St dn w) → p i v w → R j w w' → p i v w')
    (hop : OpsAll (OpOk P Q ops a0 St R p) ops.toList 0)
    (hend : ∀ dn w vs, St dn w → (∀ i, i < ops.size → p i (vs i) w) → Q .normal (putsL vs ops.toList 0 a0) w) : (Code.region id ops draw).wp P Q a0 w0 := by
  have htk : ops.toList.take ops.size = ops.toList := List.take_of_length_le (by simp)
  refine wp_region_invL ops.size St R p hm hwell ?_ hst hmono (by rw [htk]; exact hop) (fun dn w vs _ hS hv => ?_)
  · simp only [tailB, Bool.and_eq_true, decide_eq_true_eq, Nat.le_refl, true_and, List.all_eq_true, List.mem_range, Bool.or_eq_true]
    exact fun i hi => Or.inl hi
  · rw [htk, Nat.sub_self]
    exact hend dn w vs hS hv
/-- One of the last ones. -/
theorem wpOps_step {i : Nat} {o : Oper} {rest : List Nat} {a : Act} {w : World} (ho : ops[i]? = some o) (hg : o.guard = none) (h : ∀ K : Act → World → Prop, (∀ a' w', wpOps P ops Q rest a' w' → K a' w') → Oper.wp P o a w K Q) : wpOps P ops Q (i :: rest) a w := by
  rw [wpOps_cons]
  unfold wpOp
  simp only [ho]
  rw [if_pos (by unfold Region.wanted; rw [hg])]
  exact Or.inl (h _ fun _ _ h => h)
/-- A guarded operation whose guard is met. -/
theorem wanted_yes {o : Oper} {a : Act} {b : Bool} {d : Tmp} (g : Nat) (hg : o.guard = some (g, b)) (hd : (ops[g]?).bind (·.dst) = some d) (h : a.tmps[d]? = some (.bool b)) : Region.wanted o (yielded ops a.tmps) = true := by
  unfold Region.wanted yielded
  simp only [hg, hd, Option.bind_some, h, beq_self_eq_true]
end
end Go.Proofs.YtldmanfgmadbfaaGreatDoor
namespace Go.Proofs.YtldmanfgmadbfaaGreatDoor
set_option maxRecDepth 100000
section
variable {ops : Array Oper}
theorem wanted_no {o : Oper} {a : Act} {b b' : Bool} {d : Tmp} (g : Nat) (hg : o.guard = some (g, b)) (hd : (ops[g]?).bind (·.dst) = some d) (h : a.tmps[d]? = some (.bool b')) (hb : (b' == b) = false := by rfl) : Region.wanted o (yielded ops a.tmps) = false := by
  unfold Region.wanted yielded
  simp only [hg, hd, Option.bind_some, h]
  cases b <;> cases b' <;> first | rfl | (simp at hb)
theorem wanted_undef {o : Oper} {a : Act} {b : Bool} {d : Tmp} (g : Nat) (hg : o.guard = some (g, b)) (hd : (ops[g]?).bind (·.dst) = some d) (h : a.tmps[d]? = some undef) : Region.wanted o (yielded ops a.tmps) = false := by
  unfold Region.wanted yielded
  simp only [hg, hd, Option.bind_some, h]
  cases b <;> rfl
end
end Go.Proofs.YtldmanfgmadbfaaGreatDoor
