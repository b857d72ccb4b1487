/- A region that draws its order, by facts: each operation hands on a value of which a fact holds that no later operation takes away (blocks that are there are left as they are; blocks may come). One proof an operation, whatever the order. No program. -/
import Derived.Orders
import Derived.Below
import Derived.WalkKit
namespace Go.Proofs.YtimmfnjkknbofaaDoor
set_option maxRecDepth 20000
open Go.RowKit

section
variable {P : Program} {ops : Array Oper} {Q : Exit → Act → World → Prop}

/-- what an operation hands on, and the world behind it -/
def opGives (P : Program) (ops : Array Oper) (o : Oper) (a : Act) (w : World) (Φ : Value → World → Prop) : Prop :=
  if Region.wanted o (yielded ops a.tmps) = true then
    match (execOp a.eval o).run P w with
    | .ok (.value v) w' => Φ v w'
    | .ok .skip w' => Φ undef w'
    | .ok (.enter f args) w' => Calls P f args w' fun e w'' => ∃ v, e = .returned v ∧ Φ v w''
    | _ => False
  else Φ undef w

theorem wpOp_of_gives {i : Nat} {o : Oper} {a : Act} {w : World} {Φ : Value → World → Prop} (hi : ops[i]? = some o) (h : opGives P ops o a w Φ) :
    wpOp P ops Q i (fun a' w' => ∃ v, a' = a.put o.dst v ∧ Φ v w') a w := by
  unfold wpOp
  simp only [hi]
  unfold opGives at h
  split
  · rename_i hw
    rw [if_pos hw] at h
    left
    unfold Oper.wp
    generalize (execOp a.eval o).run P w = r at *
    cases r with
    | ok n w' =>
      cases n <;> simp only [Oper.upon] at h ⊢
      case value v => exact ⟨v, rfl, h⟩
      case skip => exact ⟨undef, rfl, h⟩
      case enter f args =>
        refine Calls.mono h fun e w'' he => ?_
        obtain ⟨v, rfl, hv⟩ := he
        exact ⟨v, rfl, hv⟩
    | halt x w' => cases x <;> simp at h
  · rename_i hw
    rw [if_neg hw] at h
    exact ⟨undef, rfl, h⟩

/-- what is asked of an operation's run -/
def gUpon (P : Program) (Φ : Value → World → Prop) : Result Next → Prop
  | .ok (.value v) w' => Φ v w'
  | .ok .skip w' => Φ undef w'
  | .ok (.enter f args) w' => Calls P f args w' fun e w'' => ∃ v, e = .returned v ∧ Φ v w''
  | _ => False
theorem gives_by {o : Oper} {a : Act} {w : World} {Φ : Value → World → Prop} (hw : Region.wanted o (yielded ops a.tmps) = true) (ρ : Operand → Value) (hρ : a.eval = ρ)
    (h : (∀ f, ρ (.func f) = .func (.func f) #[] #[]) → (∀ v, ρ (.const v) = v) → gUpon P Φ ((execOp ρ o).run P w)) : opGives P ops o a w Φ := by
  have h' := h (fun f => by rw [← hρ]; rfl) (fun v => by rw [← hρ]; rfl)
  unfold opGives
  rw [if_pos hw, hρ]
  generalize (execOp ρ o).run P w = r at *
  cases r with
  | ok n w' => cases n <;> exact h'
  | halt x w' => exact h'
theorem gives_off {o : Oper} {a : Act} {w : World} {Φ : Value → World → Prop} (hw : Region.wanted o (yielded ops a.tmps) = false) (h : Φ undef w) : opGives P ops o a w Φ := by
  unfold opGives
  rw [if_neg (by rw [hw]; simp)]
  exact h
theorem gUpon_value {Φ : Value → World → Prop} {r : Result Next} {v : Value} {w : World} (hr : r = .ok (.value v) w) (h : Φ v w) : gUpon P Φ r := by subst hr; exact h
theorem gUpon_enter {Φ : Value → World → Prop} {r : Result Next} {f : FuncId} {args : Array Value} {w : World} (hr : r = .ok (.enter f args) w) (h : Calls P f args w fun e w'' => ∃ v, e = .returned v ∧ Φ v w'') : gUpon P Φ r := by subst hr; exact h

/-! ### what can be asked of a region's operations by reckoning -/
def apartB (ops : Array Oper) (n : Nat) : Bool :=
  (List.range ops.size).all fun i => (match (ops[i]?).bind (·.dst) with | some d => decide (d < n) | none => true) &&
    (List.range ops.size).all fun j => i == j || (match (ops[i]?).bind (·.dst), (ops[j]?).bind (·.dst) with | some d, some d' => d != d' | _, _ => true)
def backB (ops : Array Oper) : Bool :=
  (List.range ops.size).all fun i => match ops[i]? with | some o => o.after.all fun e => !Region.binds .any e || decide (e.on < i) | none => true
/-- slot s is, when operation i comes up, as it was ahead of the region -/
def oldB (ops : Array Oper) (i s : Nat) : Bool :=
  (List.range ops.size).all fun j => match ops[j]? with | some o => o.dst != some s || j == i || o.after.toList.any fun e => Region.binds .any e && e.on == i | none => true
/-- operation i waits for j, which leaves its value in slot d -/
def gotB (ops : Array Oper) (i j d : Nat) : Bool :=
  (match ops[i]? with | some o => o.after.toList.any fun e => Region.binds .any e && e.on == j | none => false) && (ops[j]?).bind (·.dst) == some d

theorem apart_spec {n : Nat} (h : apartB ops n = true) {i j d : Nat} {oi oj : Oper} (hi : ops[i]? = some oi) (hj : ops[j]? = some oj) (hd : oi.dst = some d) (hne : i ≠ j) : oj.dst ≠ some d := by
  intro hd'
  have hil := (Array.getElem?_eq_some_iff.1 hi).1
  have hjl := (Array.getElem?_eq_some_iff.1 hj).1
  unfold apartB at h
  rw [List.all_eq_true] at h
  have h1 := h i (by simpa using hil)
  rw [Bool.and_eq_true, List.all_eq_true] at h1
  have h2 := h1.2 j (by simpa using hjl)
  simp [hi, hj, hd, hd', hne] at h2
theorem apart_lt {n : Nat} (h : apartB ops n = true) {i d : Nat} {oi : Oper} (hi : ops[i]? = some oi) (hd : oi.dst = some d) : d < n := by
  have hil := (Array.getElem?_eq_some_iff.1 hi).1
  unfold apartB at h
  rw [List.all_eq_true] at h
  have h1 := h i (by simpa using hil)
  rw [Bool.and_eq_true] at h1
  have h2 := h1.1
  simpa [hi, hd] using h2
theorem back_spec (h : backB ops = true) {i : Nat} {o : Oper} (hi : ops[i]? = some o) {e : Edge} (he : e ∈ o.after) (hb : Region.binds .any e = true) : e.on < i := by
  have hil := (Array.getElem?_eq_some_iff.1 hi).1
  unfold backB at h
  rw [List.all_eq_true] at h
  have h1 := h i (by simpa using hil)
  simp only [hi, Array.all_eq_true_iff_forall_mem] at h1
  have h2 := h1 e he
  simpa [hb] using h2

/-! ### counting what has not come up -/
def cnt : Nat → (Nat → Bool) → Nat
  | 0, _ => 0
  | k + 1, p => cnt k p + (if p k then 1 else 0)
theorem cnt_congr : ∀ (k : Nat) (p q : Nat → Bool), (∀ j, j < k → p j = q j) → cnt k p = cnt k q
  | 0, _, _, _ => rfl
  | k + 1, p, q, h => by rw [cnt, cnt, cnt_congr k p q (fun j hj => h j (by omega)), h k (by omega)]
theorem cnt_less : ∀ (k : Nat) (p q : Nat → Bool) (i : Nat), i < k → p i = true → q i = false → (∀ j, j ≠ i → p j = q j) → cnt k p = cnt k q + 1
  | k + 1, p, q, i, hi, hp, hq, h => by
    rw [cnt, cnt]
    by_cases hk : i = k
    · subst hk
      rw [cnt_congr i p q (fun j hj => h j (by omega)), hp, hq]; simp
    · rw [cnt_less k p q i (by omega) hp hq h, h k (fun e => hk e.symm)]; omega
theorem cnt_zero : ∀ (k : Nat) (p : Nat → Bool), cnt k p = 0 → ∀ j, j < k → p j = false
  | k + 1, p, h, j, hj => by
    rw [cnt] at h
    by_cases hk : j = k
    · subst hk
      cases hp : p j with
      | false => rfl
      | true => rw [hp] at h; simp at h
    · exact cnt_zero k p (by omega) j (by omega)

/-! ### the state while the operations come up -/
structure Good (ops : Array Oper) (a0 : Act) (w0 : World) (F : Nat → Value → World → Prop) (listed : Array Bool) (a : Act) (w : World) : Prop where
  defers : a.defers = a0.defers
  size : a.tmps.size = a0.tmps.size
  below : Below w0.heap.size w0 w
  closed : ∀ i o, ops[i]? = some o → listed.getD i false = true → ∀ e ∈ o.after, Region.binds .any e = true → listed.getD e.on false = true
  old : ∀ s, (∀ j o, ops[j]? = some o → listed.getD j false = true → o.dst ≠ some s) → a.tmps[s]? = a0.tmps[s]?
  got : ∀ j o d, ops[j]? = some o → listed.getD j false = true → o.dst = some d → ∃ v, a.tmps[d]? = some v ∧ F j v w

/-- what operation i finds -/
structure At (ops : Array Oper) (a0 : Act) (w0 : World) (F : Nat → Value → World → Prop) (i : Nat) (a : Act) (w : World) : Prop where
  below : Below w0.heap.size w0 w
  old : ∀ s, oldB ops i s = true → a.eval (.tmp s) = a0.eval (.tmp s)
  got : ∀ j d, gotB ops i j d = true → ∃ v, a.tmps[d]? = some v ∧ F j v w

theorem At.val {a0 a : Act} {w0 w : World} {F : Nat → Value → World → Prop} {i : Nat} (h : At ops a0 w0 F i a w) (j d : Nat) (hg : gotB ops i j d = true) : ∃ v, a.eval (.tmp d) = v ∧ F j v w := by
  obtain ⟨v, hv, hF⟩ := h.got j d hg
  exact ⟨v, by simp [Act.eval, Array.getD_eq_getD_getElem?, hv], hF⟩
theorem At.guard {a0 a : Act} {w0 w : World} {F : Nat → Value → World → Prop} {i : Nat} (h : At ops a0 w0 F i a w) (j d : Nat) (hg : gotB ops i j d = true) (b : Bool) (hb : ∀ v, F j v w → v = .bool b) : yielded ops a.tmps j = some b := by
  obtain ⟨v, hv, hF⟩ := h.got j d hg
  have hd : (ops[j]?).bind (·.dst) = some d := by
    unfold gotB at hg
    rw [Bool.and_eq_true] at hg
    simpa using hg.2
  unfold yielded
  rw [hd]
  simp [hv, hb v hF]

theorem ready_at {a0 a : Act} {w0 w : World} {F : Nat → Value → World → Prop} {listed : Array Bool} (g : Good ops a0 w0 F listed a w) {i : Nat} (hi : i ∈ Region.ready .any ops listed) : At ops a0 w0 F i a w := by
  obtain ⟨hun, o, ho, hall⟩ := mem_ready.1 hi
  have hil := (Array.getElem?_eq_some_iff.1 ho).1
  have hunf : listed.getD i false = false := by
    by_cases h : i < listed.size
    · simpa [Array.getD_eq_getD_getElem?, h] using hun
    · simp [Array.getD_eq_getD_getElem?, h]
  refine ⟨g.below, fun s hs => ?_, fun j d hg => ?_⟩
  · have := g.old s (fun j oj hj hl hd => by
      have hjl := (Array.getElem?_eq_some_iff.1 hj).1
      unfold oldB at hs
      rw [List.all_eq_true] at hs
      have h1 := hs j (by simpa using hjl)
      simp only [hj, hd, bne_self_eq_false, Bool.false_or, Bool.or_eq_true, beq_iff_eq, List.any_eq_true, Bool.and_eq_true] at h1
      rcases h1 with rfl | ⟨e, he, hb, hon⟩
      · rw [hunf] at hl; cases hl
      · have := g.closed j oj hj hl e (by simpa using he) hb
        rw [hon, hunf] at this; cases this)
    simp [Act.eval, Array.getD_eq_getD_getElem?, this]
  · unfold gotB at hg
    simp only [ho, Bool.and_eq_true, List.any_eq_true, beq_iff_eq] at hg
    obtain ⟨⟨e, he, hb, hon⟩, hd⟩ := hg
    have hl := hall e (by simpa using he) hb
    rw [hon] at hl
    obtain ⟨oj, hj, hdj⟩ := Option.bind_eq_some_iff.1 hd
    exact g.got j oj d hj hl hdj

theorem good_put {a0 a : Act} {w0 w w' : World} {F : Nat → Value → World → Prop} (hF : ∀ i v w w', Below w.heap.size w w' → F i v w → F i v w') {n : Nat} (hap : apartB ops n = true) (hn : n = a0.tmps.size) {listed : Array Bool} (hls : listed.size = ops.size)
    (g : Good ops a0 w0 F listed a w) {i : Nat} {o : Oper} (ho : ops[i]? = some o) (hi : i ∈ Region.ready .any ops listed) {v : Value} (hb : Below w.heap.size w w') (hv : F i v w') :
    Good ops a0 w0 F (listed.setIfInBounds i true) (a.put o.dst v) w' := by
  obtain ⟨hun, o', ho', hall⟩ := mem_ready.1 hi
  obtain rfl : o = o' := Option.some.inj (ho.symm.trans ho')
  have hil := (Array.getElem?_eq_some_iff.1 ho).1
  have hset : ∀ j, (listed.setIfInBounds i true).getD j false = true ↔ j = i ∨ listed.getD j false = true := by
    intro j
    by_cases hji : j = i
    · subst hji; simp [Array.getD_eq_getD_getElem?, hls, hil]
    · rw [getD_set_ne false (Ne.symm hji)]; simp [hji]
  have put_other : ∀ s, o.dst ≠ some s → (a.put o.dst v).tmps[s]? = a.tmps[s]? := by
    intro s hs
    cases hd : o.dst with
    | none => rfl
    | some d =>
      have : d ≠ s := fun e => hs (by rw [hd, e])
      simp [Act.put, this]
  refine ⟨?_, ?_, g.below.trans (hb.mono g.below.size), fun j oj hj hl e he hbd => ?_, fun s hs => ?_, fun j oj d hj hl hd => ?_⟩
  · rw [← g.defers]; cases o.dst <;> rfl
  · rw [← g.size]; cases o.dst <;> simp [Act.put]
  · rcases (hset j).1 hl with rfl | hl'
    · obtain rfl : o = oj := Option.some.inj (ho.symm.trans hj)
      exact (hset _).2 (.inr (hall e he hbd))
    · exact (hset _).2 (.inr (g.closed j oj hj hl' e he hbd))
  · rw [put_other s (hs i o ho ((hset i).2 (.inl rfl)))]
    exact g.old s fun j oj hj hl => hs j oj hj ((hset j).2 (.inr hl))
  · rcases (hset j).1 hl with rfl | hl'
    · obtain rfl : o = oj := Option.some.inj (ho.symm.trans hj)
      have hlt := apart_lt hap ho hd
      refine ⟨v, ?_, hv⟩
      rw [hd]
      simp [Act.put, g.size, ← hn, hlt]
    · obtain ⟨u, hu, hFu⟩ := g.got j oj d hj hl' hd
      have hji : j ≠ i := by
        rintro rfl
        have : listed.getD j false = false := by
          simpa [Array.getD_eq_getD_getElem?, hls, hil] using hun
        rw [this] at hl'; cases hl'
      exact ⟨u, by rw [put_other d (apart_spec hap hj ho hd hji)]; exact hu, hF _ _ _ _ hb hFu⟩

/-- all values put, one behind the other -/
def putAll : List Oper → (Nat → Value) → Nat → Act → Act
  | [], _, _, a => a
  | o :: l, vals, i, a => putAll l vals (i + 1) (a.put o.dst (vals i))

theorem putAll_other : ∀ (l : List Oper) (vals : Nat → Value) (i : Nat) (a : Act) (s : Nat), (∀ (k : Nat) o, l[k]? = some o → o.dst ≠ some s) → (putAll l vals i a).tmps[s]? = a.tmps[s]?
  | [], _, _, _, _, _ => rfl
  | o :: l, vals, i, a, s, h => by
    rw [putAll, putAll_other l vals (i + 1) _ s (fun k o' hk => h (k + 1) o' (by simpa using hk))]
    have h0 := h 0 o rfl
    cases hd : o.dst with
    | none => rfl
    | some d =>
      have : d ≠ s := fun e => h0 (by rw [hd, e])
      simp [Act.put, this]
theorem putAll_at : ∀ (l : List Oper) (vals : Nat → Value) (i : Nat) (a : Act) (s : Nat) (k : Nat) (o : Oper), l[k]? = some o → o.dst = some s → s < a.tmps.size → (∀ (k' : Nat) o', l[k']? = some o' → k' ≠ k → o'.dst ≠ some s) →
    (putAll l vals i a).tmps[s]? = some (vals (i + k))
  | [], _, _, _, _, k, o, hk, _, _, _ => by simp at hk
  | o0 :: l, vals, i, a, s, 0, o, hk, hd, hs, h => by
    obtain rfl : o0 = o := by simpa using hk
    rw [putAll, putAll_other l vals (i + 1) _ s (fun k o' hk' => h (k + 1) o' (by simpa using hk') (by omega)), hd]
    simp [Act.put, hs]
  | o0 :: l, vals, i, a, s, k + 1, o, hk, hd, hs, h => by
    rw [putAll, putAll_at l vals (i + 1) _ s k o (by simpa using hk) hd (by cases o0.dst <;> simpa [Act.put] using hs) (fun k' o' hk' hne => h (k' + 1) o' (by simpa using hk') (by omega))]
    congr 2; omega
theorem putAll_size : ∀ (l : List Oper) (vals : Nat → Value) (i : Nat) (a : Act), (putAll l vals i a).tmps.size = a.tmps.size
  | [], _, _, _ => rfl
  | o :: l, vals, i, a => by rw [putAll, putAll_size l]; cases o.dst <;> simp [Act.put]
theorem putAll_defers : ∀ (l : List Oper) (vals : Nat → Value) (i : Nat) (a : Act), (putAll l vals i a).defers = a.defers
  | [], _, _, _ => rfl
  | o :: l, vals, i, a => by rw [putAll, putAll_defers l]; cases o.dst <;> rfl

theorem good_all {a0 a : Act} {w0 w : World} {F : Nat → Value → World → Prop} {n : Nat} (hap : apartB ops n = true) (hn : n = a0.tmps.size) {listed : Array Bool} (g : Good ops a0 w0 F listed a w) (hall : ∀ i, i < ops.size → listed.getD i false = true) :
    ∃ vals : Nat → Value, a = putAll ops.toList vals 0 a0 ∧ ∀ j d, (ops[j]?).bind (·.dst) = some d → F j (vals j) w := by
  refine ⟨fun j => (((ops[j]?).bind (·.dst)).bind (a.tmps[·]?)).getD undef, ?_, fun j d hd => ?_⟩
  · have he : a.tmps = (putAll ops.toList (fun j => (((ops[j]?).bind (·.dst)).bind (a.tmps[·]?)).getD undef) 0 a0).tmps := by
      apply Array.ext_getElem?
      intro s
      by_cases hs : ∃ (j : Nat) (o : Oper), ops[j]? = some o ∧ o.dst = some s
      · obtain ⟨j, o, hj, hd⟩ := hs
        have hjl := (Array.getElem?_eq_some_iff.1 hj).1
        obtain ⟨v, hv, _⟩ := g.got j o s hj (hall j hjl) hd
        rw [putAll_at ops.toList _ 0 a0 s j o (by simpa using hj) hd (by rw [← hn]; exact apart_lt hap hj hd) (fun k' o' hk' hne => apart_spec hap hj (by simpa using hk') hd (Ne.symm hne))]
        simp [hj, hd, hv]
      · rw [putAll_other _ _ _ _ _ (fun k (o : Oper) hk hd => hs ⟨k, o, by simpa using hk, hd⟩)]
        exact g.old s fun j (o : Oper) hj _ hd => hs ⟨j, o, hj, hd⟩
    have hd : a.defers = (putAll ops.toList (fun j => (((ops[j]?).bind (·.dst)).bind (a.tmps[·]?)).getD undef) 0 a0).defers := by rw [putAll_defers]; exact g.defers
    cases a
    simp only at he hd
    rw [Act.mk.injEq]
    exact ⟨he, hd⟩
  · obtain ⟨o, ho, hdo⟩ := Option.bind_eq_some_iff.1 hd
    have hjl := (Array.getElem?_eq_some_iff.1 ho).1
    obtain ⟨v, hv, hF⟩ := g.got j o d ho (hall j hjl) hdo
    simp only [ho, Option.bind_some, hdo, hv, Option.getD_some]
    exact hF

/-- each operation's step -/
def Steps (P : Program) (ops : Array Oper) (a0 : Act) (w0 : World) (F : Nat → Value → World → Prop) : Nat → List Oper → Prop
  | _, [] => True
  | i, o :: l => (∀ a w, At ops a0 w0 F i a w → opGives P ops o a w fun v w' => Below w.heap.size w w' ∧ F i v w') ∧ Steps P ops a0 w0 F (i + 1) l

theorem steps_at {a0 : Act} {w0 : World} {F : Nat → Value → World → Prop} : ∀ (l : List Oper) (i k : Nat) (o : Oper), Steps P ops a0 w0 F i l → l[k]? = some o → ∀ a w, At ops a0 w0 F (i + k) a w → opGives P ops o a w fun v w' => Below w.heap.size w w' ∧ F (i + k) v w'
  | [], _, k, o, _, hk => by simp at hk
  | o0 :: l, i, 0, o, h, hk => by
    obtain rfl : o0 = o := by simpa using hk
    exact h.1
  | o0 :: l, i, k + 1, o, h, hk => by
    have := steps_at l (i + 1) k o h.2 (by simpa using hk)
    rw [show i + 1 + k = i + (k + 1) by omega] at this
    exact this

theorem facts_any {a0 : Act} {w0 : World} {F : Nat → Value → World → Prop} (hF : ∀ i v w w', Below w.heap.size w w' → F i v w → F i v w') {n : Nat} (hap : apartB ops n = true) (hn : n = a0.tmps.size) (hbk : backB ops = true)
    (steps : Steps P ops a0 w0 F 0 ops.toList)
    (fin : ∀ vals w, Below w0.heap.size w0 w → (∀ j d, (ops[j]?).bind (·.dst) = some d → F j (vals j) w) → Q .normal (putAll ops.toList vals 0 a0) w) :
    ∀ (fuel : Nat) (listed : Array Bool) (a : Act) (w : World), listed.size = ops.size → cnt ops.size (fun i => !listed.getD i true) = fuel → Good ops a0 w0 F listed a w → wpAny P .any ops Q fuel listed a w := by
  have done : ∀ (listed : Array Bool) (a : Act) (w : World), listed.size = ops.size → (∀ i, i < ops.size → listed.getD i true = true) → Good ops a0 w0 F listed a w → Q .normal a w := by
    intro listed a w hls hall g
    obtain ⟨vals, rfl, hv⟩ := good_all hap hn g (fun i hi => by
      have := hall i hi
      simpa [Array.getD_eq_getD_getElem?, hls, hi] using this)
    exact fin vals w g.below hv
  intro fuel
  induction fuel with
  | zero =>
    intro listed a w hls hc g
    have hall : ∀ i, i < ops.size → listed.getD i true = true := fun i hi => by
      have := cnt_zero _ _ hc i hi
      simpa using this
    refine ⟨?_, done listed a w hls hall g⟩
    apply List.eq_nil_iff_forall_not_mem.2
    intro i hi
    obtain ⟨hun, o, ho, _⟩ := mem_ready.1 hi
    have := hall i (Array.getElem?_eq_some_iff.1 ho).1
    rw [this] at hun; cases hun
  | succ fuel ih =>
    intro listed a w hls hc g
    refine ⟨fun h => done listed a w hls (fun i hi => ?_) g, fun i hi => ?_⟩
    · -- the first that has not come up could come up
      induction i using Nat.strongRecOn with
      | ind i ihi =>
        cases hl : listed.getD i true with
        | true => rfl
        | false =>
          exfalso
          have ho : ops[i]? = some ops[i] := Array.getElem?_eq_getElem hi
          have : i ∈ Region.ready .any ops listed := mem_ready.2 ⟨hl, _, ho, fun e he hb => by
            have hlt := back_spec hbk ho he hb
            have := ihi e.on hlt (by omega)
            simpa [Array.getD_eq_getD_getElem?, hls, show e.on < ops.size by omega] using this⟩
          rw [h] at this
          cases this
    · obtain ⟨hun, o, ho, _⟩ := mem_ready.1 hi
      have hil := (Array.getElem?_eq_some_iff.1 ho).1
      have hs := steps_at ops.toList 0 i o steps (by simpa using ho) a w (by simpa using ready_at g hi)
      rw [Nat.zero_add] at hs
      refine wpOp_mono (fun a' w' hh => ?_) (wpOp_of_gives ho hs)
      obtain ⟨v, rfl, hb, hv⟩ := hh
      refine ih _ _ _ (by simpa using hls) ?_ (good_put hF hap hn hls g ho hi hb hv)
      have := cnt_less ops.size (fun i => !listed.getD i true) (fun j => !(listed.setIfInBounds i true).getD j true) i hil (by simp [hun]) (by simp [Array.getD_eq_getD_getElem?, hls, hil]) (fun j hj => by rw [getD_set_ne true (Ne.symm hj)])
      omega

/-- facts in a row, one an operation -/
def FL (l : List (Value → World → Prop)) (i : Nat) (v : Value) (w : World) : Prop := l.getD i (fun _ _ => True) v w
def isV (x : Value) : Value → World → Prop := fun v _ => v = x
def Stable (p : Value → World → Prop) : Prop := ∀ v w w', Below w.heap.size w w' → p v w → p v w'
def AllStable : List (Value → World → Prop) → Prop
  | [] => True
  | p :: l => Stable p ∧ AllStable l
theorem stable_isV (x : Value) : Stable (isV x) := fun _ _ _ _ h => h
theorem stable_true : Stable (fun _ _ => True) := fun _ _ _ _ h => h
theorem FL_stable : ∀ (l : List (Value → World → Prop)), AllStable l → ∀ i v w w', Below w.heap.size w w' → FL l i v w → FL l i v w'
  | [], _, _, _, _, _, _, _ => by simp [FL]
  | p :: l, hs, 0, v, w, w', hb, h => hs.1 v w w' hb h
  | p :: l, hs, i + 1, v, w, w', hb, h => FL_stable l hs.2 i v w w' hb h

/-- A REGION THAT DRAWS ITS ORDER, BY FACTS -/
theorem wp_region_facts {id : Nat} {l : List Oper} {a0 : Act} {w0 : World} (F : Nat → Value → World → Prop) (n : Nat) (hm : P.follows .mixedOrders = true) (hap : apartB l.toArray n = true) (hbk : backB l.toArray = true) (hn : n = a0.tmps.size)
    (hF : ∀ i v w w', Below w.heap.size w w' → F i v w → F i v w')
    (steps : Steps P l.toArray a0 w0 F 0 l)
    (fin : ∀ vals w, Below w0.heap.size w0 w → (∀ j d, (l.toArray[j]?).bind (·.dst) = some d → F j (vals j) w) → Q .normal (putAll l vals 0 a0) w) :
    (Code.region id l.toArray true).wp P Q a0 w0 := by
  refine wp_region_any hm ?_
  refine facts_any (a0 := a0) (w0 := w0) (F := F) hF hap hn hbk (by simpa using steps) (by simpa using fin) _ _ _ _ (by simp) ?_ ?_
  · have : ∀ k, k ≤ l.toArray.size → cnt k (fun i => !(Array.replicate l.toArray.size false).getD i true) = k := by
      intro k
      induction k with
      | zero => intro _; rfl
      | succ k ih =>
        intro hk
        have hk' : k < l.toArray.size := hk
        rw [cnt, ih (by omega), Array.getD_eq_getD_getElem?, Array.getElem?_replicate, if_pos hk']
        rfl
    exact this _ (Nat.le_refl _)
  · refine ⟨rfl, rfl, (Below.refl _ w0).drew, fun i o _ hl => ?_, fun _ _ => rfl, fun j o d _ hl => ?_⟩
    · exfalso
      simp [Array.getD_eq_getD_getElem?, Array.getElem?_replicate] at hl
      split at hl <;> simp at hl
    · exfalso
      simp [Array.getD_eq_getD_getElem?, Array.getElem?_replicate] at hl
      split at hl <;> simp at hl

end
end Go.Proofs.YtimmfnjkknbofaaDoor
