/- A region that draws its order, by what holds when certain operations are done, whatever the order: the others are quiet. No program. -/
import Derived.Test.YtimmfnjkknbofaaDoorRegionC
namespace Go.Proofs.YtimmfnjkknbofaaDoor
set_option maxRecDepth 20000
open Go.RowKit
set_option linter.unusedVariables false
set_option maxRecDepth 100000

section
variable {P : Program} {ops : Array Oper} {Q : Exit → Act → World → Prop}

structure GoodE (ops : Array Oper) (a0 : Act) (qs : List (Option Value)) (ch : List Nat) (St : (Nat → Bool) → (Nat → Value) → World → Prop) (listed : Array Bool) (a : Act) (w : World) (vals : Nat → Value) : Prop where
  defers : a.defers = a0.defers
  size : a.tmps.size = a0.tmps.size
  closed : ∀ i o, ops[i]? = some o → listed.getD i false = true → ∀ e ∈ o.after, Region.binds .any e = true → listed.getD e.on false = true
  old : ∀ s, (∀ j o, ops[j]? = some o → listed.getD j false = true → o.dst ≠ some s) → a.tmps[s]? = a0.tmps[s]?
  got : ∀ j o d, ops[j]? = some o → listed.getD j false = true → o.dst = some d → a.tmps[d]? = some (vals j)
  quiet : ∀ j x, qs.getD j none = some x → vals j = x
  st : St (fun j => listed.getD j false) vals w

/-- operation i is up: what is done, what is not -/
structure UpE (ops : Array Oper) (i : Nat) (D : Nat → Bool) : Prop where
  self : D i = false
  done : ∀ j, depB ops i j = true → D j = true
  not : ∀ j, j < ops.size → depB ops j i = true → D j = false

/-- each operation's step -/
def StepsE (P : Program) (ops : Array Oper) (a0 : Act) (qs : List (Option Value)) (St : (Nat → Bool) → (Nat → Value) → World → Prop) : Nat → List Oper → Prop
  | _, [] => True
  | i, o :: l => (match qs.getD i none with
      | some x => ∀ D vals a w, UpE ops i D → AtC ops a0 qs i vals a → St D vals w → opGives P ops o a w fun v w' => v = x ∧ St D vals w'
      | none => ∀ D vals a w, UpE ops i D → AtC ops a0 qs i vals a → St D vals w → opGives P ops o a w fun v w' => St (fun j => if j = i then true else D j) (updV vals i v) w') ∧ StepsE P ops a0 qs St (i + 1) l

theorem stepsE_at {a0 : Act} {qs : List (Option Value)} {St : (Nat → Bool) → (Nat → Value) → World → Prop} : ∀ (l : List Oper) (i k : Nat) (o : Oper), StepsE P ops a0 qs St i l → l[k]? = some o →
    (∀ x, qs.getD (i + k) none = some x → ∀ D vals a w, UpE ops (i + k) D → AtC ops a0 qs (i + k) vals a → St D vals w → opGives P ops o a w fun v w' => v = x ∧ St D vals w') ∧
    (qs.getD (i + k) none = none → ∀ D vals a w, UpE ops (i + k) D → AtC ops a0 qs (i + k) vals a → St D vals w → opGives P ops o a w fun v w' => St (fun j => if j = i + k then true else D j) (updV vals (i + k) v) w')
  | [], _, k, o, _, hk => by simp at hk
  | o0 :: l, i, 0, o, h, hk => by
    obtain rfl : o0 = o := by simpa using hk
    have h1 := h.1
    rw [Nat.add_zero]
    cases hq : qs.getD i none with
    | some y => rw [hq] at h1; exact ⟨fun x hx => (by cases hx; exact h1), fun hx => (by cases hx)⟩
    | none => rw [hq] at h1; exact ⟨fun x hx => (by cases hx), fun _ => h1⟩
  | o0 :: l, i, k + 1, o, h, hk => by
    have := stepsE_at l (i + 1) k o h.2 (by simpa using hk)
    rw [show i + 1 + k = i + (k + 1) by omega] at this
    exact this

theorem goodE_put {a0 a : Act} {w w' : World} {qs : List (Option Value)} {ch : List Nat} {St : (Nat → Bool) → (Nat → Value) → World → Prop} {n : Nat} (hap : apartB ops n = true) (hn : n = a0.tmps.size) {listed : Array Bool} (hls : listed.size = ops.size) {vals vals' : Nat → Value}
    (g : GoodE ops a0 qs ch St listed a w vals) {i : Nat} {o : Oper} (ho : ops[i]? = some o) (hi : i ∈ Region.ready .any ops listed) {v : Value} (hv : vals' i = v) (hoth : ∀ j, j ≠ i → vals' j = vals j) (hq : ∀ j x, qs.getD j none = some x → vals' j = x) (hst : St (fun j => (listed.setIfInBounds i true).getD j false) vals' w') :
    GoodE ops a0 qs ch St (listed.setIfInBounds i true) (a.put o.dst v) w' vals' := by
  obtain ⟨hun, o', ho', hall⟩ := mem_ready.1 hi
  obtain rfl : o = o' := Option.some.inj (ho.symm.trans ho')
  have hil := (Array.getElem?_eq_some_iff.1 ho).1
  have hset : ∀ j, (listed.setIfInBounds i true).getD j false = true ↔ j = i ∨ listed.getD j false = true := by
    intro j
    by_cases hji : j = i
    · subst hji; simp [Array.getD_eq_getD_getElem?, hls, hil]
    · rw [getD_set_ne false (Ne.symm hji)]; simp [hji]
  refine ⟨?_, ?_, fun j oj hj hl e he hbd => ?_, fun s hs => ?_, fun j oj d hj hl hd => ?_, hq, hst⟩
  · rw [← g.defers]; cases o.dst <;> rfl
  · rw [← g.size]; cases o.dst <;> simp [Act.put]
  · rcases (hset j).1 hl with rfl | hl'
    · obtain rfl : o = oj := Option.some.inj (ho.symm.trans hj)
      exact (hset _).2 (.inr (hall e he hbd))
    · exact (hset _).2 (.inr (g.closed j oj hj hl' e he hbd))
  · rw [put_other s (hs i o ho ((hset i).2 (.inl rfl)))]
    exact g.old s fun j oj hj hl => hs j oj hj ((hset j).2 (.inr hl))
  · rcases (hset j).1 hl with rfl | hl'
    · obtain rfl : o = oj := Option.some.inj (ho.symm.trans hj)
      have hlt := apart_lt hap ho hd
      rw [hd, hv]
      simp [Act.put, g.size, ← hn, hlt]
    · have hji : j ≠ i := by
        rintro rfl
        have : listed.getD j false = false := by
          simpa [Array.getD_eq_getD_getElem?, hls, hil] using hun
        rw [this] at hl'; cases hl'
      rw [put_other d (apart_spec hap hj ho hd hji), hoth j hji]
      exact g.got j oj d hj hl' hd

theorem readyE_at {a0 a : Act} {w : World} {qs : List (Option Value)} {ch : List Nat} {St : (Nat → Bool) → (Nat → Value) → World → Prop} {listed : Array Bool} {vals : Nat → Value} (g : GoodE ops a0 qs ch St listed a w vals) {i : Nat} (hi : i ∈ Region.ready .any ops listed) : AtC ops a0 qs i vals a := by
  obtain ⟨hun, o, ho, hall⟩ := mem_ready.1 hi
  have hil := (Array.getElem?_eq_some_iff.1 ho).1
  have hunf : listed.getD i false = false := by
    by_cases h : i < listed.size
    · simpa [Array.getD_eq_getD_getElem?, h] using hun
    · simp [Array.getD_eq_getD_getElem?, h]
  have htmp : ∀ j d, gotB ops i j d = true → a.tmps[d]? = some (vals j) := fun j d hg => by
    unfold gotB at hg
    simp only [ho, Bool.and_eq_true, List.any_eq_true, beq_iff_eq] at hg
    obtain ⟨⟨e, he, hb, hon⟩, hd⟩ := hg
    have hl := hall e (by simpa using he) hb
    rw [hon] at hl
    obtain ⟨oj, hj, hdj⟩ := Option.bind_eq_some_iff.1 hd
    exact g.got j oj d hj hl hdj
  refine ⟨fun s hs => ?_, fun j d hg => ?_, htmp, g.quiet⟩
  · have := g.old s (fun j oj hj hl hd => by
      have hjl := (Array.getElem?_eq_some_iff.1 hj).1
      unfold oldB at hs
      rw [List.all_eq_true] at hs
      have h1 := hs j (by simpa using hjl)
      simp only [hj, hd, bne_self_eq_false, Bool.false_or, Bool.or_eq_true, beq_iff_eq, List.any_eq_true, Bool.and_eq_true] at h1
      rcases h1 with rfl | ⟨e, he, hb, hon⟩
      · rw [hunf] at hl; cases hl
      · have := g.closed j oj hj hl e (by simpa using he) hb
        rw [hon, hunf] at this; cases this)
    simp [Act.eval, Array.getD_eq_getD_getElem?, this]
  · simp [Act.eval, Array.getD_eq_getD_getElem?, htmp j d hg]

theorem goodE_all {a0 a : Act} {w : World} {qs : List (Option Value)} {ch : List Nat} {St : (Nat → Bool) → (Nat → Value) → World → Prop} {n : Nat} (hap : apartB ops n = true) (hn : n = a0.tmps.size) {listed : Array Bool} {vals : Nat → Value} (g : GoodE ops a0 qs ch St listed a w vals) (hall : ∀ i, i < ops.size → listed.getD i false = true) :
    a = putAll ops.toList vals 0 a0 := by
  have he : a.tmps = (putAll ops.toList vals 0 a0).tmps := by
    apply Array.ext_getElem?
    intro s
    by_cases hs : ∃ (j : Nat) (o : Oper), ops[j]? = some o ∧ o.dst = some s
    · obtain ⟨j, o, hj, hd⟩ := hs
      have hjl := (Array.getElem?_eq_some_iff.1 hj).1
      have hv := g.got j o s hj (hall j hjl) hd
      rw [putAll_at ops.toList _ 0 a0 s j o (by simpa using hj) hd (by rw [← hn]; exact apart_lt hap hj hd) (fun k' o' hk' hne => apart_spec hap hj (by simpa using hk') hd (Ne.symm hne))]
      rw [hv, Nat.zero_add]
    · rw [putAll_other _ _ _ _ _ (fun k (o : Oper) hk hd => hs ⟨k, o, by simpa using hk, hd⟩)]
      exact g.old s fun j (o : Oper) hj _ hd => hs ⟨j, o, hj, hd⟩
  have hd : a.defers = (putAll ops.toList vals 0 a0).defers := by rw [putAll_defers]; exact g.defers
  cases a
  simp only at he hd
  rw [Act.mk.injEq]
  exact ⟨he, hd⟩

theorem set_any_E {a0 : Act} {qs : List (Option Value)} {ch : List Nat} {St : (Nat → Bool) → (Nat → Value) → World → Prop} {n : Nat} (hap : apartB ops n = true) (hn : n = a0.tmps.size) (hbk : backB ops = true) (hch : ∀ j, j ∈ ch → qs.getD j none = none)
    (hind : ∀ D D' vals vals' w, (∀ j, j ∈ ch → D j = D' j ∧ vals j = vals' j) → St D vals w → St D' vals' w)
    (steps : StepsE P ops a0 qs St 0 ops.toList)
    (fin : ∀ D vals w, (∀ j x, qs.getD j none = some x → vals j = x) → (∀ j, j < ops.size → D j = true) → St D vals w → Q .normal (putAll ops.toList vals 0 a0) w) :
    ∀ (fuel : Nat) (listed : Array Bool) (a : Act) (w : World) (vals : Nat → Value), listed.size = ops.size → cnt ops.size (fun i => !listed.getD i true) = fuel → GoodE ops a0 qs ch St listed a w vals → wpAny P .any ops Q fuel listed a w := by
  have done : ∀ (listed : Array Bool) (a : Act) (w : World) (vals : Nat → Value), listed.size = ops.size → (∀ i, i < ops.size → listed.getD i true = true) → GoodE ops a0 qs ch St listed a w vals → Q .normal a w := by
    intro listed a w vals hls hall g
    have hall' : ∀ i, i < ops.size → listed.getD i false = true := fun i hi => by
      have := hall i hi
      simpa [Array.getD_eq_getD_getElem?, hls, hi] using this
    rw [goodE_all hap hn g hall']
    exact fin _ vals w g.quiet hall' g.st
  intro fuel
  induction fuel with
  | zero =>
    intro listed a w vals hls hc g
    have hall : ∀ i, i < ops.size → listed.getD i true = true := fun i hi => by
      have := cnt_zero _ _ hc i hi
      simpa using this
    refine ⟨?_, done listed a w vals hls hall g⟩
    apply List.eq_nil_iff_forall_not_mem.2
    intro i hi
    obtain ⟨hun, o, ho, _⟩ := mem_ready.1 hi
    have := hall i (Array.getElem?_eq_some_iff.1 ho).1
    rw [this] at hun; cases hun
  | succ fuel ih =>
    intro listed a w vals hls hc g
    refine ⟨fun h => done listed a w vals hls (fun i hi => ?_) g, fun i hi => ?_⟩
    · induction i using Nat.strongRecOn with
      | ind i ihi =>
        cases hl : listed.getD i true with
        | true => rfl
        | false =>
          exfalso
          have ho : ops[i]? = some ops[i] := Array.getElem?_eq_getElem hi
          have : i ∈ Region.ready .any ops listed := mem_ready.2 ⟨hl, _, ho, fun e he hb => by
            have hlt := back_spec hbk ho he hb
            have := ihi e.on hlt (by omega)
            simpa [Array.getD_eq_getD_getElem?, hls, show e.on < ops.size by omega] using this⟩
          rw [h] at this
          cases this
    · obtain ⟨hun, o, ho, hall⟩ := mem_ready.1 hi
      have hil := (Array.getElem?_eq_some_iff.1 ho).1
      have hat := readyE_at g hi
      have hs := stepsE_at ops.toList 0 i o steps (by simpa using ho)
      rw [Nat.zero_add] at hs
      have hcnt := cnt_less ops.size (fun i => !listed.getD i true) (fun j => !(listed.setIfInBounds i true).getD j true) i hil (by simp [hun]) (by simp [Array.getD_eq_getD_getElem?, hls, hil]) (fun j hj => by rw [getD_set_ne true (Ne.symm hj)])
      have hunf : listed.getD i false = false := by
        simpa [Array.getD_eq_getD_getElem?, hls, hil] using hun
      have hset : ∀ j, (listed.setIfInBounds i true).getD j false = if j = i then true else listed.getD j false := by
        intro j
        by_cases hji : j = i
        · subst hji; simp [Array.getD_eq_getD_getElem?, hls, hil]
        · rw [getD_set_ne false (Ne.symm hji)]; simp [hji]
      have hup : UpE ops i (fun j => listed.getD j false) := by
        refine ⟨hunf, fun j hd => ?_, fun j hjl hd => ?_⟩
        · unfold depB at hd
          rw [Bool.and_eq_true] at hd
          exact reach_listed g.closed hall ho i j (by simpa using hd.1) (by
            have := hd.2
            simp at this
            exact fun e => this e.symm)
        · cases hl : listed.getD j false with
          | false => rfl
          | true =>
            exfalso
            have hoj : ops[j]? = some ops[j] := Array.getElem?_eq_getElem hjl
            unfold depB at hd
            rw [Bool.and_eq_true] at hd
            have := reach_listed g.closed (fun e he hb => g.closed _ _ hoj hl e he hb) hoj _ i (by simpa using hd.1) (by
              have := hd.2
              simp at this
              exact fun e => this e.symm)
            rw [hunf] at this; cases this
      cases hq : qs.getD i none with
      | some x =>
        refine wpOp_mono (fun a' w' hh => ?_) (wpOp_of_gives ho (hs.1 x hq _ vals a w hup hat g.st))
        obtain ⟨v, rfl, rfl, hst⟩ := hh
        refine ih _ _ _ vals (by simpa using hls) (by omega) (goodE_put hap hn hls g ho hi (g.quiet i _ hq) (fun _ _ => rfl) g.quiet (hind _ _ _ _ _ (fun j hj => ⟨?_, rfl⟩) hst))
        have hji : j ≠ i := fun e => by have := hch j hj; rw [e, hq] at this; cases this
        rw [hset, if_neg hji]
      | none =>
        refine wpOp_mono (fun a' w' hh => ?_) (wpOp_of_gives ho (hs.2 hq _ vals a w hup hat g.st))
        obtain ⟨v, rfl, hst'⟩ := hh
        refine ih _ _ _ (updV vals i v) (by simpa using hls) (by omega) (goodE_put hap hn hls g ho hi (updV_same _ _ _) (fun j hj => updV_other _ _ hj) (fun j x hx => ?_) (hind _ _ _ _ _ (fun j hj => ⟨(hset j).symm, rfl⟩) hst'))
        rw [updV_other _ _ (fun e => by rw [e, hq] at hx; cases hx)]
        exact g.quiet j x hx

def loudB (qs : List (Option Value)) (ch : List Nat) : Bool := ch.all fun j => (qs.getD j none).isNone
/-- A REGION THAT DRAWS ITS ORDER, BY WHAT IS DONE -/
theorem wp_region_set {id : Nat} {l : List Oper} {a0 : Act} {w0 : World} (qs : List (Option Value)) (ch : List Nat) (St : (Nat → Bool) → (Nat → Value) → World → Prop) (n : Nat) (hm : P.follows .mixedOrders = true) (hap : apartB l.toArray n = true) (hbk : backB l.toArray = true) (hcb : loudB qs ch = true) (hn : n = a0.tmps.size)
    (h0 : ∀ vals, St (fun _ => false) vals w0.drew)
    (hind : ∀ D D' vals vals' w, (∀ j, j ∈ ch → D j = D' j ∧ vals j = vals' j) → St D vals w → St D' vals' w)
    (steps : StepsE P l.toArray a0 qs St 0 l)
    (fin : ∀ D vals w, (∀ j x, qs.getD j none = some x → vals j = x) → (∀ j, j < l.toArray.size → D j = true) → St D vals w → Q .normal (putAll l vals 0 a0) w) :
    (Code.region id l.toArray true).wp P Q a0 w0 := by
  refine wp_region_any hm ?_
  refine set_any_E (a0 := a0) (qs := qs) (ch := ch) (St := St) hap hn hbk (fun j hj => by have := List.all_eq_true.1 hcb j hj; simpa using this) hind (by simpa using steps) (by simpa using fin) _ _ _ _ (fun j => (qs.getD j none).getD undef) (by simp) ?_ ?_
  · have : ∀ k, k ≤ l.toArray.size → cnt k (fun i => !(Array.replicate l.toArray.size false).getD i true) = k := by
      intro k
      induction k with
      | zero => intro _; rfl
      | succ k ih =>
        intro hk
        have hk' : k < l.toArray.size := hk
        rw [cnt, ih (by omega), Array.getD_eq_getD_getElem?, Array.getElem?_replicate, if_pos hk']
        rfl
    exact this _ (Nat.le_refl _)
  · have hno : ∀ j, (Array.replicate l.toArray.size false).getD j false = false := fun j => by
      simp [Array.getD_eq_getD_getElem?, Array.getElem?_replicate]
      split <;> simp
    refine ⟨rfl, rfl, fun i o _ hl => ?_, fun _ _ => rfl, fun j o d _ hl => ?_, fun j x hx => by simp only [hx, Option.getD_some], hind _ _ _ _ _ (fun j _ => ⟨(hno j).symm, rfl⟩) (h0 _)⟩
    · rw [hno] at hl; cases hl
    · rw [hno] at hl; cases hl

end
end Go.Proofs.YtimmfnjkknbofaaDoor
