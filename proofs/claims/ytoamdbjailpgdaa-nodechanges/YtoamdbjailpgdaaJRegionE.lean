/- A region that draws its order, by what holds when certain operations are done, whatever the order: the others are quiet. No program. -/
import Derived.Test.YtoamdbjailpgdaaRegionC
import Derived.Test.YtoamdbjailpgdaaJNCg
import Derived.Test.YtoamdbjailpgdaaJNKeep
import Derived.Test.YtoamdbjailpgdaaNRefM
namespace Go.Proofs.Ytoamdbjailpgdaa
set_option maxRecDepth 20000
open Go.RowKit
set_option linter.unusedVariables false
set_option maxRecDepth 100000

section
variable {P : Program} {ops : Array Oper} {Q : Exit → Act → World → Prop}

structure GoodE (ops : Array Oper) (a0 : Act) (qs : List (Option Value)) (ch : List Nat) (St : (Nat → Bool) → (Nat → Value) → World → Prop) (listed : Array Bool) (a : Act) (w : World) (vals : Nat → Value) : Prop where
  defers : a.defers = a0.defers
  size : a.tmps.size = a0.tmps.size
  closed : ∀ i o, ops[i]? = some o → listed.getD i false = true → ∀ e ∈ o.after, Region.binds .any e = true → listed.getD e.on false = true
  old : ∀ s, (∀ j o, ops[j]? = some o → listed.getD j false = true → o.dst ≠ some s) → a.tmps[s]? = a0.tmps[s]?
  got : ∀ j o d, ops[j]? = some o → listed.getD j false = true → o.dst = some d → a.tmps[d]? = some (vals j)
  quiet : ∀ j x, qs.getD j none = some x → vals j = x
  st : St (fun j => listed.getD j false) vals w

/-- operation i is up: what is done, what is not -/
structure UpE (ops : Array Oper) (i : Nat) (D : Nat → Bool) : Prop where
  self : D i = false
  done : ∀ j, depB ops i j = true → D j = true
  not : ∀ j, j < ops.size → depB ops j i = true → D j = false

/-- each operation's step -/
def StepsE (P : Program) (ops : Array Oper) (a0 : Act) (qs : List (Option Value)) (St : (Nat → Bool) → (Nat → Value) → World → Prop) : Nat → List Oper → Prop
  | _, [] => True
  | i, o :: l => (match qs.getD i none with
      | some x => ∀ D vals a w, UpE ops i D → AtC ops a0 qs i vals a → St D vals w → opGives P ops o a w fun v w' => v = x ∧ St D vals w'
      | none => ∀ D vals a w, UpE ops i D → AtC ops a0 qs i vals a → St D vals w → opGives P ops o a w fun v w' => St (fun j => if j = i then true else D j) (updV vals i v) w') ∧ StepsE P ops a0 qs St (i + 1) l

theorem stepsE_at {a0 : Act} {qs : List (Option Value)} {St : (Nat → Bool) → (Nat → Value) → World → Prop} : ∀ (l : List Oper) (i k : Nat) (o : Oper), StepsE P ops a0 qs St i l → l[k]? = some o →
    (∀ x, qs.getD (i + k) none = some x → ∀ D vals a w, UpE ops (i + k) D → AtC ops a0 qs (i + k) vals a → St D vals w → opGives P ops o a w fun v w' => v = x ∧ St D vals w') ∧
    (qs.getD (i + k) none = none → ∀ D vals a w, UpE ops (i + k) D → AtC ops a0 qs (i + k) vals a → St D vals w → opGives P ops o a w fun v w' => St (fun j => if j = i + k then true else D j) (updV vals (i + k) v) w')
  | [], _, k, o, _, hk => by simp at hk
  | o0 :: l, i, 0, o, h, hk => by
    obtain rfl : o0 = o := by simpa using hk
    have h1 := h.1
    rw [Nat.add_zero]
    cases hq : qs.getD i none with
    | some y => rw [hq] at h1; exact ⟨fun x hx => (by cases hx; exact h1), fun hx => (by cases hx)⟩
    | none => rw [hq] at h1; exact ⟨fun x hx => (by cases hx), fun _ => h1⟩
  | o0 :: l, i, k + 1, o, h, hk => by
    have := stepsE_at l (i + 1) k o h.2 (by simpa using hk)
    rw [show i + 1 + k = i + (k + 1) by omega] at this
    exact this

theorem goodE_put {a0 a : Act} {w w' : World} {qs : List (Option Value)} {ch : List Nat} {St : (Nat → Bool) → (Nat → Value) → World → Prop} {n : Nat} (hap : apartB ops n = true) (hn : n = a0.tmps.size) {listed : Array Bool} (hls : listed.size = ops.size) {vals vals' : Nat → Value}
    (g : GoodE ops a0 qs ch St listed a w vals) {i : Nat} {o : Oper} (ho : ops[i]? = some o) (hi : i ∈ Region.ready .any ops listed) {v : Value} (hv : vals' i = v) (hoth : ∀ j, j ≠ i → vals' j = vals j) (hq : ∀ j x, qs.getD j none = some x → vals' j = x) (hst : St (fun j => (listed.setIfInBounds i true).getD j false) vals' w') :
    GoodE ops a0 qs ch St (listed.setIfInBounds i true) (a.put o.dst v) w' vals' := by
  obtain ⟨hun, o', ho', hall⟩ := mem_ready.1 hi
  obtain rfl : o = o' := Option.some.inj (ho.symm.trans ho')
  have hil := (Array.getElem?_eq_some_iff.1 ho).1
  have hset : ∀ j, (listed.setIfInBounds i true).getD j false = true ↔ j = i ∨ listed.getD j false = true := by
    intro j
    by_cases hji : j = i
    · subst hji; simp [Array.getD_eq_getD_getElem?, hls, hil]
    · rw [getD_set_ne false (Ne.symm hji)]; simp [hji]
  refine ⟨?_, ?_, fun j oj hj hl e he hbd => ?_, fun s hs => ?_, fun j oj d hj hl hd => ?_, hq, hst⟩
  · rw [← g.defers]; cases o.dst <;> rfl
  · rw [← g.size]; cases o.dst <;> simp [Act.put]
  · rcases (hset j).1 hl with rfl | hl'
    · obtain rfl : o = oj := Option.some.inj (ho.symm.trans hj)
      exact (hset _).2 (.inr (hall e he hbd))
    · exact (hset _).2 (.inr (g.closed j oj hj hl' e he hbd))
  · rw [put_other s (hs i o ho ((hset i).2 (.inl rfl)))]
    exact g.old s fun j oj hj hl => hs j oj hj ((hset j).2 (.inr hl))
  · rcases (hset j).1 hl with rfl | hl'
    · obtain rfl : o = oj := Option.some.inj (ho.symm.trans hj)
      have hlt := apart_lt hap ho hd
      rw [hd, hv]
      simp [Act.put, g.size, ← hn, hlt]
    · have hji : j ≠ i := by
        rintro rfl
        have : listed.getD j false = false := by
          simpa [Array.getD_eq_getD_getElem?, hls, hil] using hun
        rw [this] at hl'; cases hl'
      rw [put_other d (apart_spec hap hj ho hd hji), hoth j hji]
      exact g.got j oj d hj hl' hd

theorem readyE_at {a0 a : Act} {w : World} {qs : List (Option Value)} {ch : List Nat} {St : (Nat → Bool) → (Nat → Value) → World → Prop} {listed : Array Bool} {vals : Nat → Value} (g : GoodE ops a0 qs ch St listed a w vals) {i : Nat} (hi : i ∈ Region.ready .any ops listed) : AtC ops a0 qs i vals a := by
  obtain ⟨hun, o, ho, hall⟩ := mem_ready.1 hi
  have hil := (Array.getElem?_eq_some_iff.1 ho).1
  have hunf : listed.getD i false = false := by
    by_cases h : i < listed.size
    · simpa [Array.getD_eq_getD_getElem?, h] using hun
    · simp [Array.getD_eq_getD_getElem?, h]
  have htmp : ∀ j d, gotB ops i j d = true → a.tmps[d]? = some (vals j) := fun j d hg => by
    unfold gotB at hg
    simp only [ho, Bool.and_eq_true, List.any_eq_true, beq_iff_eq] at hg
    obtain ⟨⟨e, he, hb, hon⟩, hd⟩ := hg
    have hl := hall e (by simpa using he) hb
    rw [hon] at hl
    obtain ⟨oj, hj, hdj⟩ := Option.bind_eq_some_iff.1 hd
    exact g.got j oj d hj hl hdj
  refine ⟨fun s hs => ?_, fun j d hg => ?_, htmp, g.quiet⟩
  · have := g.old s (fun j oj hj hl hd => by
      have hjl := (Array.getElem?_eq_some_iff.1 hj).1
      unfold oldB at hs
      rw [List.all_eq_true] at hs
      have h1 := hs j (by simpa using hjl)
      simp only [hj, hd, bne_self_eq_false, Bool.false_or, Bool.or_eq_true, beq_iff_eq, List.any_eq_true, Bool.and_eq_true] at h1
      rcases h1 with rfl | ⟨e, he, hb, hon⟩
      · rw [hunf] at hl; cases hl
      · have := g.closed j oj hj hl e (by simpa using he) hb
        rw [hon, hunf] at this; cases this)
    simp [Act.eval, Array.getD_eq_getD_getElem?, this]
  · simp [Act.eval, Array.getD_eq_getD_getElem?, htmp j d hg]

theorem goodE_all {a0 a : Act} {w : World} {qs : List (Option Value)} {ch : List Nat} {St : (Nat → Bool) → (Nat → Value) → World → Prop} {n : Nat} (hap : apartB ops n = true) (hn : n = a0.tmps.size) {listed : Array Bool} {vals : Nat → Value} (g : GoodE ops a0 qs ch St listed a w vals) (hall : ∀ i, i < ops.size → listed.getD i false = true) :
    a = putAll ops.toList vals 0 a0 := by
  have he : a.tmps = (putAll ops.toList vals 0 a0).tmps := by
    apply Array.ext_getElem?
    intro s
    by_cases hs : ∃ (j : Nat) (o : Oper), ops[j]? = some o ∧ o.dst = some s
    · obtain ⟨j, o, hj, hd⟩ := hs
      have hjl := (Array.getElem?_eq_some_iff.1 hj).1
      have hv := g.got j o s hj (hall j hjl) hd
      rw [putAll_at ops.toList _ 0 a0 s j o (by simpa using hj) hd (by rw [← hn]; exact apart_lt hap hj hd) (fun k' o' hk' hne => apart_spec hap hj (by simpa using hk') hd (Ne.symm hne))]
      rw [hv, Nat.zero_add]
    · rw [putAll_other _ _ _ _ _ (fun k (o : Oper) hk hd => hs ⟨k, o, by simpa using hk, hd⟩)]
      exact g.old s fun j (o : Oper) hj _ hd => hs ⟨j, o, hj, hd⟩
  have hd : a.defers = (putAll ops.toList vals 0 a0).defers := by rw [putAll_defers]; exact g.defers
  cases a
  simp only at he hd
  rw [Act.mk.injEq]
  exact ⟨he, hd⟩

theorem set_any_E {a0 : Act} {qs : List (Option Value)} {ch : List Nat} {St : (Nat → Bool) → (Nat → Value) → World → Prop} {n : Nat} (hap : apartB ops n = true) (hn : n = a0.tmps.size) (hbk : backB ops = true) (hch : ∀ j, j ∈ ch → qs.getD j none = none)
    (hind : ∀ D D' vals vals' w, (∀ j, j ∈ ch → D j = D' j ∧ vals j = vals' j) → St D vals w → St D' vals' w)
    (steps : StepsE P ops a0 qs St 0 ops.toList)
    (fin : ∀ D vals w, (∀ j x, qs.getD j none = some x → vals j = x) → (∀ j, j < ops.size → D j = true) → St D vals w → Q .normal (putAll ops.toList vals 0 a0) w) :
    ∀ (fuel : Nat) (listed : Array Bool) (a : Act) (w : World) (vals : Nat → Value), listed.size = ops.size → cnt ops.size (fun i => !listed.getD i true) = fuel → GoodE ops a0 qs ch St listed a w vals → wpAny P .any ops Q fuel listed a w := by
  have done : ∀ (listed : Array Bool) (a : Act) (w : World) (vals : Nat → Value), listed.size = ops.size → (∀ i, i < ops.size → listed.getD i true = true) → GoodE ops a0 qs ch St listed a w vals → Q .normal a w := by
    intro listed a w vals hls hall g
    have hall' : ∀ i, i < ops.size → listed.getD i false = true := fun i hi => by
      have := hall i hi
      simpa [Array.getD_eq_getD_getElem?, hls, hi] using this
    rw [goodE_all hap hn g hall']
    exact fin _ vals w g.quiet hall' g.st
  intro fuel
  induction fuel with
  | zero =>
    intro listed a w vals hls hc g
    have hall : ∀ i, i < ops.size → listed.getD i true = true := fun i hi => by
      have := cnt_zero _ _ hc i hi
      simpa using this
    refine ⟨?_, done listed a w vals hls hall g⟩
    apply List.eq_nil_iff_forall_not_mem.2
    intro i hi
    obtain ⟨hun, o, ho, _⟩ := mem_ready.1 hi
    have := hall i (Array.getElem?_eq_some_iff.1 ho).1
    rw [this] at hun; cases hun
  | succ fuel ih =>
    intro listed a w vals hls hc g
    refine ⟨fun h => done listed a w vals hls (fun i hi => ?_) g, fun i hi => ?_⟩
    · induction i using Nat.strongRecOn with
      | ind i ihi =>
        cases hl : listed.getD i true with
        | true => rfl
        | false =>
          exfalso
          have ho : ops[i]? = some ops[i] := Array.getElem?_eq_getElem hi
          have : i ∈ Region.ready .any ops listed := mem_ready.2 ⟨hl, _, ho, fun e he hb => by
            have hlt := back_spec hbk ho he hb
            have := ihi e.on hlt (by omega)
            simpa [Array.getD_eq_getD_getElem?, hls, show e.on < ops.size by omega] using this⟩
          rw [h] at this
          cases this
    · obtain ⟨hun, o, ho, hall⟩ := mem_ready.1 hi
      have hil := (Array.getElem?_eq_some_iff.1 ho).1
      have hat := readyE_at g hi
      have hs := stepsE_at ops.toList 0 i o steps (by simpa using ho)
      rw [Nat.zero_add] at hs
      have hcnt := cnt_less ops.size (fun i => !listed.getD i true) (fun j => !(listed.setIfInBounds i true).getD j true) i hil (by simp [hun]) (by simp [Array.getD_eq_getD_getElem?, hls, hil]) (fun j hj => by rw [getD_set_ne true (Ne.symm hj)])
      have hunf : listed.getD i false = false := by
        simpa [Array.getD_eq_getD_getElem?, hls, hil] using hun
      have hset : ∀ j, (listed.setIfInBounds i true).getD j false = if j = i then true else listed.getD j false := by
        intro j
        by_cases hji : j = i
        · subst hji; simp [Array.getD_eq_getD_getElem?, hls, hil]
        · rw [getD_set_ne false (Ne.symm hji)]; simp [hji]
      have hup : UpE ops i (fun j => listed.getD j false) := by
        refine ⟨hunf, fun j hd => ?_, fun j hjl hd => ?_⟩
        · unfold depB at hd
          rw [Bool.and_eq_true] at hd
          exact reach_listed g.closed hall ho i j (by simpa using hd.1) (by
            have := hd.2
            simp at this
            exact fun e => this e.symm)
        · cases hl : listed.getD j false with
          | false => rfl
          | true =>
            exfalso
            have hoj : ops[j]? = some ops[j] := Array.getElem?_eq_getElem hjl
            unfold depB at hd
            rw [Bool.and_eq_true] at hd
            have := reach_listed g.closed (fun e he hb => g.closed _ _ hoj hl e he hb) hoj _ i (by simpa using hd.1) (by
              have := hd.2
              simp at this
              exact fun e => this e.symm)
            rw [hunf] at this; cases this
      cases hq : qs.getD i none with
      | some x =>
        refine wpOp_mono (fun a' w' hh => ?_) (wpOp_of_gives ho (hs.1 x hq _ vals a w hup hat g.st))
        obtain ⟨v, rfl, rfl, hst⟩ := hh
        refine ih _ _ _ vals (by simpa using hls) (by omega) (goodE_put hap hn hls g ho hi (g.quiet i _ hq) (fun _ _ => rfl) g.quiet (hind _ _ _ _ _ (fun j hj => ⟨?_, rfl⟩) hst))
        have hji : j ≠ i := fun e => by have := hch j hj; rw [e, hq] at this; cases this
        rw [hset, if_neg hji]
      | none =>
        refine wpOp_mono (fun a' w' hh => ?_) (wpOp_of_gives ho (hs.2 hq _ vals a w hup hat g.st))
        obtain ⟨v, rfl, hst'⟩ := hh
        refine ih _ _ _ (updV vals i v) (by simpa using hls) (by omega) (goodE_put hap hn hls g ho hi (updV_same _ _ _) (fun j hj => updV_other _ _ hj) (fun j x hx => ?_) (hind _ _ _ _ _ (fun j hj => ⟨(hset j).symm, rfl⟩) hst'))
        rw [updV_other _ _ (fun e => by rw [e, hq] at hx; cases hx)]
        exact g.quiet j x hx

def loudB (qs : List (Option Value)) (ch : List Nat) : Bool := ch.all fun j => (qs.getD j none).isNone
/-- A REGION THAT DRAWS ITS ORDER, BY WHAT IS DONE -/
theorem wp_region_set {id : Nat} {l : List Oper} {a0 : Act} {w0 : World} (qs : List (Option Value)) (ch : List Nat) (St : (Nat → Bool) → (Nat → Value) → World → Prop) (n : Nat) (hm : P.follows .mixedOrders = true) (hap : apartB l.toArray n = true) (hbk : backB l.toArray = true) (hcb : loudB qs ch = true) (hn : n = a0.tmps.size)
    (h0 : ∀ vals, St (fun _ => false) vals w0.drew)
    (hind : ∀ D D' vals vals' w, (∀ j, j ∈ ch → D j = D' j ∧ vals j = vals' j) → St D vals w → St D' vals' w)
    (steps : StepsE P l.toArray a0 qs St 0 l)
    (fin : ∀ D vals w, (∀ j x, qs.getD j none = some x → vals j = x) → (∀ j, j < l.toArray.size → D j = true) → St D vals w → Q .normal (putAll l vals 0 a0) w) :
    (Code.region id l.toArray true).wp P Q a0 w0 := by
  refine wp_region_any hm ?_
  refine set_any_E (a0 := a0) (qs := qs) (ch := ch) (St := St) hap hn hbk (fun j hj => by have := List.all_eq_true.1 hcb j hj; simpa using this) hind (by simpa using steps) (by simpa using fin) _ _ _ _ (fun j => (qs.getD j none).getD undef) (by simp) ?_ ?_
  · have : ∀ k, k ≤ l.toArray.size → cnt k (fun i => !(Array.replicate l.toArray.size false).getD i true) = k := by
      intro k
      induction k with
      | zero => intro _; rfl
      | succ k ih =>
        intro hk
        have hk' : k < l.toArray.size := hk
        rw [cnt, ih (by omega), Array.getD_eq_getD_getElem?, Array.getElem?_replicate, if_pos hk']
        rfl
    exact this _ (Nat.le_refl _)
  · have hno : ∀ j, (Array.replicate l.toArray.size false).getD j false = false := fun j => by
      simp [Array.getD_eq_getD_getElem?, Array.getElem?_replicate]
      split <;> simp
    refine ⟨rfl, rfl, fun i o _ hl => ?_, fun _ _ => rfl, fun j o d _ hl => ?_, fun j x hx => by simp only [hx, Option.getD_some], hind _ _ _ _ _ (fun j _ => ⟨(hno j).symm, rfl⟩) (h0 _)⟩
    · rw [hno] at hl; cases hl
    · rw [hno] at hl; cases hl

end
end Go.Proofs.Ytoamdbjailpgdaa
/- Contracts: package node's Turn and isPlace, and the document's Turn. -/
namespace Go.Proofs.Ytoamdbjailpgdaa
set_option maxRecDepth 20000
open Go.RowKit Go.Shelf
set_option linter.unusedVariables false
set_option linter.unusedSimpArgs false
set_option maxRecDepth 100000
attribute [local go_sem] Oper.semAt_some

def placeB (i : Int) (m : Nat) : Bool := decide (0 ≤ i) && decide (i < (m : Int))
theorem place_nat {i : Int} {m : Nat} (h : placeB i m = true) : ∃ k : Nat, i = (k : Int) ∧ k < m := by
  simp only [placeB, Bool.and_eq_true, decide_eq_true_iff] at h
  exact ⟨i.toNat, by omega, by omega⟩
def kidsN (n : Nd) (i : Int) (kid : Int) : Nd := ⟨n.lf, n.ps, n.ks, n.cs.set i.toNat kid⟩
def turnN (n : Nd) (i kid : Int) : Nd := if innerB n then (if placeB i n.cs.length && kidB kid then kidsN n i kid else noNd) else noNd
def turnE (n : Nd) (i kid : Int) : Int := if innerB n then (if placeB i n.cs.length && kidB kid then 0 else 1) else 100

theorem isPlace_any (w : World) (i : Int) (m : Nat) : Calls Try.prog 76 #[.int .i64 i, .int .i64 (m : Int)] w fun e w' => e = .returned (.bool (placeB i m)) ∧ w' = w := by
  by_cases h1 : 0 ≤ i
  · by_cases h2 : i < (m : Int)
    · go_enter Try.func76, Try.ntmps76
      go_wp2
      go_ret
      exact ⟨ret_bool (by simp [placeB, h1, h2]), rfl⟩
    · go_enter Try.func76, Try.ntmps76
      go_wp2
      go_ret
      exact ⟨ret_bool (by simp [placeB, h1, h2]), rfl⟩
  · go_enter Try.func76, Try.ntmps76
    go_wp2
    go_ret
    exact ⟨ret_bool (by simp [placeB]; omega), rfl⟩

/-- another child in a node of one's own -/
theorem ndn_setKid {W : World} {base : Nat} {l : Bool} {p k : Value} {g nc cap : Nat} {n : Nd} (h : NdN W base (.agg #[.bool l, p, k, .slice (some ⟨g, 0, none⟩) nc cap]) n) (i : Nat) (hi : i < nc) (kid : Int) : NdN (W.setCell ⟨g, i, none⟩ (.int .i64 kid)) base (.agg #[.bool l, p, k, .slice (some ⟨g, 0, none⟩) nc cap]) ⟨n.lf, n.ps, n.ks, n.cs.set i kid⟩ := by
  obtain ⟨vp, vk, vc, xs, ys, sv, he, h1, h2, h3, h4, h5, h6⟩ := h
  simp only [ndv, Value.agg.injEq] at he
  have e1 : p = vp := by simpa using congrArg (fun a => a.getD 1 undef) he
  have e2 : k = vk := by simpa using congrArg (fun a => a.getD 2 undef) he
  have e3 : Value.slice (some ⟨g, 0, none⟩) nc cap = vc := by simpa using congrArg (fun a => a.getD 3 undef) he
  have e0 : l = n.lf := by simpa using congrArg (fun a => a.getD 0 undef) he
  subst e1 e2 e3 e0
  have ho : Only (· = g) W (W.setCell ⟨g, i, none⟩ (.int .i64 kid)) := (Only.refl (· = g) W).setCell ⟨g, i, none⟩ _ (fun _ => rfl)
  rcases h3.form with ⟨e, _⟩ | ⟨g', cap', sp, e, i1, i2, i3, i4, i5⟩
  · simp at e
  · simp only [Value.slice.injEq, Option.some.injEq, Addr.mk.injEq, and_true] at e
    obtain ⟨rfl, e2, rfl⟩ := e
    have hnrow : ∀ {e : TypeId} {size n : Nat} {v : Value} {zs : List Value}, W.ownsRow base e size v n zs → e ≠ 3 → ∀ j, v.ownBlock = some j → ¬ j = g := fun hr hn j hj e => by
      subst e
      exact row_not_blk hr i4 hn hj
    have hx : ∀ u zs, Sl W u zs → Held W base sv u → Sl (W.setCell ⟨g, i, none⟩ (.int .i64 kid)) u zs ∧ Held (W.setCell ⟨g, i, none⟩ (.int .i64 kid)) base sv u := fun u zs a b => by
      have hk : ∀ j, u.ownBlock = some j → ¬ j = g := fun j hj e => by
        obtain ⟨c1, ⟨cs, c2⟩, c3⟩ := b j hj
        subst e
        have := i4.symm.trans c2
        simp at this
      refine ⟨a.only ho hk, fun j hj => ?_⟩
      obtain ⟨c1, ⟨cs, c2⟩, c3⟩ := b j hj
      exact ⟨c1, ⟨cs, c2.only ho (hk j hj)⟩, c3⟩
    refine ⟨p, k, _, xs, ys, sv, rfl, ownsRow_only h1 ho (hnrow h1 (by decide)), ownsRow_only h2 ho (hnrow h2 (by decide)), ?_, h4, fun j hj => ⟨hx _ _ (h5 j hj).1.1 (h5 j hj).1.2, hx _ _ (h5 j hj).2.1 (h5 j hj).2.2⟩, fun j hj => hx _ _ (h6 j hj).1 (h6 j hj).2⟩
    have hs := i4.set i (.int .i64 kid)
    have he2 : (iv n.cs ++ sp).set i (.int .i64 kid) = iv (n.cs.set i kid) ++ sp := by
      rw [List.set_append_left _ _ (by simp [iv]; omega)]
      congr 1
      simp [iv, List.map_set]
    rw [he2] at hs
    have hl : (n.cs.set i kid).length = nc := by rw [List.length_set]; exact e2.symm
    have := Ints.mk (zs := n.cs.set i kid) (cap := cap) hs i1 (by rw [hl, e2]; exact i2) i3 (by rw [hl, e2]; exact i5)
    rw [hl] at this
    exact this
/-- the children's row of a node of one's own -/
theorem ndn_kidsRow {W : World} {base : Nat} {l : Bool} {p k : Value} {a : Option Addr} {nc cap : Nat} {n : Nd} (h : NdN W base (.agg #[.bool l, p, k, .slice a nc cap]) n) (i : Nat) (hi : i < n.cs.length) : ∃ g x, a = some ⟨g, 0, none⟩ ∧ nc = n.cs.length ∧ base ≤ g ∧ W.cell? ⟨g, i, none⟩ = some (.int .i64 x) ∧ W.frozen? ⟨g, i, none⟩ = false ∧ ∃ cs, Blk W g 3 cs := by
  obtain ⟨vp, vk, vc, xs, ys, sv, he, h1, h2, h3, h4, h5, h6⟩ := h
  simp only [ndv, Value.agg.injEq] at he
  have e3 : Value.slice a nc cap = vc := by simpa using congrArg (fun a => a.getD 3 undef) he
  subst e3
  rcases h3.form with ⟨e, e2⟩ | ⟨g', cap', sp, e, i1, i2, i3, i4, i5⟩
  · rw [e2] at hi; simp at hi
  · simp only [Value.slice.injEq] at e
    obtain ⟨rfl, rfl, rfl⟩ := e
    refine ⟨g', n.cs[i], rfl, rfl, i1, ?_, i4.frozen i, ⟨_, i4⟩⟩
    rw [i4.cell i, List.getElem?_append_left (by simp [iv]; exact hi)]
    simp [iv, hi]

set_option maxHeartbeats 2000000 in
theorem turn_any (w : World) (v : Value) (n : Nd) (h : NdV w v n) (i kid : Int) :
    Calls Try.prog 35 #[v, .int .i64 i, .int .i64 kid] w (GivesN w (turnN n i kid) (turnE n i kid)) := by
  have HM : Hid (∀ w1, Below w.heap.size w w1 → Calls Try.prog 68 #[v] w1 fun e w' => e = .returned (.bool (innerB n)) ∧ Below w1.heap.size w1 w') := fun w1 hb => isInner_any w1 v n (h.below hb)
  have HNN : Hid (turnN n i kid = if innerB n then (if placeB i n.cs.length && kidB kid then kidsN n i kid else noNd) else noNd) := rfl
  have HEE : Hid (turnE n i kid = if innerB n then (if placeB i n.cs.length && kidB kid then 0 else 1) else 100) := rfl
  have HCL : Hid (innerB n = true → ∀ w1, Below w.heap.size w w1 → Calls Try.prog 11 #[v] w1 fun e w' => ∃ u, e = .returned u ∧ NdN w' w1.heap.size u n ∧ Below w1.heap.size w1 w') := fun hm w1 hb => ndClone_any w1 v n (h.below hb) (may_few (by rw [mayN, hm, Bool.or_true]))
  have HKN : Hid (kidsN n i kid = ⟨n.lf, n.ps, n.ks, n.cs.set i.toNat kid⟩) := rfl
  have hza : ∀ wx : World, (zeroValue 26).run Try.prog wx = .ok (.agg #[.bool false, .slice none 0 0, .slice none 0 0, .slice none 0 0]) wx := fun wx => by kernel_rfl
  have HIN : Hid (innerB n = true → 1 ≤ n.ks.length ∧ n.ks.length ≤ 255 ∧ n.cs.length = n.ks.length + 1) := fun h => by have := innerB_ps h; omega
  have HLN : Hid (leafB n = true → n.ps.length ≤ 255) := fun h => (leafB_ps h).1
  have HLF : Hid (innerB n = true → n.lf = false) := innerB_lf
  have HLL : Hid (leafB n = true → n.lf = true) := leafB_lf
  have HMI : Hid (n.lf = false → mayN n = innerB n) := mayN_in
  have HML : Hid (n.lf = true → mayN n = leafB n) := mayN_lf
  have HMO : Hid (mayN n = (leafB n || innerB n)) := rfl
  obtain ⟨pa, pc, ka, kc, ca, cc, xs, ys, rfl, hp1, hk1, hc1, hp2, hk2, hc2, hP, hK, hC⟩ := h.open
  have HP := hide hP
  have HK := hide hK
  have HC := hide hC
  unfold ndv at HM HCL ⊢
  obtain ⟨lf, hlf⟩ : ∃ b, n.lf = b := ⟨_, rfl⟩
  obtain ⟨np, hnp⟩ : ∃ m, n.ps.length = m := ⟨_, rfl⟩
  obtain ⟨nk, hnk⟩ : ∃ m, n.ks.length = m := ⟨_, rfl⟩
  obtain ⟨nc, hnc⟩ : ∃ m, n.cs.length = m := ⟨_, rfl⟩
  have HNP := hide hnp
  have HNK := hide hnk
  have HNC := hide hnc
  have HF0 := hide hlf
  rw [hnp, hnk, hnc, hlf] at HM HCL
  rw [hnp] at HLN HP hp1
  rw [hnk, hnc] at HIN
  rw [hnk] at HK hk1
  rw [hnc] at HC hc1
  rw [hlf] at HLF HLL HMI HML
  rw [hnp, hnk, hnc, hlf]
  obtain ⟨w1, hw1, hcg⟩ := cg_new w (.bool lf) (.slice pa np pc) (.slice ka nk kc) (.slice ca nc cc)
  have HG1 := hide hcg
  obtain ⟨⟨z0, z1, z2, z3⟩, _⟩ := node_cells hcg.2.1
  clear h hP hK hC hcg hnp hnk hnc hlf
  cases hib : innerB n with
  | false =>
    rw [hib] at HNN HEE HM
    simp only [Bool.false_eq_true, if_false] at HNN HEE
    rw [HNN.out, HEE.out]
    clear HNN HEE
    go_enter Try.func35, Try.ntmps35
    go_wp2_with (first
      | (go_at_call 68; refine (HM.out w1 HG1.out.1).mono ?_; rintro e w2 ⟨rfl, hb2⟩; have HG2 := hide (HG1.out.grow hb2); (try clear z0 z1 z2 z3); (try clear d0 d1 d2 d3 k0 k1 k2 k3); obtain ⟨⟨z0, z1, z2, z3⟩, _⟩ := node_cells HG2.out.2.1; obtain ⟨⟨d0, d1, d2, d3⟩, k0, k1, k2, k3⟩ := node_cells HG2.out.2.2; clear HM hb2))
    (try simp only [Exit.inBlock, Exit.then])
    refine bodyPost_ret (ret_node1 rfl _ _ (w.heap.size + 1) _ _ _ _ _ rfl rfl (laidN_blk HG2.out.2.2 _ _ _ _)) rfl ?_
    exact cg_no HG2.out _ _ _ _ _ rfl
  | true =>
    have hlf : lf = false := HLF.out hib
    rw [hib] at HNN HEE HM
    simp only [if_true] at HNN HEE
    subst hlf
    have HCL1 := hide (HCL.out hib)
    rw [HNC.out] at HNN HEE
    clear HCL
    cases hPB : placeB i nc with
    | true =>
      obtain ⟨K, rfl, hKm⟩ := place_nat hPB
      have hKi : (K : Int) < (nc : Int) := by omega
      cases hKB : kidB kid with
      | true =>
        rw [hPB, hKB] at HNN HEE
        simp only [Bool.and_self, if_true] at HNN HEE
        rw [HNN.out, HEE.out]
        clear HNN HEE
        go_enter Try.func35, Try.ntmps35
        go_wp2_with (first
          | (go_at_call 68; refine (HM.out w1 HG1.out.1).mono ?_; rintro e w2 ⟨rfl, hb2⟩; have HG2 := hide (HG1.out.grow hb2); (try clear z0 z1 z2 z3); (try clear d0 d1 d2 d3 k0 k1 k2 k3); obtain ⟨⟨z0, z1, z2, z3⟩, _⟩ := node_cells HG2.out.2.1; obtain ⟨⟨d0, d1, d2, d3⟩, k0, k1, k2, k3⟩ := node_cells HG2.out.2.2; clear HM hb2)
          | (go_at_call 76; refine (isPlace_any w2 _ _).mono ?_; rintro e w3 ⟨rfl, hw⟩; subst w3; rw [hPB])
          | (go_at_call 77; refine (isChild_any w2 _).mono ?_; rintro e w3 ⟨rfl, hw⟩; subst w3; rw [hKB])
          | (go_at_call 11; refine (HCL1.out w2 HG2.out.1).mono ?_; rintro e w4 ⟨u4, rfl, hn4, hb4⟩; obtain ⟨p4, np4, pc4, k4, nk4, kc4, q4, nq4, qc4, rfl⟩ := hn4.form; obtain ⟨g4, x4, rfl, hq4, hg4, cc4, ff4, ct4, hct4⟩ := ndn_kidsRow hn4 K (by rw [HNC.out]; exact hKm); rw [HNC.out] at hq4; subst nq4; have HG4 := hide (HG2.out.grow hb4); obtain ⟨w5, hw5, HB5, HC5, s0, s1, s2, s3⟩ := nd_box w4 n.lf (.slice p4 np4 pc4) (.slice k4 nk4 kc4) (.slice (some ⟨g4, 0, none⟩) nc qc4); have HG5 := hide (HG4.out.grow HB5.out); have HN5 := hide (hn4.below HB5.out); have HT5 := hide (hct4.below HB5.out hct4.lt); have cg5 : w5.cell? ⟨g4, K, none⟩ = some (.int .i64 x4) := (HB5.out.cell (p := ⟨g4, K, none⟩) (World.block_lt_of_cell? w4 _ cc4)).trans cc4; have fg5 : w5.frozen? ⟨g4, K, none⟩ = false := HT5.out.frozen K; obtain ⟨w6, hw6⟩ : ∃ x, w5.setCell ⟨g4, K, none⟩ (.int .i64 kid) = x := ⟨_, rfl⟩; have ho6 : Only (· = g4) w5 w6 := (by rw [← hw6]; exact (Only.refl (· = g4) w5).setCell ⟨g4, K, none⟩ _ (fun _ => rfl)); have hg5 := HT5.out.lt; have hz2 := HG2.out.2.2.lt; have hz4 := hb4.size; have HN6 : Hid (NdN w6 w2.heap.size (.agg #[.bool n.lf, .slice p4 np4 pc4, .slice k4 nk4 kc4, .slice (some ⟨g4, 0, none⟩) nc qc4]) ⟨n.lf, n.ps, n.ks, n.cs.set K kid⟩) := (by rw [← hw6]; exact ndn_setKid HN5.out K hKm kid); have hC6 := HC5.out.only ho6 (fun e => by have := HC5.out.ne HT5.out (by decide); omega); have HG6 : Hid (CgB w [.bool false, .slice pa np pc, .slice ka nk kc, .slice ca nc cc] zeroC w6) := ⟨HG5.out.1.trans (ho6.below HG5.out.1.size (fun j hj e => by omega)), HG5.out.2.1.only ho6 (by omega), HG5.out.2.2.only ho6 (by omega)⟩; clear s0 s1 s2 s3; obtain ⟨s0, s1, s2, s3⟩ := box_ndc HC5.out; obtain ⟨r0, r1, r2, r3⟩ := box_ndc hC6; (try clear z0 z1 z2 z3); (try clear d0 d1 d2 d3 k0 k1 k2 k3); obtain ⟨⟨z0, z1, z2, z3⟩, _⟩ := node_cells HG6.out.2.1; obtain ⟨⟨d0, d1, d2, d3⟩, k0, k1, k2, k3⟩ := node_cells HG6.out.2.2; clear HCL1 hb4 hn4 cc4 ff4 hct4 hC6))
        (try simp only [Exit.inBlock, Exit.then])
        refine bodyPost_ret (ret_node1 rfl _ _ (w.heap.size + 1) _ _ _ _ _ rfl rfl (laidN_blk HG6.out.2.2 _ _ _ _)) rfl ?_
        rw [HKN.out, Int.toNat_natCast]
        exact cg_yes HG6.out _ (HN6.out.le (by omega))
      | false =>
        rw [hPB, hKB] at HNN HEE
        simp only [Bool.and_false, Bool.false_eq_true, if_false] at HNN HEE
        rw [HNN.out, HEE.out]
        clear HNN HEE
        go_enter Try.func35, Try.ntmps35
        go_wp2_with (first
          | (go_at_call 68; refine (HM.out w1 HG1.out.1).mono ?_; rintro e w2 ⟨rfl, hb2⟩; have HG2 := hide (HG1.out.grow hb2); (try clear z0 z1 z2 z3); (try clear d0 d1 d2 d3 k0 k1 k2 k3); obtain ⟨⟨z0, z1, z2, z3⟩, _⟩ := node_cells HG2.out.2.1; obtain ⟨⟨d0, d1, d2, d3⟩, k0, k1, k2, k3⟩ := node_cells HG2.out.2.2; clear HM hb2)
          | (go_at_call 76; refine (isPlace_any w2 _ _).mono ?_; rintro e w3 ⟨rfl, hw⟩; subst w3; rw [hPB])
          | (go_at_call 77; refine (isChild_any w2 _).mono ?_; rintro e w3 ⟨rfl, hw⟩; subst w3; rw [hKB]))
        (try simp only [Exit.inBlock, Exit.then])
        refine bodyPost_ret (ret_node1 rfl _ _ (w.heap.size + 1) _ _ _ _ _ rfl rfl (laidN_blk HG2.out.2.2 _ _ _ _)) rfl ?_
        exact cg_no HG2.out _ _ _ _ _ rfl
    | false =>
      rw [hPB] at HNN HEE
      simp only [Bool.false_and, Bool.false_eq_true, if_false] at HNN HEE
      rw [HNN.out, HEE.out]
      clear HNN HEE
      go_enter Try.func35, Try.ntmps35
      go_wp2_with (first
        | (go_at_call 68; refine (HM.out w1 HG1.out.1).mono ?_; rintro e w2 ⟨rfl, hb2⟩; have HG2 := hide (HG1.out.grow hb2); (try clear z0 z1 z2 z3); (try clear d0 d1 d2 d3 k0 k1 k2 k3); obtain ⟨⟨z0, z1, z2, z3⟩, _⟩ := node_cells HG2.out.2.1; obtain ⟨⟨d0, d1, d2, d3⟩, k0, k1, k2, k3⟩ := node_cells HG2.out.2.2; clear HM hb2)
        | (go_at_call 76; refine (isPlace_any w2 _ _).mono ?_; rintro e w3 ⟨rfl, hw⟩; subst w3; rw [hPB]))
      (try simp only [Exit.inBlock, Exit.then])
      refine bodyPost_ret (ret_node1 rfl _ _ (w.heap.size + 1) _ _ _ _ _ rfl rfl (laidN_blk HG2.out.2.2 _ _ _ _)) rfl ?_
      exact cg_no HG2.out _ _ _ _ _ rfl

set_option maxHeartbeats 2000000 in
theorem refTurn_any (w : World) (v : Value) (n : Nd) (h : NdV w v n) (i kid : Int) (hq : n.ks.length + n.cs.length ≤ 9223372036854775807) :
    Calls Try.prog 36 #[v, .int .i64 i, .int .i64 kid] w (GivesN w (turnN n i kid) (turnE n i kid)) := by
  have HM : Hid (∀ w1, Below w.heap.size w w1 → Calls Try.prog 25 #[v] w1 fun e w' => e = .returned (.bool (mayN n)) ∧ Below w1.heap.size w1 w') := fun w1 hb => refMay_any w1 v n (h.below hb) hq
  have HNN : Hid (turnN n i kid = if innerB n then (if placeB i n.cs.length && kidB kid then kidsN n i kid else noNd) else noNd) := rfl
  have HEE : Hid (turnE n i kid = if innerB n then (if placeB i n.cs.length && kidB kid then 0 else 1) else 100) := rfl
  have HCL : Hid (innerB n = true → ∀ w1, Below w.heap.size w w1 → Calls Try.prog 10 #[v] w1 fun e w' => ∃ u, e = .returned u ∧ NdN w' w1.heap.size u n ∧ Below w1.heap.size w1 w') := fun hm w1 hb => refClone_any w1 v n (h.below hb) (may_few (by rw [mayN, hm, Bool.or_true]))
  have HKN : Hid (kidsN n i kid = ⟨n.lf, n.ps, n.ks, n.cs.set i.toNat kid⟩) := rfl
  have hza : ∀ wx : World, (zeroValue 26).run Try.prog wx = .ok (.agg #[.bool false, .slice none 0 0, .slice none 0 0, .slice none 0 0]) wx := fun wx => by kernel_rfl
  have HIN : Hid (innerB n = true → 1 ≤ n.ks.length ∧ n.ks.length ≤ 255 ∧ n.cs.length = n.ks.length + 1) := fun h => by have := innerB_ps h; omega
  have HLN : Hid (leafB n = true → n.ps.length ≤ 255) := fun h => (leafB_ps h).1
  have HLF : Hid (innerB n = true → n.lf = false) := innerB_lf
  have HLL : Hid (leafB n = true → n.lf = true) := leafB_lf
  have HMI : Hid (n.lf = false → mayN n = innerB n) := mayN_in
  have HML : Hid (n.lf = true → mayN n = leafB n) := mayN_lf
  have HMO : Hid (mayN n = (leafB n || innerB n)) := rfl
  obtain ⟨pa, pc, ka, kc, ca, cc, xs, ys, rfl, hp1, hk1, hc1, hp2, hk2, hc2, hP, hK, hC⟩ := h.open
  have HP := hide hP
  have HK := hide hK
  have HC := hide hC
  unfold ndv at HM HCL ⊢
  obtain ⟨lf, hlf⟩ : ∃ b, n.lf = b := ⟨_, rfl⟩
  obtain ⟨np, hnp⟩ : ∃ m, n.ps.length = m := ⟨_, rfl⟩
  obtain ⟨nk, hnk⟩ : ∃ m, n.ks.length = m := ⟨_, rfl⟩
  obtain ⟨nc, hnc⟩ : ∃ m, n.cs.length = m := ⟨_, rfl⟩
  have HNP := hide hnp
  have HNK := hide hnk
  have HNC := hide hnc
  have HF0 := hide hlf
  rw [hnp, hnk, hnc, hlf] at HM HCL
  rw [hnp] at HLN HP hp1
  rw [hnk, hnc] at HIN
  rw [hnk] at HK hk1
  rw [hnc] at HC hc1
  rw [hlf] at HLF HLL HMI HML
  rw [hnp, hnk, hnc, hlf]
  obtain ⟨w1, hw1, hcg⟩ := cg_new w (.bool lf) (.slice pa np pc) (.slice ka nk kc) (.slice ca nc cc)
  have HG1 := hide hcg
  obtain ⟨⟨z0, z1, z2, z3⟩, _⟩ := node_cells hcg.2.1
  clear h hP hK hC hcg hnp hnk hnc hlf
  cases hm : mayN n with
  | false =>
    have hib : innerB n = false := by
      have := HMO.out
      rw [hm] at this
      revert this
      cases leafB n <;> cases innerB n <;> simp
    rw [hib] at HNN HEE
    rw [hm] at HM
    simp only [Bool.false_eq_true, if_false] at HNN HEE
    rw [HNN.out, HEE.out]
    clear HNN HEE
    go_enter Try.func36, Try.ntmps36
    go_wp2_with (first
      | (go_at_call 25; refine (HM.out w1 HG1.out.1).mono ?_; rintro e w2 ⟨rfl, hb2⟩; have HG2 := hide (HG1.out.grow hb2); (try clear z0 z1 z2 z3); (try clear d0 d1 d2 d3 k0 k1 k2 k3); obtain ⟨⟨z0, z1, z2, z3⟩, _⟩ := node_cells HG2.out.2.1; obtain ⟨⟨d0, d1, d2, d3⟩, k0, k1, k2, k3⟩ := node_cells HG2.out.2.2; clear HM hb2))
    (try simp only [Exit.inBlock, Exit.then])
    refine bodyPost_ret (ret_node1 rfl _ _ (w.heap.size + 1) _ _ _ _ _ rfl rfl (laidN_blk HG2.out.2.2 _ _ _ _)) rfl ?_
    exact cg_no HG2.out _ _ _ _ _ rfl
  | true =>
    cases lf with
    | true =>
      have hib : innerB n = false := by
        cases hq9 : innerB n with
        | false => rfl
        | true => have := HLF.out hq9; cases this
      rw [hib] at HNN HEE
      rw [hm] at HM
      simp only [Bool.false_eq_true, if_false] at HNN HEE
      rw [HNN.out, HEE.out]
      clear HNN HEE
      go_enter Try.func36, Try.ntmps36
      go_wp2_with (first
        | (go_at_call 25; refine (HM.out w1 HG1.out.1).mono ?_; rintro e w2 ⟨rfl, hb2⟩; have HG2 := hide (HG1.out.grow hb2); (try clear z0 z1 z2 z3); (try clear d0 d1 d2 d3 k0 k1 k2 k3); obtain ⟨⟨z0, z1, z2, z3⟩, _⟩ := node_cells HG2.out.2.1; obtain ⟨⟨d0, d1, d2, d3⟩, k0, k1, k2, k3⟩ := node_cells HG2.out.2.2; clear HM hb2))
      (try simp only [Exit.inBlock, Exit.then])
      refine bodyPost_ret (ret_node1 rfl _ _ (w.heap.size + 1) _ _ _ _ _ rfl rfl (laidN_blk HG2.out.2.2 _ _ _ _)) rfl ?_
      exact cg_no HG2.out _ _ _ _ _ rfl
    | false =>
      have hib : innerB n = true := by rw [← HMI.out rfl]; exact hm
      rw [hib] at HNN HEE
      rw [hm] at HM
      simp only [if_true] at HNN HEE
      have HCL1 := hide (HCL.out hib)
      rw [HNC.out] at HNN HEE
      clear HCL
      cases hPB : placeB i nc with
      | true =>
        obtain ⟨K, rfl, hKm⟩ := place_nat hPB
        have hKi : (K : Int) < (nc : Int) := by omega
        cases hKB : kidB kid with
        | true =>
          rw [hPB, hKB] at HNN HEE
          simp only [Bool.and_self, if_true] at HNN HEE
          rw [HNN.out, HEE.out]
          clear HNN HEE
          go_enter Try.func36, Try.ntmps36
          go_wp2_with (first
            | (go_at_call 25; refine (HM.out w1 HG1.out.1).mono ?_; rintro e w2 ⟨rfl, hb2⟩; have HG2 := hide (HG1.out.grow hb2); (try clear z0 z1 z2 z3); (try clear d0 d1 d2 d3 k0 k1 k2 k3); obtain ⟨⟨z0, z1, z2, z3⟩, _⟩ := node_cells HG2.out.2.1; obtain ⟨⟨d0, d1, d2, d3⟩, k0, k1, k2, k3⟩ := node_cells HG2.out.2.2; clear HM hb2)
            | (go_at_call 67; refine (refChild_any w2 _).mono ?_; rintro e w3 ⟨rfl, hw⟩; subst w3; rw [hKB])
            | (go_at_call 10; refine (HCL1.out w2 HG2.out.1).mono ?_; rintro e w4 ⟨u4, rfl, hn4, hb4⟩; obtain ⟨p4, np4, pc4, k4, nk4, kc4, q4, nq4, qc4, rfl⟩ := hn4.form; obtain ⟨g4, x4, rfl, hq4, hg4, cc4, ff4, ct4, hct4⟩ := ndn_kidsRow hn4 K (by rw [HNC.out]; exact hKm); rw [HNC.out] at hq4; subst nq4; have HG4 := hide (HG2.out.grow hb4); obtain ⟨w5, hw5, HB5, HC5, s0, s1, s2, s3⟩ := nd_box w4 n.lf (.slice p4 np4 pc4) (.slice k4 nk4 kc4) (.slice (some ⟨g4, 0, none⟩) nc qc4); have HG5 := hide (HG4.out.grow HB5.out); have HN5 := hide (hn4.below HB5.out); have HT5 := hide (hct4.below HB5.out hct4.lt); have cg5 : w5.cell? ⟨g4, K, none⟩ = some (.int .i64 x4) := (HB5.out.cell (p := ⟨g4, K, none⟩) (World.block_lt_of_cell? w4 _ cc4)).trans cc4; have fg5 : w5.frozen? ⟨g4, K, none⟩ = false := HT5.out.frozen K; obtain ⟨w6, hw6⟩ : ∃ x, w5.setCell ⟨g4, K, none⟩ (.int .i64 kid) = x := ⟨_, rfl⟩; have ho6 : Only (· = g4) w5 w6 := (by rw [← hw6]; exact (Only.refl (· = g4) w5).setCell ⟨g4, K, none⟩ _ (fun _ => rfl)); have hg5 := HT5.out.lt; have hz2 := HG2.out.2.2.lt; have hz4 := hb4.size; have HN6 : Hid (NdN w6 w2.heap.size (.agg #[.bool n.lf, .slice p4 np4 pc4, .slice k4 nk4 kc4, .slice (some ⟨g4, 0, none⟩) nc qc4]) ⟨n.lf, n.ps, n.ks, n.cs.set K kid⟩) := (by rw [← hw6]; exact ndn_setKid HN5.out K hKm kid); have hC6 := HC5.out.only ho6 (fun e => by have := HC5.out.ne HT5.out (by decide); omega); have HG6 : Hid (CgB w [.bool false, .slice pa np pc, .slice ka nk kc, .slice ca nc cc] zeroC w6) := ⟨HG5.out.1.trans (ho6.below HG5.out.1.size (fun j hj e => by omega)), HG5.out.2.1.only ho6 (by omega), HG5.out.2.2.only ho6 (by omega)⟩; clear s0 s1 s2 s3; obtain ⟨s0, s1, s2, s3⟩ := box_ndc HC5.out; obtain ⟨r0, r1, r2, r3⟩ := box_ndc hC6; (try clear z0 z1 z2 z3); (try clear d0 d1 d2 d3 k0 k1 k2 k3); obtain ⟨⟨z0, z1, z2, z3⟩, _⟩ := node_cells HG6.out.2.1; obtain ⟨⟨d0, d1, d2, d3⟩, k0, k1, k2, k3⟩ := node_cells HG6.out.2.2; clear HCL1 hb4 hn4 cc4 ff4 hct4 hC6))
          (try simp only [Exit.inBlock, Exit.then])
          refine bodyPost_ret (ret_node1 rfl _ _ (w.heap.size + 1) _ _ _ _ _ rfl rfl (laidN_blk HG6.out.2.2 _ _ _ _)) rfl ?_
          rw [HKN.out, Int.toNat_natCast]
          exact cg_yes HG6.out _ (HN6.out.le (by omega))
        | false =>
          rw [hPB, hKB] at HNN HEE
          simp only [Bool.and_false, Bool.false_eq_true, if_false] at HNN HEE
          rw [HNN.out, HEE.out]
          clear HNN HEE
          go_enter Try.func36, Try.ntmps36
          go_wp2_with (first
            | (go_at_call 25; refine (HM.out w1 HG1.out.1).mono ?_; rintro e w2 ⟨rfl, hb2⟩; have HG2 := hide (HG1.out.grow hb2); (try clear z0 z1 z2 z3); (try clear d0 d1 d2 d3 k0 k1 k2 k3); obtain ⟨⟨z0, z1, z2, z3⟩, _⟩ := node_cells HG2.out.2.1; obtain ⟨⟨d0, d1, d2, d3⟩, k0, k1, k2, k3⟩ := node_cells HG2.out.2.2; clear HM hb2)
            | (go_at_call 67; refine (refChild_any w2 _).mono ?_; rintro e w3 ⟨rfl, hw⟩; subst w3; rw [hKB]))
          (try simp only [Exit.inBlock, Exit.then])
          refine bodyPost_ret (ret_node1 rfl _ _ (w.heap.size + 1) _ _ _ _ _ rfl rfl (laidN_blk HG2.out.2.2 _ _ _ _)) rfl ?_
          exact cg_no HG2.out _ _ _ _ _ rfl
      | false =>
        rw [hPB] at HNN HEE
        simp only [Bool.false_and, Bool.false_eq_true, if_false] at HNN HEE
        rw [HNN.out, HEE.out]
        clear HNN HEE
        by_cases hi0 : i < 0
        · have hi0' := hi0
          go_enter Try.func36, Try.ntmps36
          go_wp2_with (first
            | (go_at_call 25; refine (HM.out w1 HG1.out.1).mono ?_; rintro e w2 ⟨rfl, hb2⟩; have HG2 := hide (HG1.out.grow hb2); (try clear z0 z1 z2 z3); (try clear d0 d1 d2 d3 k0 k1 k2 k3); obtain ⟨⟨z0, z1, z2, z3⟩, _⟩ := node_cells HG2.out.2.1; obtain ⟨⟨d0, d1, d2, d3⟩, k0, k1, k2, k3⟩ := node_cells HG2.out.2.2; clear HM hb2))
          (try simp only [Exit.inBlock, Exit.then])
          refine bodyPost_ret (ret_node1 rfl _ _ (w.heap.size + 1) _ _ _ _ _ rfl rfl (laidN_blk HG2.out.2.2 _ _ _ _)) rfl ?_
          exact cg_no HG2.out _ _ _ _ _ rfl
        · have hi1 : (nc : Int) ≤ i := by
            simp only [placeB, Bool.and_eq_false_iff, decide_eq_false_iff_not] at hPB
            omega
          have hi2 : ¬ i < (nc : Int) := by omega
          go_enter Try.func36, Try.ntmps36
          go_wp2_with (first
            | (go_at_call 25; refine (HM.out w1 HG1.out.1).mono ?_; rintro e w2 ⟨rfl, hb2⟩; have HG2 := hide (HG1.out.grow hb2); (try clear z0 z1 z2 z3); (try clear d0 d1 d2 d3 k0 k1 k2 k3); obtain ⟨⟨z0, z1, z2, z3⟩, _⟩ := node_cells HG2.out.2.1; obtain ⟨⟨d0, d1, d2, d3⟩, k0, k1, k2, k3⟩ := node_cells HG2.out.2.2; clear HM hb2))
          (try simp only [Exit.inBlock, Exit.then])
          refine bodyPost_ret (ret_node1 rfl _ _ (w.heap.size + 1) _ _ _ _ _ rfl rfl (laidN_blk HG2.out.2.2 _ _ _ _)) rfl ?_
          exact cg_no HG2.out _ _ _ _ _ rfl

end Go.Proofs.Ytoamdbjailpgdaa
/- Contracts: package node's Grow and Shrink. -/
namespace Go.Proofs.Ytoamdbjailpgdaa
set_option maxRecDepth 20000
open Go.RowKit Go.Shelf
set_option linter.unusedVariables false
set_option linter.unusedSimpArgs false
set_option maxRecDepth 100000
attribute [local go_sem] Oper.semAt_some

/-- an inner node with a key and a child more, less -/
def gainN (n : Nd) (i : Nat) (key : List Int) (kid : Int) : Nd := ⟨false, [], n.ks.take i ++ ([key] ++ n.ks.drop i), n.cs.take (i + 1) ++ ([kid] ++ n.cs.drop (i + 1))⟩
def lessN (n : Nd) (i : Nat) : Nd := ⟨false, [], n.ks.take i ++ n.ks.drop (i + 1), n.cs.take (i + 1) ++ n.cs.drop (i + 2)⟩
def growN (n : Nd) (i : Int) (key : List Int) (kid : Int) : Nd := if innerB n then (if placeB i n.cs.length && kidB kid && keyB key then ownN (gainN n i.toNat key kid) else noNd) else noNd
def growE (n : Nd) (i : Int) (key : List Int) (kid : Int) : Int := if innerB n then (if placeB i n.cs.length && kidB kid && keyB key then ownE (gainN n i.toNat key kid) else 1) else 100
def shrinkN (n : Nd) (i : Int) : Nd := if innerB n then (if placeB i n.ks.length then ownN (lessN n i.toNat) else noNd) else noNd
def shrinkE (n : Nd) (i : Int) : Int := if innerB n then (if placeB i n.ks.length then ownE (lessN n i.toNat) else 1) else 100

theorem Bss.low {W : World} {pa : Option Addr} {np pc : Nat} {xs : List Value} {ps : List (List Int)} (h : Bss W (.slice pa np pc) xs ps) (hn : ps.length = np) (l : Nat) (hl : l ≤ np) : ∃ a' c', (∀ wx, (Instr.slice 23 (.slice pa np pc) (some (.int .i64 (l : Int))) none none).run Try.prog wx = .ok (.slice a' (np - l) c') wx) ∧ (∀ W', Bss W' (.slice pa np pc) xs ps → Bss W' (.slice a' (np - l) c') (xs.drop l) (ps.drop l)) := by
  subst hn
  obtain ⟨ao, cap, he, hc1, hc2⟩ := h.shape
  simp only [Value.slice.injEq, true_and] at he
  obtain ⟨rfl, rfl⟩ := he
  by_cases hlc : l < pc
  · exact ⟨_, _, fun wx => cut_low (P := Try.prog) 23 34 1 Try.underlying23 sizeRowE pa ps.length pc l hl hc1 hlc (by unfold maxLen; omega) wx, fun W' h' => h'.drop l hl⟩
  · obtain rfl : l = ps.length := by omega
    obtain rfl : pc = ps.length := by omega
    refine ⟨pa, 0, fun wx => by rw [Nat.sub_self]; exact cut_end (P := Try.prog) 23 34 1 Try.underlying23 sizeRowE pa ps.length (by unfold maxLen; omega) wx, fun W' h' => ?_⟩
    rw [Nat.sub_self, List.drop_eq_nil_of_le (Nat.le_refl _), List.drop_eq_nil_of_le (by rw [h'.1]; exact Nat.le_refl _)]
    exact ⟨rfl, pa, 0, rfl, Nat.le_refl _, by simp [maxLen], fun i hi => absurd hi (by simp), fun hne => absurd rfl hne⟩
theorem Is.low {W : World} {pa : Option Addr} {np pc : Nat} {ps : List Int} (h : Is W (.slice pa np pc) ps) (hn : ps.length = np) (l : Nat) (hl : l ≤ np) : ∃ a' c', (∀ wx, (Instr.slice 24 (.slice pa np pc) (some (.int .i64 (l : Int))) none none).run Try.prog wx = .ok (.slice a' (np - l) c') wx) ∧ (∀ W', Is W' (.slice pa np pc) ps → Is W' (.slice a' (np - l) c') (ps.drop l)) := by
  subst hn
  obtain ⟨ao, cap, he, hc1, hc2⟩ := h.shape
  simp only [Value.slice.injEq, true_and] at he
  obtain ⟨rfl, rfl⟩ := he
  by_cases hlc : l < pc
  · exact ⟨_, _, fun wx => cut_low (P := Try.prog) 24 3 1 Try.underlying24 sizeIntE pa ps.length pc l hl hc1 hlc (by unfold maxLen; omega) wx, fun W' h' => h'.drop l hl⟩
  · obtain rfl : l = ps.length := by omega
    obtain rfl : pc = ps.length := by omega
    refine ⟨pa, 0, fun wx => by rw [Nat.sub_self]; exact cut_end (P := Try.prog) 24 3 1 Try.underlying24 sizeIntE pa ps.length (by unfold maxLen; omega) wx, fun W' h' => ?_⟩
    rw [Nat.sub_self, List.drop_eq_nil_of_le (Nat.le_refl _)]
    exact ⟨pa, 0, rfl, Nat.le_refl _, by simp [maxLen], fun hne => absurd rfl hne⟩
def isLitI (B : Nat) (v1 : Value) (kid : Int) (v3 : Value) : Fct := fun v w => ∃ g g2, v = .slice (some ⟨g, 0, none⟩) 3 3 ∧ B ≤ g ∧ B ≤ g2 ∧ Blk w g 24 [v1, .slice (some ⟨g2, 0, none⟩) 1 1, v3] ∧ Blk w g2 3 [.int .i64 kid]
theorem st_isLitI {S : Nat → Prop} {B : Nat} {v1 v3 : Value} {kid : Int} (hS : ∀ j, S j → j < B) : ∀ v w w', Only S w w' → isLitI B v1 kid v3 v w → isLitI B v1 kid v3 v w' := fun v w w' ho ⟨g, g2, h1, h2, h3, h4, h5⟩ => ⟨g, g2, h1, h2, h3, h4.only ho (fun hs => by have := hS g hs; omega), h5.only ho (fun hs => by have := hS g2 hs; omega)⟩
theorem buildK2 (w : World) (a1 a2 : Option Addr) (n1 n2 c1 c2 : Nat) : (Instr.buildSlice 106 2 #[(0, .slice a1 n1 c1), (1, .slice a2 n2 c2)]).run Try.prog w = .ok (.slice (some ⟨w.heap.size, 0, none⟩) 2 2) (w.alloc (.cells #[.slice a1 n1 c1, .slice a2 n2 c2] 23)) := by kernel_rfl
theorem buildI3 (w : World) (a1 a2 a3 : Option Addr) (n1 n2 n3 c1 c2 c3 : Nat) : (Instr.buildSlice 108 3 #[(0, .slice a1 n1 c1), (1, .slice a2 n2 c2), (2, .slice a3 n3 c3)]).run Try.prog w = .ok (.slice (some ⟨w.heap.size, 0, none⟩) 3 3) (w.alloc (.cells #[.slice a1 n1 c1, .slice a2 n2 c2, .slice a3 n3 c3] 24)) := by kernel_rfl
theorem build_kid (w : World) (k : Int) : (Instr.buildSlice 24 1 #[(0, .int .i64 k)]).run Try.prog w = .ok (.slice (some ⟨w.heap.size, 0, none⟩) 1 1) (w.alloc (.cells #[.int .i64 k] 3)) := by kernel_rfl

set_option maxHeartbeats 1500000 in
theorem grow_any (w : World) (v : Value) (n : Nd) (h : NdV w v n) (i : Int) (kv : Value) (key : List Int) (hkv : Sl w kv key) (kid : Int) :
    Calls Try.prog 37 #[v, .int .i64 i, kv, .int .i64 kid] w (GivesN w (growN n i key kid) (growE n i key kid)) := by
  have HM : Hid (∀ w1, Below w.heap.size w w1 → Calls Try.prog 68 #[v] w1 fun e w' => e = .returned (.bool (innerB n)) ∧ Below w1.heap.size w1 w') := fun w1 hb => isInner_any w1 v n (h.below hb)
  have HNN : Hid (growN n i key kid = if innerB n then (if placeB i n.cs.length && kidB kid && keyB key then ownN (gainN n i.toNat key kid) else noNd) else noNd) := rfl
  have HEE : Hid (growE n i key kid = if innerB n then (if placeB i n.cs.length && kidB kid && keyB key then ownE (gainN n i.toNat key kid) else 1) else 100) := rfl
  have HKE : Hid (∀ w1, Below w.heap.size w w1 → Calls Try.prog 71 #[kv] w1 fun e w' => e = .returned (.bool (keyB key)) ∧ w' = w1) := fun w1 hb => isKey_any w1 kv key (hkv.below hb)
  have HKV := hide hkv
  have hza : ∀ wx : World, (zeroValue 26).run Try.prog wx = .ok (.agg #[.bool false, .slice none 0 0, .slice none 0 0, .slice none 0 0]) wx := fun wx => by kernel_rfl
  have HIN : Hid (innerB n = true → 1 ≤ n.ks.length ∧ n.ks.length ≤ 255 ∧ n.cs.length = n.ks.length + 1) := fun h => by have := innerB_ps h; omega
  have HLN : Hid (leafB n = true → n.ps.length ≤ 255) := fun h => (leafB_ps h).1
  have HLF : Hid (innerB n = true → n.lf = false) := innerB_lf
  have HLL : Hid (leafB n = true → n.lf = true) := leafB_lf
  have HMI : Hid (n.lf = false → mayN n = innerB n) := mayN_in
  have HML : Hid (n.lf = true → mayN n = leafB n) := mayN_lf
  have HMO : Hid (mayN n = (leafB n || innerB n)) := rfl
  obtain ⟨pa, pc, ka, kc, ca, cc, xs, ys, rfl, hp1, hk1, hc1, hp2, hk2, hc2, hP, hK, hC⟩ := h.open
  have HP := hide hP
  have HK := hide hK
  have HC := hide hC
  obtain ⟨q1, m1, dq, rfl⟩ := sl_form hkv
  unfold ndv at HM ⊢
  obtain ⟨lf, hlf⟩ : ∃ b, n.lf = b := ⟨_, rfl⟩
  obtain ⟨np, hnp⟩ : ∃ m, n.ps.length = m := ⟨_, rfl⟩
  obtain ⟨nk, hnk⟩ : ∃ m, n.ks.length = m := ⟨_, rfl⟩
  obtain ⟨nc, hnc⟩ : ∃ m, n.cs.length = m := ⟨_, rfl⟩
  have HNP := hide hnp
  have HNK := hide hnk
  have HNC := hide hnc
  have HF0 := hide hlf
  rw [hnp, hnk, hnc, hlf] at HM
  rw [hnp] at HLN HP hp1
  rw [hnk, hnc] at HIN
  rw [hnk] at HK hk1
  rw [hnc] at HC hc1
  rw [hlf] at HLF HLL HMI HML
  rw [hnp, hnk, hnc, hlf]
  obtain ⟨w1, hw1, hcg⟩ := cg_new w (.bool lf) (.slice pa np pc) (.slice ka nk kc) (.slice ca nc cc)
  have HG1 := hide hcg
  obtain ⟨⟨z0, z1, z2, z3⟩, _⟩ := node_cells hcg.2.1
  clear h hP hK hC hcg hnp hnk hnc hlf
  cases hib : innerB n with
  | false =>
    rw [hib] at HNN HEE HM
    simp only [Bool.false_eq_true, if_false] at HNN HEE
    rw [HNN.out, HEE.out]
    clear HNN HEE
    go_enter Try.func37, Try.ntmps37
    go_wp2_with (first
      | (go_at_call 68; refine (HM.out w1 HG1.out.1).mono ?_; rintro e w2 ⟨rfl, hb2⟩; have HG2 := hide (HG1.out.grow hb2); (try clear z0 z1 z2 z3); (try clear d0 d1 d2 d3 k0 k1 k2 k3); obtain ⟨⟨z0, z1, z2, z3⟩, _⟩ := node_cells HG2.out.2.1; obtain ⟨⟨d0, d1, d2, d3⟩, k0, k1, k2, k3⟩ := node_cells HG2.out.2.2; clear HM hb2))
    (try simp only [Exit.inBlock, Exit.then])
    refine bodyPost_ret (ret_node1 rfl _ _ (w.heap.size + 1) _ _ _ _ _ rfl rfl (laidN_blk HG2.out.2.2 _ _ _ _)) rfl ?_
    exact cg_no HG2.out _ _ _ _ _ rfl
  | true =>
    have hlf : lf = false := HLF.out hib
    rw [hib] at HNN HEE HM
    simp only [if_true] at HNN HEE
    subst hlf
    obtain ⟨hn1, hn2, hn3⟩ := HIN.out hib
    have hn4 : nc ≤ nk + 1 := by omega
    have hn5 : nk + 1 ≤ nc := by omega
    clear hn3
    rw [HNC.out] at HNN HEE
    cases hPB : placeB i nc with
    | true =>
      obtain ⟨K, rfl, hKm⟩ := place_nat hPB
      cases hKB : kidB kid with
      | true =>
        cases hEB : keyB key with
        | true =>
          rw [hPB, hKB, hEB] at HNN HEE
          simp only [Bool.and_self, if_true, Int.toNat_natCast] at HNN HEE
          rw [hEB] at HKE
          rw [HNN.out, HEE.out]
          clear HNN HEE
          have HCT := hide (fun wx => cut_head (P := Try.prog) 23 34 1 Try.underlying23 sizeRowE ka nk kc K (by omega) (by unfold maxLen; omega) wx)
          have HCI0 : Hid (∀ wx, (Instr.slice 24 (.slice ca nc cc) none (some (.int .i64 (K + 1 : Int))) none).run Try.prog wx = .ok (.slice ca (K + 1) cc) wx) := fun wx => by
            have := cut_head (P := Try.prog) 24 3 1 Try.underlying24 sizeIntE ca nc cc (K + 1) (by omega) (by unfold maxLen; omega) wx
            rwa [show ((K + 1 : Nat) : Int) = (K + 1 : Int) by omega] at this
          obtain ⟨ba, bc, hlo, hB⟩ := HK.out.low HNK.out (K) (by omega)
          obtain ⟨da, dc, hlo2, hB2⟩ := HC.out.low HNC.out (K + 1) (by omega)
          have HLO : Hid (∀ wx, (Instr.slice 23 (.slice ka nk kc) (some (.int .i64 (K : Int))) none none).run Try.prog wx = .ok (.slice ba (nk - (K)) bc) wx) := fun wx => by
            have := hlo wx
            exact this
          have HLI : Hid (∀ wx, (Instr.slice 24 (.slice ca nc cc) (some (.int .i64 (K + 1 : Int))) none none).run Try.prog wx = .ok (.slice da (nc - (K + 1)) dc) wx) := fun wx => by
            have := hlo2 wx
            rwa [show ((K + 1 : Nat) : Int) = (K + 1 : Int) by omega] at this
          obtain ⟨bn, hbn⟩ : ∃ m, nk - (K) = m := ⟨_, rfl⟩
          obtain ⟨dn, hdn⟩ : ∃ m, nc - (K + 1) = m := ⟨_, rfl⟩
          rw [hbn] at HLO hB
          rw [hdn] at HLI hB2
          have HT1 : Hid (∀ W, Below w.heap.size w W → Bss W (.slice ka K kc) (ys.take K) (n.ks.take K)) := fun W hb => by
            have := HK.out.below hb
            rw [← HNK.out] at this
            exact this.take K kc (by rw [HNK.out]; omega) (by omega) (by unfold maxLen; omega)
          have HD1 : Hid (∀ W, Below w.heap.size w W → Bss W (.slice ba bn bc) (ys.drop (K)) (n.ks.drop (K))) := fun W hb => hB W (HK.out.below hb)
          have HT2 : Hid (∀ W, Below w.heap.size w W → Is W (.slice ca (K + 1) cc) (n.cs.take (K + 1))) := fun W hb => by
            have := HC.out.below hb
            rw [← HNC.out] at this
            exact this.take (by rw [HNC.out]; omega) cc (by omega) (by unfold maxLen; omega)
          have HD2 : Hid (∀ W, Below w.heap.size w W → Is W (.slice da dn dc) (n.cs.drop (K + 1))) := fun W hb => hB2 W (HC.out.below hb)
          obtain ⟨KR, hKR⟩ : ∃ x, x = (ys.take K ++ ([Value.slice q1 m1 dq] ++ ys.drop K)) := ⟨_, rfl⟩
          obtain ⟨IV, hIV⟩ : ∃ x, x = iv (n.cs.take (K + 1) ++ ([kid] ++ n.cs.drop (K + 1))) := ⟨_, rfl⟩
          obtain ⟨DN, hDN⟩ : ∃ x, x = gainN n K key kid := ⟨_, rfl⟩
          rw [← hDN]
          have HKR := hide hKR
          have HIV := hide hIV
          have HDN := hide hDN
          clear hKR hIV hDN hlo hlo2 hB hB2 hbn hdn
          have HCK : Hid (∀ wx g g2, Below w.heap.size w wx → Blk wx g 23 [.slice ka K kc, .slice (some ⟨g2, 0, none⟩) 1 1, .slice ba bn bc] → Blk wx g2 34 [.slice q1 m1 dq] → Calls Try.prog 78 #[.slice (some ⟨g, 0, none⟩) 3 3] wx fun e w' => ∃ r N c, e = .returned (.slice r N c) ∧ w'.ownsRow wx.heap.size 34 1 (.slice r N c) N KR ∧ Below wx.heap.size wx w') := fun wx g g2 hbw hB hB2 => by
            refine (concatK_any wx g [.slice ka K kc, .slice (some ⟨g2, 0, none⟩) 1 1, .slice ba bn bc] [ys.take K, [.slice q1 m1 dq], ys.drop K] rfl (by simp) hB (lit_rows rfl (by
              intro x hx
              simp only [List.zip_cons_cons, List.zip_nil_right, List.mem_cons, List.not_mem_nil, or_false] at hx
              rcases hx with rfl | rfl | rfl
              · exact RowR.of_bss (HT1.out wx hbw) (by rw [List.length_take]; have := HNK.out; omega)
              · exact ⟨some ⟨g2, 0, none⟩, 1, 1, rfl, by simp, by omega, fun h => (by cases h), fun b hb j u hj => (by
                  obtain rfl := (Option.some.inj hb)
                  rw [Addr.add_mid, Nat.zero_add, hB2.cell]
                  exact hj), fun u hu => (by simp at hu; subst hu; rfl)⟩
              · exact RowR.of_bss (HD1.out wx hbw) (by rw [List.length_drop]; have := HNK.out; omega)))).mono ?_
            rintro e w' ⟨r, N, c, rfl, ho, hb'⟩
            exact ⟨r, N, c, rfl, (by rw [HKR.out]; simpa using ho), hb'⟩
          have HCI : Hid (∀ wx g g2, Below w.heap.size w wx → Blk wx g 24 [.slice ca (K + 1) cc, .slice (some ⟨g2, 0, none⟩) 1 1, .slice da dn dc] → Blk wx g2 3 [.int .i64 kid] → Calls Try.prog 79 #[.slice (some ⟨g, 0, none⟩) 3 3] wx fun e w' => ∃ r N c, e = .returned (.slice r N c) ∧ w'.ownsRow wx.heap.size 3 1 (.slice r N c) N IV ∧ Below wx.heap.size wx w') := fun wx g g2 hbw hB hB2 => by
            refine (concatI_any wx g [.slice ca (K + 1) cc, .slice (some ⟨g2, 0, none⟩) 1 1, .slice da dn dc] [iv (n.cs.take (K + 1)), [.int .i64 kid], iv (n.cs.drop (K + 1))] rfl (by simp) hB (lit_rows rfl (by
              intro x hx
              simp only [List.zip_cons_cons, List.zip_nil_right, List.mem_cons, List.not_mem_nil, or_false] at hx
              rcases hx with rfl | rfl | rfl
              · exact RowR.of_is (HT2.out wx hbw) (by rw [List.length_take]; have := HNC.out; omega)
              · exact ⟨some ⟨g2, 0, none⟩, 1, 1, rfl, by simp, by omega, fun h => (by cases h), fun b hb j u hj => (by
                  obtain rfl := (Option.some.inj hb)
                  rw [Addr.add_mid, Nat.zero_add, hB2.cell]
                  exact hj), fun u hu => (by simp at hu; subst hu; rfl)⟩
              · exact RowR.of_is (HD2.out wx hbw) (by rw [List.length_drop]; have := HNC.out; omega)))).mono ?_
            rintro e w' ⟨r, N, c, rfl, ho, hb'⟩
            exact ⟨r, N, c, rfl, (by rw [HIV.out]; simpa [iv] using ho), hb'⟩
          have HND : Hid (∀ wx a1 n1 c1 a2 n2 c2, Below w.heap.size w wx → wx.ownsRow (w.heap.size + 2) 34 1 (.slice a1 n1 c1) n1 KR → wx.ownsRow (w.heap.size + 2) 3 1 (.slice a2 n2 c2) n2 IV → NdV wx (.agg #[.bool false, .slice none 0 0, .slice a1 n1 c1, .slice a2 n2 c2]) DN) := fun wx a1 n1 c1 a2 n2 c2 hbw h1 h2 => by
            rw [HDN.out]
            have e1 : n1 = KR.length := by have := h1.1; omega
            rw [HIV.out] at h2
            have e2 : n2 = (n.cs.take (K + 1) ++ ([kid] ++ n.cs.drop (K + 1))).length := by have := h2.1; rw [iv, List.length_map] at this; omega
            rw [e1] at h1 ⊢
            rw [e2] at h2 ⊢
            refine ⟨_, _, _, [], KR, rfl, Prs.nil _, bss_own h1 ?_ ?_, (show Ints wx _ _ _ from h2).is⟩
            · rw [HKR.out]
              show _ = (n.ks.take K ++ ([key] ++ n.ks.drop K)).length
              simp only [List.length_append, (HT1.out wx hbw).1, (HD1.out wx hbw).1, List.length_cons, List.length_nil]
            · rw [HKR.out]
              exact keys_append (HT1.out wx hbw).1 (HT1.out wx hbw).texts (keys_append (ys := [.slice q1 m1 dq]) (ks := [key]) rfl (fun i hi => by
                obtain rfl : i = 0 := by simp at hi; omega
                exact HKV.out.below hbw) (HD1.out wx hbw).texts)
          clear HT1 HT2 HD1 HD2 HDN HKR HIV HP HK HC
          go_enter Try.func37, Try.ntmps37
          go_wp2_with (first
            | (go_at_call 68; refine (HM.out w1 HG1.out.1).mono ?_; rintro e w2 ⟨rfl, hb2⟩; have HG2 := hide (HG1.out.grow hb2); (try clear z0 z1 z2 z3); (try clear d0 d1 d2 d3 k0 k1 k2 k3); obtain ⟨⟨z0, z1, z2, z3⟩, _⟩ := node_cells HG2.out.2.1; obtain ⟨⟨d0, d1, d2, d3⟩, k0, k1, k2, k3⟩ := node_cells HG2.out.2.2; clear HM hb2)
            | (go_at_call 76; refine (isPlace_any w2 _ _).mono ?_; rintro e w3 ⟨rfl, hw⟩; subst w3; rw [hPB])
            | (go_at_call 77; refine (isChild_any w2 _).mono ?_; rintro e w3 ⟨rfl, hw⟩; subst w3; rw [hKB])
            | (go_at_call 71; refine (HKE.out w2 HG2.out.1).mono ?_; rintro e w3 ⟨rfl, hw⟩; subst w3))
          refine wp_region_mix (fun j => j = w.heap.size + 1) [some (isV (.pointer (some ⟨w.heap.size, 2, none⟩))), some (isV (.slice ka nk kc)), some (isV (.int .i64 (K : Int))), some (isV (.slice ka K kc)), some (isV (.slice q1 m1 dq)), some (isLit (w.heap.size + 2) 34 [.slice q1 m1 dq]), some (isV (.pointer (some ⟨w.heap.size, 2, none⟩))), some (isV (.slice ka nk kc)), some (isV (.int .i64 (K : Int))), some (isV (.slice ba bn bc)), some (isLitK (w.heap.size + 2) ka K kc q1 m1 dq ba bn bc), some (isRowO (w.heap.size + 2) 34 1 KR), some (isV (.pointer (some ⟨w.heap.size, 3, none⟩))), some (isV (.slice ca nc cc)), some (isV (.int .i64 (K : Int))), some (isV (.int .i64 (K + 1 : Int))), some (isV (.slice ca (K + 1) cc)), some (isV (.int .i64 kid)), some (isLit (w.heap.size + 2) 3 [.int .i64 kid]), some (isV (.pointer (some ⟨w.heap.size, 3, none⟩))), some (isV (.slice ca nc cc)), some (isV (.int .i64 (K : Int))), some (isV (.int .i64 (K + 1 : Int))), some (isV (.slice da dn dc)), some (isLitI (w.heap.size + 2) (.slice ca (K + 1) cc) kid (.slice da dn dc)), some (isRowO (w.heap.size + 2) 3 1 IV), some (isNd2 (w.heap.size + 2) KR IV), some (isTup (w.heap.size + 2) (ownN DN) (ownE DN)), some (isNdO (w.heap.size + 2) (ownN DN)), some (isV (.int .i64 (ownE DN))), none, none] [30, 31] (CgS w [.bool false, .slice pa np pc, .slice ka nk kc, .slice ca nc cc] (ownN DN) (ownE DN) 31) 63 (by kernel_rfl) (by kernel_rfl) (by kernel_rfl) (by kernel_rfl) rfl ?_ ?_ ?_ ?_ ?_
          · intro vals0
            exact (HG2.out.keep ((Only.refl _ w2).drew) : CgB w [.bool false, .slice pa np pc, .slice ka nk kc, .slice ca nc cc] zeroC w2.drew)
          · refine allF_at _ ?_
            repeat (first | exact trivial | refine allF_none ?_ | refine allF_isV ?_ | refine allF_cons (st_isLit _ _ (fun j hj => by omega)) ?_ | refine allF_cons (st_isLitK (fun j hj => by omega)) ?_ | refine allF_cons (st_isLitI (fun j hj => by omega)) ?_ | refine allF_cons (st_isRowO _ _ _ (fun j hj => by omega)) ?_ | refine allF_cons (st_isNd2 (fun j hj => by omega)) ?_ | refine allF_cons (st_isTup _ _ (fun j hj => by omega)) ?_ | refine allF_cons (st_isNdO _ (fun j hj => by omega)) ?_)
          · exact CgS.ind (by decide)
          · refine ⟨?_, ?_, ?_, ?_, ?_, ?_, ?_, ?_, ?_, ?_, ?_, ?_, ?_, ?_, ?_, ?_, ?_, ?_, ?_, ?_, ?_, ?_, ?_, ?_, ?_, ?_, ?_, ?_, ?_, ?_, ?_, ?_, trivial⟩
            · intro k vals act wx hk h hs
              have e4 : act.eval (.tmp 4) = .pointer (some ⟨w.heap.size, 0, none⟩) := h.old 4 (by kernel_rfl)
              clear h
              refine gives_by rfl act.eval rfl ?_
              generalize act.eval = ρ at *
              intro hf hc
              go_simp
              exact ⟨rfl, Only.refl _ _, hs⟩
            · intro k vals act wx hk h hs
              obtain ⟨v33, e33, f33⟩ := h.f 0 33 (by kernel_rfl) rfl
              obtain rfl : v33 = .pointer (some ⟨w.heap.size, 2, none⟩) := f33
              clear h
              obtain ⟨hbw, hAx, hsz⟩ := CgS.any hk hs
              obtain ⟨⟨x0, x1, x2, x3⟩, _⟩ := node_cells hAx
              refine gives_by rfl act.eval rfl ?_
              generalize act.eval = ρ at *
              intro hf hc
              go_simp
              exact ⟨rfl, Only.refl _ _, hs⟩
            · intro k vals act wx hk h hs
              have e1 : act.eval (.tmp 1) = .int .i64 (K : Int) := h.old 1 (by kernel_rfl)
              clear h
              refine gives_by rfl act.eval rfl ?_
              generalize act.eval = ρ at *
              intro hf hc
              go_simp
              exact ⟨rfl, Only.refl _ _, hs⟩
            · intro k vals act wx hk h hs
              obtain ⟨v34, e34, f34⟩ := h.f 1 34 (by kernel_rfl) rfl
              obtain rfl : v34 = .slice ka nk kc := f34
              obtain ⟨v35, e35, f35⟩ := h.f 2 35 (by kernel_rfl) rfl
              obtain rfl : v35 = .int .i64 (K : Int) := f35
              clear h
              have hct := HCT.out wx
              refine gives_by rfl act.eval rfl ?_
              generalize act.eval = ρ at *
              intro hf hc
              go_simp
              exact ⟨rfl, Only.refl _ _, hs⟩
            · intro k vals act wx hk h hs
              have e2 : act.eval (.tmp 2) = .slice q1 m1 dq := h.old 2 (by kernel_rfl)
              clear h
              refine gives_by rfl act.eval rfl ?_
              generalize act.eval = ρ at *
              intro hf hc
              go_simp
              exact ⟨rfl, Only.refl _ _, hs⟩
            · intro k vals act wx hk h hs
              obtain ⟨v37, e37, f37⟩ := h.f 4 37 (by kernel_rfl) rfl
              obtain rfl : v37 = .slice q1 m1 dq := f37
              clear h
              obtain ⟨hbw, hAx, hsz⟩ := CgS.any hk hs
              refine gives_of_run rfl (exec_buildSlice1 23 1 (.tmp 37) rfl _ _ e37 (build_row wx q1 m1 dq)) ?_
              have hon : Only (fun _ => False) wx (wx.alloc (.cells #[.slice q1 m1 dq] 34)) := (Only.refl _ wx).alloc _
              exact ⟨⟨wx.heap.size, rfl, hsz, Blk.new wx _ [.slice q1 m1 dq]⟩, hon, hs.keep hk hon⟩
            · intro k vals act wx hk h hs
              have e4 : act.eval (.tmp 4) = .pointer (some ⟨w.heap.size, 0, none⟩) := h.old 4 (by kernel_rfl)
              clear h
              refine gives_by rfl act.eval rfl ?_
              generalize act.eval = ρ at *
              intro hf hc
              go_simp
              exact ⟨rfl, Only.refl _ _, hs⟩
            · intro k vals act wx hk h hs
              obtain ⟨v39, e39, f39⟩ := h.f 6 39 (by kernel_rfl) rfl
              obtain rfl : v39 = .pointer (some ⟨w.heap.size, 2, none⟩) := f39
              clear h
              obtain ⟨hbw, hAx, hsz⟩ := CgS.any hk hs
              obtain ⟨⟨x0, x1, x2, x3⟩, _⟩ := node_cells hAx
              refine gives_by rfl act.eval rfl ?_
              generalize act.eval = ρ at *
              intro hf hc
              go_simp
              exact ⟨rfl, Only.refl _ _, hs⟩
            · intro k vals act wx hk h hs
              have e1 : act.eval (.tmp 1) = .int .i64 (K : Int) := h.old 1 (by kernel_rfl)
              clear h
              refine gives_by rfl act.eval rfl ?_
              generalize act.eval = ρ at *
              intro hf hc
              go_simp
              exact ⟨rfl, Only.refl _ _, hs⟩
            · intro k vals act wx hk h hs
              obtain ⟨v40, e40, f40⟩ := h.f 7 40 (by kernel_rfl) rfl
              obtain rfl : v40 = .slice ka nk kc := f40
              obtain ⟨v41, e41, f41⟩ := h.f 8 41 (by kernel_rfl) rfl
              obtain rfl : v41 = .int .i64 (K : Int) := f41
              clear h
              have hlo := HLO.out wx
              refine gives_by rfl act.eval rfl ?_
              generalize act.eval = ρ at *
              intro hf hc
              go_simp
              exact ⟨rfl, Only.refl _ _, hs⟩
            · intro k vals act wx hk h hs
              obtain ⟨v36, e36, f36⟩ := h.f 3 36 (by kernel_rfl) rfl
              obtain rfl : v36 = .slice ka K kc := f36
              obtain ⟨v38, e38, f38⟩ := h.f 5 38 (by kernel_rfl) rfl
              obtain ⟨g38, rfl, hg38, B38⟩ := f38
              obtain ⟨v42, e42, f42⟩ := h.f 9 42 (by kernel_rfl) rfl
              obtain rfl : v42 = .slice ba bn bc := f42
              clear h
              obtain ⟨hbw, hAx, hsz⟩ := CgS.any hk hs
              refine gives_of_run rfl (exec_build3 106 3 (.tmp 36) (.tmp 38) (.tmp 42) rfl _ _ _ _ e36 e38 e42 (buildK3 wx ka (some ⟨g38, 0, none⟩) ba K 1 bn kc 1 bc)) ?_
              have hon : Only (fun _ => False) wx (wx.alloc (.cells #[.slice ka K kc, .slice (some ⟨g38, 0, none⟩) 1 1, .slice ba bn bc] 23)) := (Only.refl _ wx).alloc _
              exact ⟨⟨wx.heap.size, g38, rfl, hsz, hg38, Blk.new wx _ [.slice ka K kc, .slice (some ⟨g38, 0, none⟩) 1 1, .slice ba bn bc], B38.only hon (fun h => h)⟩, hon, hs.keep hk hon⟩
            · intro k vals act wx hk h hs
              obtain ⟨v43, e43, f43⟩ := h.f 10 43 (by kernel_rfl) rfl
              obtain ⟨g43, g38', rfl, hg43, hg38', B43, B38'⟩ := f43
              clear h
              refine gives_by rfl act.eval rfl ?_
              generalize act.eval = ρ at *
              intro hf hc
              go_simp
              obtain ⟨hbw, hAx, hsz⟩ := CgS.any hk hs
              refine (HCK.out wx g43 g38' hbw B43 B38').mono ?_
              rintro e w' ⟨r, N, c, he, ho, hb'⟩
              exact ⟨_, he, ⟨r, N, c, rfl, own_le' ho hsz⟩, Only.of_below _ hb', hs.keep hk (Only.of_below _ hb')⟩
            · intro k vals act wx hk h hs
              have e4 : act.eval (.tmp 4) = .pointer (some ⟨w.heap.size, 0, none⟩) := h.old 4 (by kernel_rfl)
              clear h
              refine gives_by rfl act.eval rfl ?_
              generalize act.eval = ρ at *
              intro hf hc
              go_simp
              exact ⟨rfl, Only.refl _ _, hs⟩
            · intro k vals act wx hk h hs
              obtain ⟨v45, e45, f45⟩ := h.f 12 45 (by kernel_rfl) rfl
              obtain rfl : v45 = .pointer (some ⟨w.heap.size, 3, none⟩) := f45
              clear h
              obtain ⟨hbw, hAx, hsz⟩ := CgS.any hk hs
              obtain ⟨⟨x0, x1, x2, x3⟩, _⟩ := node_cells hAx
              refine gives_by rfl act.eval rfl ?_
              generalize act.eval = ρ at *
              intro hf hc
              go_simp
              exact ⟨rfl, Only.refl _ _, hs⟩
            · intro k vals act wx hk h hs
              have e1 : act.eval (.tmp 1) = .int .i64 (K : Int) := h.old 1 (by kernel_rfl)
              clear h
              refine gives_by rfl act.eval rfl ?_
              generalize act.eval = ρ at *
              intro hf hc
              go_simp
              exact ⟨rfl, Only.refl _ _, hs⟩
            · intro k vals act wx hk h hs
              obtain ⟨v47, e47, f47⟩ := h.f 14 47 (by kernel_rfl) rfl
              obtain rfl : v47 = .int .i64 (K : Int) := f47
              clear h
              refine gives_by rfl act.eval rfl ?_
              generalize act.eval = ρ at *
              intro hf hc
              go_simp
              rw [IntWalk.i64_in _ (by omega)]
              exact ⟨rfl, Only.refl _ _, hs⟩
            · intro k vals act wx hk h hs
              obtain ⟨v46, e46, f46⟩ := h.f 13 46 (by kernel_rfl) rfl
              obtain rfl : v46 = .slice ca nc cc := f46
              obtain ⟨v48, e48, f48⟩ := h.f 15 48 (by kernel_rfl) rfl
              obtain rfl : v48 = .int .i64 (K + 1 : Int) := f48
              clear h
              have hct := HCI0.out wx
              refine gives_by rfl act.eval rfl ?_
              generalize act.eval = ρ at *
              intro hf hc
              go_simp
              exact ⟨rfl, Only.refl _ _, hs⟩
            · intro k vals act wx hk h hs
              have e3 : act.eval (.tmp 3) = .int .i64 kid := h.old 3 (by kernel_rfl)
              clear h
              refine gives_by rfl act.eval rfl ?_
              generalize act.eval = ρ at *
              intro hf hc
              go_simp
              exact ⟨rfl, Only.refl _ _, hs⟩
            · intro k vals act wx hk h hs
              obtain ⟨v50, e50, f50⟩ := h.f 17 50 (by kernel_rfl) rfl
              obtain rfl : v50 = .int .i64 kid := f50
              clear h
              obtain ⟨hbw, hAx, hsz⟩ := CgS.any hk hs
              refine gives_of_run rfl (exec_buildSlice1 24 1 (.tmp 50) rfl _ _ e50 (build_kid wx kid)) ?_
              have hon : Only (fun _ => False) wx (wx.alloc (.cells #[.int .i64 kid] 3)) := (Only.refl _ wx).alloc _
              exact ⟨⟨wx.heap.size, rfl, hsz, Blk.new wx _ [.int .i64 kid]⟩, hon, hs.keep hk hon⟩
            · intro k vals act wx hk h hs
              have e4 : act.eval (.tmp 4) = .pointer (some ⟨w.heap.size, 0, none⟩) := h.old 4 (by kernel_rfl)
              clear h
              refine gives_by rfl act.eval rfl ?_
              generalize act.eval = ρ at *
              intro hf hc
              go_simp
              exact ⟨rfl, Only.refl _ _, hs⟩
            · intro k vals act wx hk h hs
              obtain ⟨v52, e52, f52⟩ := h.f 19 52 (by kernel_rfl) rfl
              obtain rfl : v52 = .pointer (some ⟨w.heap.size, 3, none⟩) := f52
              clear h
              obtain ⟨hbw, hAx, hsz⟩ := CgS.any hk hs
              obtain ⟨⟨x0, x1, x2, x3⟩, _⟩ := node_cells hAx
              refine gives_by rfl act.eval rfl ?_
              generalize act.eval = ρ at *
              intro hf hc
              go_simp
              exact ⟨rfl, Only.refl _ _, hs⟩
            · intro k vals act wx hk h hs
              have e1 : act.eval (.tmp 1) = .int .i64 (K : Int) := h.old 1 (by kernel_rfl)
              clear h
              refine gives_by rfl act.eval rfl ?_
              generalize act.eval = ρ at *
              intro hf hc
              go_simp
              exact ⟨rfl, Only.refl _ _, hs⟩
            · intro k vals act wx hk h hs
              obtain ⟨v54, e54, f54⟩ := h.f 21 54 (by kernel_rfl) rfl
              obtain rfl : v54 = .int .i64 (K : Int) := f54
              clear h
              refine gives_by rfl act.eval rfl ?_
              generalize act.eval = ρ at *
              intro hf hc
              go_simp
              rw [IntWalk.i64_in _ (by omega)]
              exact ⟨rfl, Only.refl _ _, hs⟩
            · intro k vals act wx hk h hs
              obtain ⟨v53, e53, f53⟩ := h.f 20 53 (by kernel_rfl) rfl
              obtain rfl : v53 = .slice ca nc cc := f53
              obtain ⟨v55, e55, f55⟩ := h.f 22 55 (by kernel_rfl) rfl
              obtain rfl : v55 = .int .i64 (K + 1 : Int) := f55
              clear h
              have hlo := HLI.out wx
              refine gives_by rfl act.eval rfl ?_
              generalize act.eval = ρ at *
              intro hf hc
              go_simp
              exact ⟨rfl, Only.refl _ _, hs⟩
            · intro k vals act wx hk h hs
              obtain ⟨v49, e49, f49⟩ := h.f 16 49 (by kernel_rfl) rfl
              obtain rfl : v49 = .slice ca (K + 1) cc := f49
              obtain ⟨v51, e51, f51⟩ := h.f 18 51 (by kernel_rfl) rfl
              obtain ⟨g51, rfl, hg51, B51⟩ := f51
              obtain ⟨v56, e56, f56⟩ := h.f 23 56 (by kernel_rfl) rfl
              obtain rfl : v56 = .slice da dn dc := f56
              clear h
              obtain ⟨hbw, hAx, hsz⟩ := CgS.any hk hs
              refine gives_of_run rfl (exec_build3 108 3 (.tmp 49) (.tmp 51) (.tmp 56) rfl _ _ _ _ e49 e51 e56 (buildI3 wx ca (some ⟨g51, 0, none⟩) da (K + 1) 1 dn cc 1 dc)) ?_
              have hon : Only (fun _ => False) wx (wx.alloc (.cells #[.slice ca (K + 1) cc, .slice (some ⟨g51, 0, none⟩) 1 1, .slice da dn dc] 24)) := (Only.refl _ wx).alloc _
              exact ⟨⟨wx.heap.size, g51, rfl, hsz, hg51, Blk.new wx _ [.slice ca (K + 1) cc, .slice (some ⟨g51, 0, none⟩) 1 1, .slice da dn dc], B51.only hon (fun h => h)⟩, hon, hs.keep hk hon⟩
            · intro k vals act wx hk h hs
              obtain ⟨v57, e57, f57⟩ := h.f 24 57 (by kernel_rfl) rfl
              obtain ⟨g57, g51', rfl, hg57, hg51', B57, B51'⟩ := f57
              clear h
              refine gives_by rfl act.eval rfl ?_
              generalize act.eval = ρ at *
              intro hf hc
              go_simp
              obtain ⟨hbw, hAx, hsz⟩ := CgS.any hk hs
              refine (HCI.out wx g57 g51' hbw B57 B51').mono ?_
              rintro e w' ⟨r, N, c, he, ho, hb'⟩
              exact ⟨_, he, ⟨r, N, c, rfl, own_le' ho hsz⟩, Only.of_below _ hb', hs.keep hk (Only.of_below _ hb')⟩
            · intro k vals act wx hk h hs
              obtain ⟨v44, e44, f44⟩ := h.f 11 44 (by kernel_rfl) rfl
              obtain ⟨a44, n44, c44, rfl, O44⟩ := f44
              obtain ⟨v58, e58, f58⟩ := h.f 25 58 (by kernel_rfl) rfl
              obtain ⟨a58, n58, c58, rfl, O58⟩ := f58
              clear h
              refine gives_by rfl act.eval rfl ?_
              generalize act.eval = ρ at *
              intro hf hc
              go_simp
              exact ⟨⟨a44, n44, c44, a58, n58, c58, rfl, O44, O58⟩, Only.refl _ _, hs⟩
            · intro k vals act wx hk h hs
              obtain ⟨v59, e59, f59⟩ := h.f 26 59 (by kernel_rfl) rfl
              obtain ⟨a59, n59, c59, a59', n59', c59', rfl, O59, O59'⟩ := f59
              clear h
              refine gives_by rfl act.eval rfl ?_
              generalize act.eval = ρ at *
              intro hf hc
              go_simp
              obtain ⟨hbw, hAx, hsz⟩ := CgS.any hk hs
              refine (owned_tup (HND.out wx _ _ _ _ _ _ hbw O59 O59') hsz).mono ?_
              rintro e w' ⟨u, he, ht, hb'⟩
              exact ⟨u, he, ht, Only.of_below _ hb', hs.keep hk (Only.of_below _ hb')⟩
            · intro k vals act wx hk h hs
              obtain ⟨v60, e60, f60⟩ := h.f 27 60 (by kernel_rfl) rfl
              obtain ⟨l60, p60, np60, pc60, k60, nk60, kc60, q60, nq60, qc60, rfl, N60⟩ := f60
              clear h
              refine gives_by rfl act.eval rfl ?_
              generalize act.eval = ρ at *
              intro hf hc
              go_simp
              exact ⟨⟨l60, p60, np60, pc60, k60, nk60, kc60, q60, nq60, qc60, rfl, N60⟩, Only.refl _ _, hs⟩
            · intro k vals act wx hk h hs
              obtain ⟨v60, e60, f60⟩ := h.f 27 60 (by kernel_rfl) rfl
              obtain ⟨l60, p60, np60, pc60, k60, nk60, kc60, q60, nq60, qc60, rfl, N60⟩ := f60
              clear h
              refine gives_by rfl act.eval rfl ?_
              generalize act.eval = ρ at *
              intro hf hc
              go_simp
              exact ⟨rfl, Only.refl _ _, hs⟩
            · intro vals act wx h hs
              have e8 : act.eval (.tmp 8) = .pointer (some ⟨w.heap.size + 1, 0, none⟩) := h.old 8 (by kernel_rfl)
              obtain ⟨v61, e61, f61⟩ := h.f 28 61 (by kernel_rfl) rfl
              obtain ⟨l61, p61, np61, pc61, k61, nk61, kc61, q61, nq61, qc61, rfl, N61⟩ := f61
              clear h
              have hj : CgB w [.bool false, .slice pa np pc, .slice ka nk kc, .slice ca nc cc] zeroC wx := hs
              obtain ⟨⟨d0, d1', d2, d3⟩, k0, k1, k2, k3⟩ := node_cells hj.2.2
              have ho := laidN_only wx (w.heap.size + 1) (.bool l61) (.slice p61 np61 pc61) (.slice k61 nk61 kc61) (.slice q61 nq61 qc61)
              have hfin : CgS w [.bool false, .slice pa np pc, .slice ka nk kc, .slice ca nc cc] (ownN DN) (ownE DN) 31 1 (updV vals 30 undef) (laidN wx (w.heap.size + 1) (.bool l61) (.slice p61 np61 pc61) (.slice k61 nk61 kc61) (.slice q61 nq61 qc61)) := ⟨l61, p61, np61, pc61, k61, nk61, kc61, q61, nq61, qc61, ⟨hj.1.trans (ho.below hj.1.size (fun j hh e => by omega)), hj.2.1.only ho (by omega), laidN_blk hj.2.2 _ _ _ _⟩, N61.only ho (fun j hh => by omega)⟩
              clear hs hj N61
              refine gives_by rfl act.eval rfl ?_
              generalize act.eval = ρ at *
              intro hf hc
              go_simp
              exact ⟨ho, hfin⟩
            · intro vals act wx h hs
              obtain ⟨v62, e62, f62⟩ := h.f 29 62 (by kernel_rfl) rfl
              obtain rfl : v62 = .int .i64 (ownE DN) := f62
              clear h
              have hj : CgS w [.bool false, .slice pa np pc, .slice ka nk kc, .slice ca nc cc] (ownN DN) (ownE DN) 31 1 vals wx := hs
              refine gives_by rfl act.eval rfl ?_
              generalize act.eval = ρ at *
              intro hf hc
              go_simp
              exact ⟨Only.refl _ _, ⟨hj, rfl⟩⟩
          · intro vals w8 hv hs
            obtain ⟨⟨l8, p8, n8, c8, k8, nk8, kc8, q8, nq8, qc8, hj, hn⟩, h19⟩ : (∃ l9 p9 n9 c9 k9 m9 d9 q9 r9 s9, CgB w [.bool false, .slice pa np pc, .slice ka nk kc, .slice ca nc cc] [.bool l9, .slice p9 n9 c9, .slice k9 m9 d9, .slice q9 r9 s9] w8 ∧ NdN w8 (w.heap.size + 2) (.agg #[.bool l9, .slice p9 n9 c9, .slice k9 m9 d9, .slice q9 r9 s9]) (ownN DN)) ∧ vals 31 = .int .i64 (ownE DN) := hs
            have HJ8 := hide hj
            have HN8 := hide hn
            clear hv hj hn
            simp only [putAll, Act.put, List.setIfInBounds_toArray, List.set_cons_zero, List.set_cons_succ, Nat.zero_add, Nat.reduceAdd, h19]
            (try go_wp2)
            (try simp only [Exit.inBlock, Exit.then])
            refine bodyPost_ret (ret_node1 rfl _ _ (w.heap.size + 1) _ _ _ _ _ rfl rfl HJ8.out.2.2) rfl ?_
            exact ⟨_, rfl, HN8.out.le (by omega), HJ8.out.1⟩
        | false =>
          rw [hPB, hKB, hEB] at HNN HEE
          simp only [Bool.and_false, Bool.false_eq_true, if_false] at HNN HEE
          rw [HNN.out, HEE.out]
          clear HNN HEE
          go_enter Try.func37, Try.ntmps37
          go_wp2_with (first
            | (go_at_call 68; refine (HM.out w1 HG1.out.1).mono ?_; rintro e w2 ⟨rfl, hb2⟩; have HG2 := hide (HG1.out.grow hb2); (try clear z0 z1 z2 z3); (try clear d0 d1 d2 d3 k0 k1 k2 k3); obtain ⟨⟨z0, z1, z2, z3⟩, _⟩ := node_cells HG2.out.2.1; obtain ⟨⟨d0, d1, d2, d3⟩, k0, k1, k2, k3⟩ := node_cells HG2.out.2.2; clear HM hb2)
            | (go_at_call 76; refine (isPlace_any w2 _ _).mono ?_; rintro e w3 ⟨rfl, hw⟩; subst w3; rw [hPB])
            | (go_at_call 77; refine (isChild_any w2 _).mono ?_; rintro e w3 ⟨rfl, hw⟩; subst w3; rw [hKB])
            | (go_at_call 71; refine (HKE.out w2 HG2.out.1).mono ?_; rintro e w3 ⟨rfl, hw⟩; subst w3; rw [hEB]))
          (try simp only [Exit.inBlock, Exit.then])
          refine bodyPost_ret (ret_node1 rfl _ _ (w.heap.size + 1) _ _ _ _ _ rfl rfl (laidN_blk HG2.out.2.2 _ _ _ _)) rfl ?_
          exact cg_no HG2.out _ _ _ _ _ rfl
      | false =>
        rw [hPB, hKB] at HNN HEE
        simp only [Bool.and_false, Bool.false_and, Bool.false_eq_true, if_false] at HNN HEE
        rw [HNN.out, HEE.out]
        clear HNN HEE
        go_enter Try.func37, Try.ntmps37
        go_wp2_with (first
          | (go_at_call 68; refine (HM.out w1 HG1.out.1).mono ?_; rintro e w2 ⟨rfl, hb2⟩; have HG2 := hide (HG1.out.grow hb2); (try clear z0 z1 z2 z3); (try clear d0 d1 d2 d3 k0 k1 k2 k3); obtain ⟨⟨z0, z1, z2, z3⟩, _⟩ := node_cells HG2.out.2.1; obtain ⟨⟨d0, d1, d2, d3⟩, k0, k1, k2, k3⟩ := node_cells HG2.out.2.2; clear HM hb2)
          | (go_at_call 76; refine (isPlace_any w2 _ _).mono ?_; rintro e w3 ⟨rfl, hw⟩; subst w3; rw [hPB])
          | (go_at_call 77; refine (isChild_any w2 _).mono ?_; rintro e w3 ⟨rfl, hw⟩; subst w3; rw [hKB]))
        (try simp only [Exit.inBlock, Exit.then])
        refine bodyPost_ret (ret_node1 rfl _ _ (w.heap.size + 1) _ _ _ _ _ rfl rfl (laidN_blk HG2.out.2.2 _ _ _ _)) rfl ?_
        exact cg_no HG2.out _ _ _ _ _ rfl
    | false =>
      rw [hPB] at HNN HEE
      simp only [Bool.false_and, Bool.false_eq_true, if_false] at HNN HEE
      rw [HNN.out, HEE.out]
      clear HNN HEE
      go_enter Try.func37, Try.ntmps37
      go_wp2_with (first
        | (go_at_call 68; refine (HM.out w1 HG1.out.1).mono ?_; rintro e w2 ⟨rfl, hb2⟩; have HG2 := hide (HG1.out.grow hb2); (try clear z0 z1 z2 z3); (try clear d0 d1 d2 d3 k0 k1 k2 k3); obtain ⟨⟨z0, z1, z2, z3⟩, _⟩ := node_cells HG2.out.2.1; obtain ⟨⟨d0, d1, d2, d3⟩, k0, k1, k2, k3⟩ := node_cells HG2.out.2.2; clear HM hb2)
        | (go_at_call 76; refine (isPlace_any w2 _ _).mono ?_; rintro e w3 ⟨rfl, hw⟩; subst w3; rw [hPB]))
      (try simp only [Exit.inBlock, Exit.then])
      refine bodyPost_ret (ret_node1 rfl _ _ (w.heap.size + 1) _ _ _ _ _ rfl rfl (laidN_blk HG2.out.2.2 _ _ _ _)) rfl ?_
      exact cg_no HG2.out _ _ _ _ _ rfl

set_option maxHeartbeats 1500000 in
theorem shrink_any (w : World) (v : Value) (n : Nd) (h : NdV w v n) (i : Int) :
    Calls Try.prog 39 #[v, .int .i64 i] w (GivesN w (shrinkN n i) (shrinkE n i)) := by
  have HM : Hid (∀ w1, Below w.heap.size w w1 → Calls Try.prog 68 #[v] w1 fun e w' => e = .returned (.bool (innerB n)) ∧ Below w1.heap.size w1 w') := fun w1 hb => isInner_any w1 v n (h.below hb)
  have HNN : Hid (shrinkN n i = if innerB n then (if placeB i n.ks.length then ownN (lessN n i.toNat) else noNd) else noNd) := rfl
  have HEE : Hid (shrinkE n i = if innerB n then (if placeB i n.ks.length then ownE (lessN n i.toNat) else 1) else 100) := rfl
  have hza : ∀ wx : World, (zeroValue 26).run Try.prog wx = .ok (.agg #[.bool false, .slice none 0 0, .slice none 0 0, .slice none 0 0]) wx := fun wx => by kernel_rfl
  have HIN : Hid (innerB n = true → 1 ≤ n.ks.length ∧ n.ks.length ≤ 255 ∧ n.cs.length = n.ks.length + 1) := fun h => by have := innerB_ps h; omega
  have HLN : Hid (leafB n = true → n.ps.length ≤ 255) := fun h => (leafB_ps h).1
  have HLF : Hid (innerB n = true → n.lf = false) := innerB_lf
  have HLL : Hid (leafB n = true → n.lf = true) := leafB_lf
  have HMI : Hid (n.lf = false → mayN n = innerB n) := mayN_in
  have HML : Hid (n.lf = true → mayN n = leafB n) := mayN_lf
  have HMO : Hid (mayN n = (leafB n || innerB n)) := rfl
  obtain ⟨pa, pc, ka, kc, ca, cc, xs, ys, rfl, hp1, hk1, hc1, hp2, hk2, hc2, hP, hK, hC⟩ := h.open
  have HP := hide hP
  have HK := hide hK
  have HC := hide hC
  unfold ndv at HM ⊢
  obtain ⟨lf, hlf⟩ : ∃ b, n.lf = b := ⟨_, rfl⟩
  obtain ⟨np, hnp⟩ : ∃ m, n.ps.length = m := ⟨_, rfl⟩
  obtain ⟨nk, hnk⟩ : ∃ m, n.ks.length = m := ⟨_, rfl⟩
  obtain ⟨nc, hnc⟩ : ∃ m, n.cs.length = m := ⟨_, rfl⟩
  have HNP := hide hnp
  have HNK := hide hnk
  have HNC := hide hnc
  have HF0 := hide hlf
  rw [hnp, hnk, hnc, hlf] at HM
  rw [hnp] at HLN HP hp1
  rw [hnk, hnc] at HIN
  rw [hnk] at HK hk1
  rw [hnc] at HC hc1
  rw [hlf] at HLF HLL HMI HML
  rw [hnp, hnk, hnc, hlf]
  obtain ⟨w1, hw1, hcg⟩ := cg_new w (.bool lf) (.slice pa np pc) (.slice ka nk kc) (.slice ca nc cc)
  have HG1 := hide hcg
  obtain ⟨⟨z0, z1, z2, z3⟩, _⟩ := node_cells hcg.2.1
  clear h hP hK hC hcg hnp hnk hnc hlf
  cases hib : innerB n with
  | false =>
    rw [hib] at HNN HEE HM
    simp only [Bool.false_eq_true, if_false] at HNN HEE
    rw [HNN.out, HEE.out]
    clear HNN HEE
    go_enter Try.func39, Try.ntmps39
    go_wp2_with (first
      | (go_at_call 68; refine (HM.out w1 HG1.out.1).mono ?_; rintro e w2 ⟨rfl, hb2⟩; have HG2 := hide (HG1.out.grow hb2); (try clear z0 z1 z2 z3); (try clear d0 d1 d2 d3 k0 k1 k2 k3); obtain ⟨⟨z0, z1, z2, z3⟩, _⟩ := node_cells HG2.out.2.1; obtain ⟨⟨d0, d1, d2, d3⟩, k0, k1, k2, k3⟩ := node_cells HG2.out.2.2; clear HM hb2))
    (try simp only [Exit.inBlock, Exit.then])
    refine bodyPost_ret (ret_node1 rfl _ _ (w.heap.size + 1) _ _ _ _ _ rfl rfl (laidN_blk HG2.out.2.2 _ _ _ _)) rfl ?_
    exact cg_no HG2.out _ _ _ _ _ rfl
  | true =>
    have hlf : lf = false := HLF.out hib
    rw [hib] at HNN HEE HM
    simp only [if_true] at HNN HEE
    subst hlf
    obtain ⟨hn1, hn2, hn3⟩ := HIN.out hib
    have hn4 : nc ≤ nk + 1 := by omega
    have hn5 : nk + 1 ≤ nc := by omega
    clear hn3
    rw [HNK.out] at HNN HEE
    cases hPB : placeB i nk with
    | true =>
      obtain ⟨K, rfl, hKm⟩ := place_nat hPB
      rw [hPB] at HNN HEE
      simp only [if_true, Int.toNat_natCast] at HNN HEE
      rw [HNN.out, HEE.out]
      clear HNN HEE
      have HCT := hide (fun wx => cut_head (P := Try.prog) 23 34 1 Try.underlying23 sizeRowE ka nk kc K (by omega) (by unfold maxLen; omega) wx)
      have HCI0 : Hid (∀ wx, (Instr.slice 24 (.slice ca nc cc) none (some (.int .i64 (K + 1 : Int))) none).run Try.prog wx = .ok (.slice ca (K + 1) cc) wx) := fun wx => by
        have := cut_head (P := Try.prog) 24 3 1 Try.underlying24 sizeIntE ca nc cc (K + 1) (by omega) (by unfold maxLen; omega) wx
        rwa [show ((K + 1 : Nat) : Int) = (K + 1 : Int) by omega] at this
      obtain ⟨ba, bc, hlo, hB⟩ := HK.out.low HNK.out (K + 1) (by omega)
      obtain ⟨da, dc, hlo2, hB2⟩ := HC.out.low HNC.out (K + 2) (by omega)
      have HLO : Hid (∀ wx, (Instr.slice 23 (.slice ka nk kc) (some (.int .i64 (K + 1 : Int))) none none).run Try.prog wx = .ok (.slice ba (nk - (K + 1)) bc) wx) := fun wx => by
        have := hlo wx
        rwa [show ((K + 1 : Nat) : Int) = (K + 1 : Int) by omega] at this
      have HLI : Hid (∀ wx, (Instr.slice 24 (.slice ca nc cc) (some (.int .i64 (K + 2 : Int))) none none).run Try.prog wx = .ok (.slice da (nc - (K + 2)) dc) wx) := fun wx => by
        have := hlo2 wx
        rwa [show ((K + 2 : Nat) : Int) = (K + 2 : Int) by omega] at this
      obtain ⟨bn, hbn⟩ : ∃ m, nk - (K + 1) = m := ⟨_, rfl⟩
      obtain ⟨dn, hdn⟩ : ∃ m, nc - (K + 2) = m := ⟨_, rfl⟩
      rw [hbn] at HLO hB
      rw [hdn] at HLI hB2
      have HT1 : Hid (∀ W, Below w.heap.size w W → Bss W (.slice ka K kc) (ys.take K) (n.ks.take K)) := fun W hb => by
        have := HK.out.below hb
        rw [← HNK.out] at this
        exact this.take K kc (by rw [HNK.out]; omega) (by omega) (by unfold maxLen; omega)
      have HD1 : Hid (∀ W, Below w.heap.size w W → Bss W (.slice ba bn bc) (ys.drop (K + 1)) (n.ks.drop (K + 1))) := fun W hb => hB W (HK.out.below hb)
      have HT2 : Hid (∀ W, Below w.heap.size w W → Is W (.slice ca (K + 1) cc) (n.cs.take (K + 1))) := fun W hb => by
        have := HC.out.below hb
        rw [← HNC.out] at this
        exact this.take (by rw [HNC.out]; omega) cc (by omega) (by unfold maxLen; omega)
      have HD2 : Hid (∀ W, Below w.heap.size w W → Is W (.slice da dn dc) (n.cs.drop (K + 2))) := fun W hb => hB2 W (HC.out.below hb)
      obtain ⟨KR, hKR⟩ : ∃ x, x = (ys.take K ++ ys.drop (K + 1)) := ⟨_, rfl⟩
      obtain ⟨IV, hIV⟩ : ∃ x, x = iv (n.cs.take (K + 1) ++ n.cs.drop (K + 2)) := ⟨_, rfl⟩
      obtain ⟨DN, hDN⟩ : ∃ x, x = lessN n K := ⟨_, rfl⟩
      rw [← hDN]
      have HKR := hide hKR
      have HIV := hide hIV
      have HDN := hide hDN
      clear hKR hIV hDN hlo hlo2 hB hB2 hbn hdn
      have HCK : Hid (∀ wx g, Below w.heap.size w wx → Blk wx g 23 [.slice ka K kc, .slice ba bn bc] → Calls Try.prog 78 #[.slice (some ⟨g, 0, none⟩) 2 2] wx fun e w' => ∃ r N c, e = .returned (.slice r N c) ∧ w'.ownsRow wx.heap.size 34 1 (.slice r N c) N KR ∧ Below wx.heap.size wx w') := fun wx g hbw hB => by
        refine (concatK_any wx g [.slice ka K kc, .slice ba bn bc] [ys.take K, ys.drop (K + 1)] rfl (by simp) hB (lit_rows rfl (by
          intro x hx
          simp only [List.zip_cons_cons, List.zip_nil_right, List.mem_cons, List.not_mem_nil, or_false] at hx
          rcases hx with rfl | rfl
          · exact RowR.of_bss (HT1.out wx hbw) (by rw [List.length_take]; have := HNK.out; omega)
          · exact RowR.of_bss (HD1.out wx hbw) (by rw [List.length_drop]; have := HNK.out; omega)))).mono ?_
        rintro e w' ⟨r, N, c, rfl, ho, hb'⟩
        exact ⟨r, N, c, rfl, (by rw [HKR.out]; simpa using ho), hb'⟩
      have HCI : Hid (∀ wx g, Below w.heap.size w wx → Blk wx g 24 [.slice ca (K + 1) cc, .slice da dn dc] → Calls Try.prog 79 #[.slice (some ⟨g, 0, none⟩) 2 2] wx fun e w' => ∃ r N c, e = .returned (.slice r N c) ∧ w'.ownsRow wx.heap.size 3 1 (.slice r N c) N IV ∧ Below wx.heap.size wx w') := fun wx g hbw hB => by
        refine (concatI_any wx g [.slice ca (K + 1) cc, .slice da dn dc] [iv (n.cs.take (K + 1)), iv (n.cs.drop (K + 2))] rfl (by simp) hB (lit_rows rfl (by
          intro x hx
          simp only [List.zip_cons_cons, List.zip_nil_right, List.mem_cons, List.not_mem_nil, or_false] at hx
          rcases hx with rfl | rfl
          · exact RowR.of_is (HT2.out wx hbw) (by rw [List.length_take]; have := HNC.out; omega)
          · exact RowR.of_is (HD2.out wx hbw) (by rw [List.length_drop]; have := HNC.out; omega)))).mono ?_
        rintro e w' ⟨r, N, c, rfl, ho, hb'⟩
        exact ⟨r, N, c, rfl, (by rw [HIV.out]; simpa [iv] using ho), hb'⟩
      have HND : Hid (∀ wx a1 n1 c1 a2 n2 c2, Below w.heap.size w wx → wx.ownsRow (w.heap.size + 2) 34 1 (.slice a1 n1 c1) n1 KR → wx.ownsRow (w.heap.size + 2) 3 1 (.slice a2 n2 c2) n2 IV → NdV wx (.agg #[.bool false, .slice none 0 0, .slice a1 n1 c1, .slice a2 n2 c2]) DN) := fun wx a1 n1 c1 a2 n2 c2 hbw h1 h2 => by
        rw [HDN.out]
        have e1 : n1 = KR.length := by have := h1.1; omega
        rw [HIV.out] at h2
        have e2 : n2 = (n.cs.take (K + 1) ++ n.cs.drop (K + 2)).length := by have := h2.1; rw [iv, List.length_map] at this; omega
        rw [e1] at h1 ⊢
        rw [e2] at h2 ⊢
        refine ⟨_, _, _, [], KR, rfl, Prs.nil _, bss_own h1 ?_ ?_, (show Ints wx _ _ _ from h2).is⟩
        · rw [HKR.out]
          show _ = (n.ks.take K ++ n.ks.drop (K + 1)).length
          simp only [List.length_append, (HT1.out wx hbw).1, (HD1.out wx hbw).1]
        · rw [HKR.out]
          exact keys_append (HT1.out wx hbw).1 (HT1.out wx hbw).texts (HD1.out wx hbw).texts
      clear HT1 HT2 HD1 HD2 HDN HKR HIV HP HK HC
      go_enter Try.func39, Try.ntmps39
      go_wp2_with (first
        | (go_at_call 68; refine (HM.out w1 HG1.out.1).mono ?_; rintro e w2 ⟨rfl, hb2⟩; have HG2 := hide (HG1.out.grow hb2); (try clear z0 z1 z2 z3); (try clear d0 d1 d2 d3 k0 k1 k2 k3); obtain ⟨⟨z0, z1, z2, z3⟩, _⟩ := node_cells HG2.out.2.1; obtain ⟨⟨d0, d1, d2, d3⟩, k0, k1, k2, k3⟩ := node_cells HG2.out.2.2; clear HM hb2)
        | (go_at_call 76; refine (isPlace_any w2 _ _).mono ?_; rintro e w3 ⟨rfl, hw⟩; subst w3; rw [hPB]))
      refine wp_region_mix (fun j => j = w.heap.size + 1) [some (isV (.pointer (some ⟨w.heap.size, 2, none⟩))), some (isV (.slice ka nk kc)), some (isV (.int .i64 (K : Int))), some (isV (.slice ka K kc)), some (isV (.pointer (some ⟨w.heap.size, 2, none⟩))), some (isV (.slice ka nk kc)), some (isV (.int .i64 (K : Int))), some (isV (.int .i64 (K + 1 : Int))), some (isV (.slice ba bn bc)), some (isLit (w.heap.size + 2) 23 [.slice ka K kc, .slice ba bn bc]), some (isRowO (w.heap.size + 2) 34 1 KR), some (isV (.pointer (some ⟨w.heap.size, 3, none⟩))), some (isV (.slice ca nc cc)), some (isV (.int .i64 (K : Int))), some (isV (.int .i64 (K + 1 : Int))), some (isV (.slice ca (K + 1) cc)), some (isV (.pointer (some ⟨w.heap.size, 3, none⟩))), some (isV (.slice ca nc cc)), some (isV (.int .i64 (K : Int))), some (isV (.int .i64 (K + 2 : Int))), some (isV (.slice da dn dc)), some (isLit (w.heap.size + 2) 24 [.slice ca (K + 1) cc, .slice da dn dc]), some (isRowO (w.heap.size + 2) 3 1 IV), some (isNd2 (w.heap.size + 2) KR IV), some (isTup (w.heap.size + 2) (ownN DN) (ownE DN)), some (isNdO (w.heap.size + 2) (ownN DN)), some (isV (.int .i64 (ownE DN))), none, none] [27, 28] (CgS w [.bool false, .slice pa np pc, .slice ka nk kc, .slice ca nc cc] (ownN DN) (ownE DN) 28) 46 (by kernel_rfl) (by kernel_rfl) (by kernel_rfl) (by kernel_rfl) rfl ?_ ?_ ?_ ?_ ?_
      · intro vals0
        exact (HG2.out.keep ((Only.refl _ w2).drew) : CgB w [.bool false, .slice pa np pc, .slice ka nk kc, .slice ca nc cc] zeroC w2.drew)
      · refine allF_at _ ?_
        repeat (first | exact trivial | refine allF_none ?_ | refine allF_isV ?_ | refine allF_cons (st_isLit _ _ (fun j hj => by omega)) ?_ | refine allF_cons (st_isLitK (fun j hj => by omega)) ?_ | refine allF_cons (st_isLitI (fun j hj => by omega)) ?_ | refine allF_cons (st_isRowO _ _ _ (fun j hj => by omega)) ?_ | refine allF_cons (st_isNd2 (fun j hj => by omega)) ?_ | refine allF_cons (st_isTup _ _ (fun j hj => by omega)) ?_ | refine allF_cons (st_isNdO _ (fun j hj => by omega)) ?_)
      · exact CgS.ind (by decide)
      · refine ⟨?_, ?_, ?_, ?_, ?_, ?_, ?_, ?_, ?_, ?_, ?_, ?_, ?_, ?_, ?_, ?_, ?_, ?_, ?_, ?_, ?_, ?_, ?_, ?_, ?_, ?_, ?_, ?_, ?_, trivial⟩
        · intro k vals act wx hk h hs
          have e2 : act.eval (.tmp 2) = .pointer (some ⟨w.heap.size, 0, none⟩) := h.old 2 (by kernel_rfl)
          clear h
          refine gives_by rfl act.eval rfl ?_
          generalize act.eval = ρ at *
          intro hf hc
          go_simp
          exact ⟨rfl, Only.refl _ _, hs⟩
        · intro k vals act wx hk h hs
          obtain ⟨v19, e19, f19⟩ := h.f 0 19 (by kernel_rfl) rfl
          obtain rfl : v19 = .pointer (some ⟨w.heap.size, 2, none⟩) := f19
          clear h
          obtain ⟨hbw, hAx, hsz⟩ := CgS.any hk hs
          obtain ⟨⟨x0, x1, x2, x3⟩, _⟩ := node_cells hAx
          refine gives_by rfl act.eval rfl ?_
          generalize act.eval = ρ at *
          intro hf hc
          go_simp
          exact ⟨rfl, Only.refl _ _, hs⟩
        · intro k vals act wx hk h hs
          have e1 : act.eval (.tmp 1) = .int .i64 (K : Int) := h.old 1 (by kernel_rfl)
          clear h
          refine gives_by rfl act.eval rfl ?_
          generalize act.eval = ρ at *
          intro hf hc
          go_simp
          exact ⟨rfl, Only.refl _ _, hs⟩
        · intro k vals act wx hk h hs
          obtain ⟨v20, e20, f20⟩ := h.f 1 20 (by kernel_rfl) rfl
          obtain rfl : v20 = .slice ka nk kc := f20
          obtain ⟨v21, e21, f21⟩ := h.f 2 21 (by kernel_rfl) rfl
          obtain rfl : v21 = .int .i64 (K : Int) := f21
          clear h
          have hct := HCT.out wx
          refine gives_by rfl act.eval rfl ?_
          generalize act.eval = ρ at *
          intro hf hc
          go_simp
          exact ⟨rfl, Only.refl _ _, hs⟩
        · intro k vals act wx hk h hs
          have e2 : act.eval (.tmp 2) = .pointer (some ⟨w.heap.size, 0, none⟩) := h.old 2 (by kernel_rfl)
          clear h
          refine gives_by rfl act.eval rfl ?_
          generalize act.eval = ρ at *
          intro hf hc
          go_simp
          exact ⟨rfl, Only.refl _ _, hs⟩
        · intro k vals act wx hk h hs
          obtain ⟨v23, e23, f23⟩ := h.f 4 23 (by kernel_rfl) rfl
          obtain rfl : v23 = .pointer (some ⟨w.heap.size, 2, none⟩) := f23
          clear h
          obtain ⟨hbw, hAx, hsz⟩ := CgS.any hk hs
          obtain ⟨⟨x0, x1, x2, x3⟩, _⟩ := node_cells hAx
          refine gives_by rfl act.eval rfl ?_
          generalize act.eval = ρ at *
          intro hf hc
          go_simp
          exact ⟨rfl, Only.refl _ _, hs⟩
        · intro k vals act wx hk h hs
          have e1 : act.eval (.tmp 1) = .int .i64 (K : Int) := h.old 1 (by kernel_rfl)
          clear h
          refine gives_by rfl act.eval rfl ?_
          generalize act.eval = ρ at *
          intro hf hc
          go_simp
          exact ⟨rfl, Only.refl _ _, hs⟩
        · intro k vals act wx hk h hs
          obtain ⟨v25, e25, f25⟩ := h.f 6 25 (by kernel_rfl) rfl
          obtain rfl : v25 = .int .i64 (K : Int) := f25
          clear h
          refine gives_by rfl act.eval rfl ?_
          generalize act.eval = ρ at *
          intro hf hc
          go_simp
          rw [IntWalk.i64_in _ (by omega)]
          exact ⟨rfl, Only.refl _ _, hs⟩
        · intro k vals act wx hk h hs
          obtain ⟨v24, e24, f24⟩ := h.f 5 24 (by kernel_rfl) rfl
          obtain rfl : v24 = .slice ka nk kc := f24
          obtain ⟨v26, e26, f26⟩ := h.f 7 26 (by kernel_rfl) rfl
          obtain rfl : v26 = .int .i64 (K + 1 : Int) := f26
          clear h
          have hlo := HLO.out wx
          refine gives_by rfl act.eval rfl ?_
          generalize act.eval = ρ at *
          intro hf hc
          go_simp
          exact ⟨rfl, Only.refl _ _, hs⟩
        · intro k vals act wx hk h hs
          obtain ⟨v22, e22, f22⟩ := h.f 3 22 (by kernel_rfl) rfl
          obtain rfl : v22 = .slice ka K kc := f22
          obtain ⟨v27, e27, f27⟩ := h.f 8 27 (by kernel_rfl) rfl
          obtain rfl : v27 = .slice ba bn bc := f27
          clear h
          obtain ⟨hbw, hAx, hsz⟩ := CgS.any hk hs
          refine gives_of_run rfl (exec_build2 106 2 (.tmp 22) (.tmp 27) rfl _ _ _ e22 e27 (buildK2 wx ka ba K bn kc bc)) ?_
          have hon : Only (fun _ => False) wx (wx.alloc (.cells #[.slice ka K kc, .slice ba bn bc] 23)) := (Only.refl _ wx).alloc _
          exact ⟨⟨wx.heap.size, rfl, hsz, Blk.new wx _ [.slice ka K kc, .slice ba bn bc]⟩, hon, hs.keep hk hon⟩
        · intro k vals act wx hk h hs
          obtain ⟨v28, e28, f28⟩ := h.f 9 28 (by kernel_rfl) rfl
          obtain ⟨g28, rfl, hg28, B28⟩ := f28
          clear h
          refine gives_by rfl act.eval rfl ?_
          generalize act.eval = ρ at *
          intro hf hc
          go_simp
          obtain ⟨hbw, hAx, hsz⟩ := CgS.any hk hs
          refine (HCK.out wx g28 hbw B28).mono ?_
          rintro e w' ⟨r, N, c, he, ho, hb'⟩
          exact ⟨_, he, ⟨r, N, c, rfl, own_le' ho hsz⟩, Only.of_below _ hb', hs.keep hk (Only.of_below _ hb')⟩
        · intro k vals act wx hk h hs
          have e2 : act.eval (.tmp 2) = .pointer (some ⟨w.heap.size, 0, none⟩) := h.old 2 (by kernel_rfl)
          clear h
          refine gives_by rfl act.eval rfl ?_
          generalize act.eval = ρ at *
          intro hf hc
          go_simp
          exact ⟨rfl, Only.refl _ _, hs⟩
        · intro k vals act wx hk h hs
          obtain ⟨v30, e30, f30⟩ := h.f 11 30 (by kernel_rfl) rfl
          obtain rfl : v30 = .pointer (some ⟨w.heap.size, 3, none⟩) := f30
          clear h
          obtain ⟨hbw, hAx, hsz⟩ := CgS.any hk hs
          obtain ⟨⟨x0, x1, x2, x3⟩, _⟩ := node_cells hAx
          refine gives_by rfl act.eval rfl ?_
          generalize act.eval = ρ at *
          intro hf hc
          go_simp
          exact ⟨rfl, Only.refl _ _, hs⟩
        · intro k vals act wx hk h hs
          have e1 : act.eval (.tmp 1) = .int .i64 (K : Int) := h.old 1 (by kernel_rfl)
          clear h
          refine gives_by rfl act.eval rfl ?_
          generalize act.eval = ρ at *
          intro hf hc
          go_simp
          exact ⟨rfl, Only.refl _ _, hs⟩
        · intro k vals act wx hk h hs
          obtain ⟨v32, e32, f32⟩ := h.f 13 32 (by kernel_rfl) rfl
          obtain rfl : v32 = .int .i64 (K : Int) := f32
          clear h
          refine gives_by rfl act.eval rfl ?_
          generalize act.eval = ρ at *
          intro hf hc
          go_simp
          rw [IntWalk.i64_in _ (by omega)]
          exact ⟨rfl, Only.refl _ _, hs⟩
        · intro k vals act wx hk h hs
          obtain ⟨v31, e31, f31⟩ := h.f 12 31 (by kernel_rfl) rfl
          obtain rfl : v31 = .slice ca nc cc := f31
          obtain ⟨v33, e33, f33⟩ := h.f 14 33 (by kernel_rfl) rfl
          obtain rfl : v33 = .int .i64 (K + 1 : Int) := f33
          clear h
          have hct := HCI0.out wx
          refine gives_by rfl act.eval rfl ?_
          generalize act.eval = ρ at *
          intro hf hc
          go_simp
          exact ⟨rfl, Only.refl _ _, hs⟩
        · intro k vals act wx hk h hs
          have e2 : act.eval (.tmp 2) = .pointer (some ⟨w.heap.size, 0, none⟩) := h.old 2 (by kernel_rfl)
          clear h
          refine gives_by rfl act.eval rfl ?_
          generalize act.eval = ρ at *
          intro hf hc
          go_simp
          exact ⟨rfl, Only.refl _ _, hs⟩
        · intro k vals act wx hk h hs
          obtain ⟨v35, e35, f35⟩ := h.f 16 35 (by kernel_rfl) rfl
          obtain rfl : v35 = .pointer (some ⟨w.heap.size, 3, none⟩) := f35
          clear h
          obtain ⟨hbw, hAx, hsz⟩ := CgS.any hk hs
          obtain ⟨⟨x0, x1, x2, x3⟩, _⟩ := node_cells hAx
          refine gives_by rfl act.eval rfl ?_
          generalize act.eval = ρ at *
          intro hf hc
          go_simp
          exact ⟨rfl, Only.refl _ _, hs⟩
        · intro k vals act wx hk h hs
          have e1 : act.eval (.tmp 1) = .int .i64 (K : Int) := h.old 1 (by kernel_rfl)
          clear h
          refine gives_by rfl act.eval rfl ?_
          generalize act.eval = ρ at *
          intro hf hc
          go_simp
          exact ⟨rfl, Only.refl _ _, hs⟩
        · intro k vals act wx hk h hs
          obtain ⟨v37, e37, f37⟩ := h.f 18 37 (by kernel_rfl) rfl
          obtain rfl : v37 = .int .i64 (K : Int) := f37
          clear h
          refine gives_by rfl act.eval rfl ?_
          generalize act.eval = ρ at *
          intro hf hc
          go_simp
          rw [IntWalk.i64_in _ (by omega)]
          exact ⟨rfl, Only.refl _ _, hs⟩
        · intro k vals act wx hk h hs
          obtain ⟨v36, e36, f36⟩ := h.f 17 36 (by kernel_rfl) rfl
          obtain rfl : v36 = .slice ca nc cc := f36
          obtain ⟨v38, e38, f38⟩ := h.f 19 38 (by kernel_rfl) rfl
          obtain rfl : v38 = .int .i64 (K + 2 : Int) := f38
          clear h
          have hlo := HLI.out wx
          refine gives_by rfl act.eval rfl ?_
          generalize act.eval = ρ at *
          intro hf hc
          go_simp
          exact ⟨rfl, Only.refl _ _, hs⟩
        · intro k vals act wx hk h hs
          obtain ⟨v34, e34, f34⟩ := h.f 15 34 (by kernel_rfl) rfl
          obtain rfl : v34 = .slice ca (K + 1) cc := f34
          obtain ⟨v39, e39, f39⟩ := h.f 20 39 (by kernel_rfl) rfl
          obtain rfl : v39 = .slice da dn dc := f39
          clear h
          obtain ⟨hbw, hAx, hsz⟩ := CgS.any hk hs
          refine gives_of_run rfl (exec_build2 108 2 (.tmp 34) (.tmp 39) rfl _ _ _ e34 e39 (buildI2 wx ca da (K + 1) dn cc dc)) ?_
          have hon : Only (fun _ => False) wx (wx.alloc (.cells #[.slice ca (K + 1) cc, .slice da dn dc] 24)) := (Only.refl _ wx).alloc _
          exact ⟨⟨wx.heap.size, rfl, hsz, Blk.new wx _ [.slice ca (K + 1) cc, .slice da dn dc]⟩, hon, hs.keep hk hon⟩
        · intro k vals act wx hk h hs
          obtain ⟨v40, e40, f40⟩ := h.f 21 40 (by kernel_rfl) rfl
          obtain ⟨g40, rfl, hg40, B40⟩ := f40
          clear h
          refine gives_by rfl act.eval rfl ?_
          generalize act.eval = ρ at *
          intro hf hc
          go_simp
          obtain ⟨hbw, hAx, hsz⟩ := CgS.any hk hs
          refine (HCI.out wx g40 hbw B40).mono ?_
          rintro e w' ⟨r, N, c, he, ho, hb'⟩
          exact ⟨_, he, ⟨r, N, c, rfl, own_le' ho hsz⟩, Only.of_below _ hb', hs.keep hk (Only.of_below _ hb')⟩
        · intro k vals act wx hk h hs
          obtain ⟨v29, e29, f29⟩ := h.f 10 29 (by kernel_rfl) rfl
          obtain ⟨a29, n29, c29, rfl, O29⟩ := f29
          obtain ⟨v41, e41, f41⟩ := h.f 22 41 (by kernel_rfl) rfl
          obtain ⟨a41, n41, c41, rfl, O41⟩ := f41
          clear h
          refine gives_by rfl act.eval rfl ?_
          generalize act.eval = ρ at *
          intro hf hc
          go_simp
          exact ⟨⟨a29, n29, c29, a41, n41, c41, rfl, O29, O41⟩, Only.refl _ _, hs⟩
        · intro k vals act wx hk h hs
          obtain ⟨v42, e42, f42⟩ := h.f 23 42 (by kernel_rfl) rfl
          obtain ⟨a42, n42, c42, a42', n42', c42', rfl, O42, O42'⟩ := f42
          clear h
          refine gives_by rfl act.eval rfl ?_
          generalize act.eval = ρ at *
          intro hf hc
          go_simp
          obtain ⟨hbw, hAx, hsz⟩ := CgS.any hk hs
          refine (owned_tup (HND.out wx _ _ _ _ _ _ hbw O42 O42') hsz).mono ?_
          rintro e w' ⟨u, he, ht, hb'⟩
          exact ⟨u, he, ht, Only.of_below _ hb', hs.keep hk (Only.of_below _ hb')⟩
        · intro k vals act wx hk h hs
          obtain ⟨v43, e43, f43⟩ := h.f 24 43 (by kernel_rfl) rfl
          obtain ⟨l43, p43, np43, pc43, k43, nk43, kc43, q43, nq43, qc43, rfl, N43⟩ := f43
          clear h
          refine gives_by rfl act.eval rfl ?_
          generalize act.eval = ρ at *
          intro hf hc
          go_simp
          exact ⟨⟨l43, p43, np43, pc43, k43, nk43, kc43, q43, nq43, qc43, rfl, N43⟩, Only.refl _ _, hs⟩
        · intro k vals act wx hk h hs
          obtain ⟨v43, e43, f43⟩ := h.f 24 43 (by kernel_rfl) rfl
          obtain ⟨l43, p43, np43, pc43, k43, nk43, kc43, q43, nq43, qc43, rfl, N43⟩ := f43
          clear h
          refine gives_by rfl act.eval rfl ?_
          generalize act.eval = ρ at *
          intro hf hc
          go_simp
          exact ⟨rfl, Only.refl _ _, hs⟩
        · intro vals act wx h hs
          have e4 : act.eval (.tmp 4) = .pointer (some ⟨w.heap.size + 1, 0, none⟩) := h.old 4 (by kernel_rfl)
          obtain ⟨v44, e44, f44⟩ := h.f 25 44 (by kernel_rfl) rfl
          obtain ⟨l44, p44, np44, pc44, k44, nk44, kc44, q44, nq44, qc44, rfl, N44⟩ := f44
          clear h
          have hj : CgB w [.bool false, .slice pa np pc, .slice ka nk kc, .slice ca nc cc] zeroC wx := hs
          obtain ⟨⟨d0, d1', d2, d3⟩, k0, k1, k2, k3⟩ := node_cells hj.2.2
          have ho := laidN_only wx (w.heap.size + 1) (.bool l44) (.slice p44 np44 pc44) (.slice k44 nk44 kc44) (.slice q44 nq44 qc44)
          have hfin : CgS w [.bool false, .slice pa np pc, .slice ka nk kc, .slice ca nc cc] (ownN DN) (ownE DN) 28 1 (updV vals 27 undef) (laidN wx (w.heap.size + 1) (.bool l44) (.slice p44 np44 pc44) (.slice k44 nk44 kc44) (.slice q44 nq44 qc44)) := ⟨l44, p44, np44, pc44, k44, nk44, kc44, q44, nq44, qc44, ⟨hj.1.trans (ho.below hj.1.size (fun j hh e => by omega)), hj.2.1.only ho (by omega), laidN_blk hj.2.2 _ _ _ _⟩, N44.only ho (fun j hh => by omega)⟩
          clear hs hj N44
          refine gives_by rfl act.eval rfl ?_
          generalize act.eval = ρ at *
          intro hf hc
          go_simp
          exact ⟨ho, hfin⟩
        · intro vals act wx h hs
          obtain ⟨v45, e45, f45⟩ := h.f 26 45 (by kernel_rfl) rfl
          obtain rfl : v45 = .int .i64 (ownE DN) := f45
          clear h
          have hj : CgS w [.bool false, .slice pa np pc, .slice ka nk kc, .slice ca nc cc] (ownN DN) (ownE DN) 28 1 vals wx := hs
          refine gives_by rfl act.eval rfl ?_
          generalize act.eval = ρ at *
          intro hf hc
          go_simp
          exact ⟨Only.refl _ _, ⟨hj, rfl⟩⟩
      · intro vals w8 hv hs
        obtain ⟨⟨l8, p8, n8, c8, k8, nk8, kc8, q8, nq8, qc8, hj, hn⟩, h19⟩ : (∃ l9 p9 n9 c9 k9 m9 d9 q9 r9 s9, CgB w [.bool false, .slice pa np pc, .slice ka nk kc, .slice ca nc cc] [.bool l9, .slice p9 n9 c9, .slice k9 m9 d9, .slice q9 r9 s9] w8 ∧ NdN w8 (w.heap.size + 2) (.agg #[.bool l9, .slice p9 n9 c9, .slice k9 m9 d9, .slice q9 r9 s9]) (ownN DN)) ∧ vals 28 = .int .i64 (ownE DN) := hs
        have HJ8 := hide hj
        have HN8 := hide hn
        clear hv hj hn
        simp only [putAll, Act.put, List.setIfInBounds_toArray, List.set_cons_zero, List.set_cons_succ, Nat.zero_add, Nat.reduceAdd, h19]
        (try go_wp2)
        (try simp only [Exit.inBlock, Exit.then])
        refine bodyPost_ret (ret_node1 rfl _ _ (w.heap.size + 1) _ _ _ _ _ rfl rfl HJ8.out.2.2) rfl ?_
        exact ⟨_, rfl, HN8.out.le (by omega), HJ8.out.1⟩
    | false =>
      rw [hPB] at HNN HEE
      simp only [Bool.false_eq_true, if_false] at HNN HEE
      rw [HNN.out, HEE.out]
      clear HNN HEE
      go_enter Try.func39, Try.ntmps39
      go_wp2_with (first
        | (go_at_call 68; refine (HM.out w1 HG1.out.1).mono ?_; rintro e w2 ⟨rfl, hb2⟩; have HG2 := hide (HG1.out.grow hb2); (try clear z0 z1 z2 z3); (try clear d0 d1 d2 d3 k0 k1 k2 k3); obtain ⟨⟨z0, z1, z2, z3⟩, _⟩ := node_cells HG2.out.2.1; obtain ⟨⟨d0, d1, d2, d3⟩, k0, k1, k2, k3⟩ := node_cells HG2.out.2.2; clear HM hb2)
        | (go_at_call 76; refine (isPlace_any w2 _ _).mono ?_; rintro e w3 ⟨rfl, hw⟩; subst w3; rw [hPB]))
      (try simp only [Exit.inBlock, Exit.then])
      refine bodyPost_ret (ret_node1 rfl _ _ (w.heap.size + 1) _ _ _ _ _ rfl rfl (laidN_blk HG2.out.2.2 _ _ _ _)) rfl ?_
      exact cg_no HG2.out _ _ _ _ _ rfl

end Go.Proofs.Ytoamdbjailpgdaa
/- What the document's changes of a node hold while rows are put together, in whatever order: rows, a literal, a box. No package's function. -/
namespace Go.Proofs.Ytoamdbjailpgdaa
set_option maxRecDepth 20000
open Go.RowKit
set_option linter.unusedVariables false
set_option linter.unusedSimpArgs false
set_option maxRecDepth 100000

abbrev upD (D : Nat → Bool) (i : Nat) : Nat → Bool := fun j => if j = i then true else D j
/-- a row of the call's own -/
def rowF (B : Nat) (e : TypeId) (m : Nat) (cs : List Value) (v : Value) (W : World) : Prop := ∃ a n c, v = .slice a n c ∧ n ≤ 3000 ∧ W.ownsRow B e m (.slice a n c) n cs
section
variable {B m : Nat} {e : TypeId} {cs c1 c2 : List Value} {v : Value} {W W' : World} {o1 o2 i : Nat} {D : Nat → Bool} {vals : Nat → Value}
theorem rowF.keep (h : rowF B e m cs v W) (ho : Only (fun _ => False) W W') : rowF B e m cs v W' := by
  obtain ⟨a, n, c, h1, h2, h3⟩ := h
  exact ⟨a, n, c, h1, h2, ownsRow_only h3 ho (fun _ _ h => h)⟩
theorem rowF.other {e' : TypeId} {m' n' : Nat} {u : Value} {ys : List Value} (h : rowF B e m cs v W) (h' : W.ownsRow B e' m' u n' ys) (hne : e ≠ e') (ho : Only (fun j => u.ownBlock = some j) W W') : rowF B e m cs v W' := by
  obtain ⟨a, n, c, h1, h2, h3⟩ := h
  exact ⟨a, n, c, h1, h2, ownsRow_only h3 ho (fun j hj => rows_ne h3 h' hne hj)⟩
theorem rowF.box {b : Nat} {X : List Value} (h : rowF B e m cs v W) (hb : Blk W b 26 X) (hne : e ≠ 26) (ho : Only (· = b) W W') : rowF B e m cs v W' := by
  obtain ⟨a, n, c, h1, h2, h3⟩ := h
  exact ⟨a, n, c, h1, h2, ownsRow_only h3 ho (fun j hj e => row_not_blk h3 hb hne (e ▸ hj))⟩

/-- a row that is put together of two: how far it is -/
def row2 (B : Nat) (e : TypeId) (m o1 : Nat) (c1 : List Value) (o2 : Nat) (c2 : List Value) (D : Nat → Bool) (vals : Nat → Value) (W : World) : Prop := (D o2 = true → rowF B e m c2 (vals o2) W) ∧ (D o2 = false → D o1 = true → rowF B e m c1 (vals o1) W)
theorem row2.map (h : row2 B e m o1 c1 o2 c2 D vals W) (f : ∀ cs v, rowF B e m cs v W → rowF B e m cs v W') : row2 B e m o1 c1 o2 c2 D vals W' := ⟨fun h2 => f _ _ (h.1 h2), fun h2 h1 => f _ _ (h.2 h2 h1)⟩
theorem row2.ne (h : row2 B e m o1 c1 o2 c2 D vals W) (h1 : o1 ≠ i) (h2 : o2 ≠ i) : row2 B e m o1 c1 o2 c2 (upD D i) (updV vals i v) W := by
  unfold row2 upD updV
  simp only [if_neg h1, if_neg h2]
  exact h
theorem row2.first (hn : o2 ≠ o1) (hd : D o2 = false) (h : rowF B e m c1 v W) : row2 B e m o1 c1 o2 c2 (upD D o1) (updV vals o1 v) W := by
  unfold row2 upD updV
  simp only [if_neg hn, if_true, hd]
  exact ⟨fun h => (by cases h), fun _ _ => h⟩
theorem row2.second (h : rowF B e m c2 v W) : row2 B e m o1 c1 o2 c2 (upD D o2) (updV vals o2 v) W := by
  unfold row2 upD updV
  simp only [if_true]
  exact ⟨fun _ => h, fun h => by cases h⟩
theorem row2.none : row2 B e m o1 c1 o2 c2 (fun _ => false) vals W := ⟨fun h => (by cases h), fun _ h => by cases h⟩
theorem row2.ind {D' : Nat → Bool} {vals' : Nat → Value} (h : row2 B e m o1 c1 o2 c2 D vals W) (h1 : D o1 = D' o1 ∧ vals o1 = vals' o1) (h2 : D o2 = D' o2 ∧ vals o2 = vals' o2) : row2 B e m o1 c1 o2 c2 D' vals' W := by
  unfold row2 at h ⊢
  rw [← h1.1, ← h1.2, ← h2.1, ← h2.2]
  exact h
end
/-- a literal of one element, till it is used -/
def litF (B : Nat) (e : TypeId) (ol o2 : Nat) (x : Value) (D : Nat → Bool) (vals : Nat → Value) (W : World) : Prop := D o2 = false → D ol = true → ∃ g, vals ol = .slice (some ⟨g, 0, none⟩) 1 1 ∧ Blk W g e [x]
section
variable {B ol o2 i : Nat} {e : TypeId} {x v : Value} {W W' : World} {D : Nat → Bool} {vals : Nat → Value}
theorem litF.map (h : litF B e ol o2 x D vals W) (f : ∀ g, Blk W g e [x] → Blk W' g e [x]) : litF B e ol o2 x D vals W' := fun h2 h1 => by
  obtain ⟨g, a, b⟩ := h h2 h1
  exact ⟨g, a, f g b⟩
theorem litF.ne (h : litF B e ol o2 x D vals W) (h1 : ol ≠ i) (h2 : o2 ≠ i) : litF B e ol o2 x (upD D i) (updV vals i v) W := by
  unfold litF upD updV
  simp only [if_neg h1, if_neg h2]
  exact h
theorem litF.used : litF B e ol o2 x (upD D o2) (updV vals o2 v) W := fun h => by simp [upD] at h
theorem litF.made {g : Nat} (hB : Blk W g e [x]) : litF B e ol o2 x (upD D ol) (updV vals ol (.slice (some ⟨g, 0, none⟩) 1 1)) W := fun _ _ => ⟨g, updV_same _ _ _, hB⟩
theorem litF.none : litF B e ol o2 x (fun _ => false) vals W := fun _ h => by cases h
theorem litF.ind {D' : Nat → Bool} {vals' : Nat → Value} (h : litF B e ol o2 x D vals W) (h1 : D ol = D' ol ∧ vals ol = vals' ol) (h2 : D o2 = D' o2 ∧ vals o2 = vals' o2) : litF B e ol o2 x D' vals' W := by
  unfold litF at h ⊢
  rw [← h1.1, ← h1.2, ← h2.1]
  exact h
end
/-- a box that is made, and filled -/
def box2 (B oa os : Nat) (f : (Nat → Value) → List Value) (D : Nat → Bool) (vals : Nat → Value) (W : World) : Prop := D oa = true → ∃ b, vals oa = .pointer (some ⟨b, 0, none⟩) ∧ B ≤ b ∧ Blk W b 26 (if D os = true then f vals else zeroC)
section
variable {B oa os i : Nat} {f : (Nat → Value) → List Value} {v : Value} {W W' : World} {D : Nat → Bool} {vals : Nat → Value}
theorem box2.map (h : box2 B oa os f D vals W) (g : ∀ b X, Blk W b 26 X → Blk W' b 26 X) : box2 B oa os f D vals W' := fun h1 => by
  obtain ⟨b, a, c, d⟩ := h h1
  exact ⟨b, a, c, g _ _ d⟩
theorem box2.ne (h : box2 B oa os f D vals W) (h1 : oa ≠ i) (h2 : os ≠ i) (hd : D os = false) : box2 B oa os f (upD D i) (updV vals i v) W := by
  unfold box2 upD updV
  simp only [if_neg h1, if_neg h2, hd]
  unfold box2 at h
  rw [hd] at h
  exact h
theorem box2.made {b : Nat} (hn : os ≠ oa) (hd : D os = false) (hb : B ≤ b) (hB : Blk W b 26 zeroC) : box2 B oa os f (upD D oa) (updV vals oa (.pointer (some ⟨b, 0, none⟩))) W := by
  unfold box2 upD
  simp only [if_neg hn, hd]
  exact fun _ => ⟨b, updV_same _ _ _, hb, hB⟩
theorem box2.filled {b : Nat} (hn : oa ≠ os) (ha : vals oa = .pointer (some ⟨b, 0, none⟩)) (hb : B ≤ b) (hf : f (updV vals os v) = f vals) (hB : Blk W b 26 (f vals)) : box2 B oa os f (upD D os) (updV vals os v) W := by
  unfold box2 upD
  simp only [if_neg hn, if_true, updV_other _ _ hn, hf]
  exact fun _ => ⟨b, ha, hb, hB⟩
theorem box2.none : box2 B oa os f (fun _ => false) vals W := fun h => by cases h
theorem box2.ind {D' : Nat → Bool} {vals' : Nat → Value} (h : box2 B oa os f D vals W) (h1 : D oa = D' oa ∧ vals oa = vals' oa) (h2 : D os = D' os) (h3 : f vals = f vals') : box2 B oa os f D' vals' W := by
  unfold box2 at h ⊢
  rw [← h1.1, ← h1.2, ← h2, ← h3]
  exact h
end
/-- what is built of rows -/
def bldF (ob : Nat) (f : (Nat → Value) → List Value) (D : Nat → Bool) (vals : Nat → Value) : Prop := D ob = true → vals ob = .agg (f vals).toArray
theorem bldF.ne {ob i : Nat} {f : (Nat → Value) → List Value} {D : Nat → Bool} {vals : Nat → Value} {v : Value} (h : bldF ob f D vals) (h1 : ob ≠ i) (hf : f (updV vals i v) = f vals) : bldF ob f (upD D i) (updV vals i v) := by
  unfold bldF upD
  rw [if_neg h1, updV_other _ _ h1, hf]
  exact h
theorem bldF.not {ob i : Nat} {f : (Nat → Value) → List Value} {D : Nat → Bool} {vals : Nat → Value} {v : Value} (h1 : ob ≠ i) (hd : D ob = false) : bldF ob f (upD D i) (updV vals i v) := by
  unfold bldF upD
  rw [if_neg h1, hd]
  exact fun h => by cases h
theorem bldF.made {ob : Nat} {f : (Nat → Value) → List Value} {D : Nat → Bool} {vals : Nat → Value} {v : Value} (hv : v = .agg (f vals).toArray) (hf : f (updV vals ob v) = f vals) : bldF ob f (upD D ob) (updV vals ob v) := fun _ => by rw [updV_same, hf]; exact hv
theorem bldF.none {ob : Nat} {f : (Nat → Value) → List Value} {vals : Nat → Value} : bldF ob f (fun _ => false) vals := fun h => by cases h
theorem bldF.ind {ob : Nat} {f : (Nat → Value) → List Value} {D D' : Nat → Bool} {vals vals' : Nat → Value} (h : bldF ob f D vals) (h1 : D ob = D' ob ∧ vals ob = vals' ob) (h3 : f vals = f vals') : bldF ob f D' vals' := by
  unfold bldF at h ⊢
  rw [← h1.1, ← h1.2, ← h3]
  exact h

/-- the boxes ahead stay -/
theorem CgB.only {w W W' : World} {A ar : List Value} {S : Nat → Prop} (h : CgB w A ar W) (ho : Only S W W') (hS : ∀ j, S j → w.heap.size + 2 ≤ j) : CgB w A ar W' :=
  ⟨h.1.trans (ho.below h.1.size (fun j hj e => by have := hS j e; omega)), h.2.1.only ho (fun e => by have := hS _ e; omega), h.2.2.only ho (fun e => by have := hS _ e; omega)⟩
/-- 'append' of a row that is read to a row of one's own -/
theorem app_gen {t e : TypeId} {i0 : TypeInfo} {z : Value} {size bytes : Nat} (ht : Try.prog.underlying t = some (.slice e)) (hi : Try.prog.info? e = some i0) (hz : i0.zero = some z) (hs : i0.size = size) (hby : i0.bytes = bytes) (hzs : z.cells.size = size) (hpos : 0 < size) (hb64 : bytes ≤ 64)
    {B : Nat} {W : World} (v : Value) (n : Nat) (xs : List Value) (ho : W.ownsRow B e size v n xs) (hn : n ≤ 2000) (x : Value) (cs : List Value) (hr : RowR W size x cs) (hB : B ≤ W.heap.size) :
    ∃ v' w', (Builtin.append_ #[t, t] t #[v, x]).run Try.prog W = .ok v' w' ∧ rowF B e size (xs ++ cs) v' w' ∧ Only (fun j => v.ownBlock = some j) W w' := by
  obtain ⟨v', w', k, hr', hk, hk2, hl, ho', hg⟩ := append_row ht hi hz hs hby hzs hpos hb64 W B v n xs ho x cs hr (by omega) hB
  obtain ⟨a, c, rfl⟩ := own_form' ho'
  exact ⟨_, w', hr', ⟨a, n + k, c, rfl, by omega, ho'⟩, (Only.refl _ W).grown hg (fun k hk _ => hk)⟩
theorem appP {B : Nat} {W : World} (v : Value) (n : Nat) (xs : List Value) (ho : W.ownsRow B 36 2 v n xs) (hn : n ≤ 2000) (x : Value) (cs : List Value) (hr : RowR W 2 x cs) (hB : B ≤ W.heap.size) :
    ∃ v' w', (Builtin.append_ #[22, 22] 22 #[v, x]).run Try.prog W = .ok v' w' ∧ rowF B 36 2 (xs ++ cs) v' w' ∧ Only (fun j => v.ownBlock = some j) W w' := by
  obtain ⟨i0, hi, hz0, hz1, hz2⟩ := info_parts infoPair
  exact app_gen Try.underlying22 hi hz0 hz1 hz2 rfl (by decide) (by decide) v n xs ho hn x cs hr hB
theorem appK {B : Nat} {W : World} (v : Value) (n : Nat) (xs : List Value) (ho : W.ownsRow B 34 1 v n xs) (hn : n ≤ 2000) (x : Value) (cs : List Value) (hr : RowR W 1 x cs) (hB : B ≤ W.heap.size) :
    ∃ v' w', (Builtin.append_ #[23, 23] 23 #[v, x]).run Try.prog W = .ok v' w' ∧ rowF B 34 1 (xs ++ cs) v' w' ∧ Only (fun j => v.ownBlock = some j) W w' := by
  obtain ⟨i0, hi, hz0, hz1, hz2⟩ := info_parts infoRow
  exact app_gen Try.underlying23 hi hz0 hz1 hz2 rfl (by decide) (by decide) v n xs ho hn x cs hr hB
theorem appI {B : Nat} {W : World} (v : Value) (n : Nat) (xs : List Value) (ho : W.ownsRow B 3 1 v n xs) (hn : n ≤ 2000) (x : Value) (cs : List Value) (hr : RowR W 1 x cs) (hB : B ≤ W.heap.size) :
    ∃ v' w', (Builtin.append_ #[24, 24] 24 #[v, x]).run Try.prog W = .ok v' w' ∧ rowF B 3 1 (xs ++ cs) v' w' ∧ Only (fun j => v.ownBlock = some j) W w' := by
  obtain ⟨i0, hi, hz0, hz1, hz2⟩ := info_parts infoInt
  exact app_gen Try.underlying24 hi hz0 hz1 hz2 rfl (by decide) (by decide) v n xs ho hn x cs hr hB
theorem one_row {W : World} {g : Nat} {e : TypeId} {x : Value} (hB : Blk W g e [x]) (h1 : x.oneCell' = true) : RowR W 1 (.slice (some ⟨g, 0, none⟩) 1 1) [x] :=
  ⟨some ⟨g, 0, none⟩, 1, 1, rfl, by simp, by omega, fun h => (by cases h), fun b hb j u hj => (by
    obtain rfl := (Option.some.inj hb)
    rw [Addr.add_mid, Nat.zero_add, hB.cell]
    exact hj), fun u hu => (by simp at hu; subst hu; exact h1)⟩

/-- a row is put behind a row of the box at b, and the row into the box: how far it is -/
def ap2 (w : World) (A : List Value) (O : World → Prop) (e : TypeId) (m : Nat) (C X : List Value) (cur : Value) (n b : Nat) (f : Value → List Value) (d1 d2 : Bool) (v : Value) (W : World) : Prop :=
  CgB w A zeroC W ∧ O W ∧ (d1 = true → rowF (w.heap.size + 2) e m (C ++ X) v W) ∧ (d1 = false → W.ownsRow (w.heap.size + 2) e m cur n C) ∧ Blk W b 26 (if d2 = true then f v else f cur)
section
variable {w : World} {A C X : List Value} {O : World → Prop} {e : TypeId} {m n b : Nat} {cur v : Value} {f : Value → List Value} {d1 d2 : Bool} {W W' : World}
theorem ap2.box (h : ap2 w A O e m C X cur n b f d1 d2 v W) (hd : d2 = false) : Blk W b 26 (f cur) := by
  have := h.2.2.2.2
  rw [hd, if_neg Bool.false_ne_true] at this
  exact this
theorem ap2.app {v' : Value} (h : ap2 w A O e m C X cur n b f d1 d2 v W) (h1 : d1 = false) (h2 : d2 = false) (hne : e ≠ 26) (hrow : rowF (w.heap.size + 2) e m (C ++ X) v' W') (hon : Only (fun j => cur.ownBlock = some j) W W') (hO : O W → O W') : ap2 w A O e m C X cur n b f true d2 v' W' := by
  have hbx := h.box h2
  obtain ⟨hg, hot, r1, r2, hx⟩ := h
  have hr0 := r2 h1
  exact ⟨hg.only hon (fun j hj => (row_blk hr0 hj).1), hO hot, fun _ => hrow, fun h => (by cases h), by rw [if_neg (by rw [h2]; exact Bool.false_ne_true)]; exact hbx.only hon (fun e => row_not_blk hr0 hbx hne e)⟩
theorem ap2.put (p : Nat) (h : ap2 w A O e m C X cur n b f d1 d2 v W) (h1 : d1 = true) (h2 : d2 = false) (hne : e ≠ 26) (hb : w.heap.size + 2 ≤ b) (hf : (f cur).set p v = f v) (hO : ∀ W', Only (· = b) W W' → O W → O W') : ap2 w A O e m C X cur n b f d1 true v (W.setCell ⟨b, p, none⟩ v) := by
  have hbx := h.box h2
  obtain ⟨hg, hot, r1, r2, hx⟩ := h
  have ho8 : Only (· = b) W (W.setCell ⟨b, p, none⟩ v) := (Only.refl (· = b) W).setCell ⟨b, p, none⟩ _ (fun _ => rfl)
  refine ⟨hg.only ho8 (fun j hj => by subst hj; exact hb), hO _ ho8 hot, fun hd => (r1 hd).box hbx hne ho8, fun hd => (by rw [h1] at hd; cases hd), ?_⟩
  rw [if_pos rfl, ← hf]
  exact hbx.set p v
theorem ap2.start (hg : CgB w A zeroC W) (hot : O W) (ho : W.ownsRow (w.heap.size + 2) e m cur n C) (hx : Blk W b 26 (f cur)) : ap2 w A O e m C X cur n b f false false v W := ⟨hg, hot, fun h => (by cases h), fun _ => ho, by rw [if_neg Bool.false_ne_true]; exact hx⟩
end

end Go.Proofs.Ytoamdbjailpgdaa
