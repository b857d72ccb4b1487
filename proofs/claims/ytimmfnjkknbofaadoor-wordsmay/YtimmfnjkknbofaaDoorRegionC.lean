/- A region that draws its order, whose operations that turn the world wait for one another in a chain, near or far; the others are quiet: each hands on a value that is known ahead. No program. -/
import Derived.Test.YtimmfnjkknbofaaDoorRegionT
namespace Go.Proofs.YtimmfnjkknbofaaDoor
set_option maxRecDepth 20000
open Go.RowKit
set_option linter.unusedVariables false
set_option maxRecDepth 100000

section
variable {P : Program} {ops : Array Oper} {Q : Exit → Act → World → Prop}

def updV (vals : Nat → Value) (i : Nat) (v : Value) : Nat → Value := fun j => if j = i then v else vals j
theorem updV_same (vals : Nat → Value) (i : Nat) (v : Value) : updV vals i v i = v := if_pos rfl
theorem updV_other (vals : Nat → Value) {i j : Nat} (v : Value) (h : j ≠ i) : updV vals i v j = vals j := if_neg h

/-- each operation is quiet, or stands in the chain, once; each link waits for the one ahead -/
def linkB (ops : Array Oper) : List Nat → Bool
  | i :: k :: l => depB ops k i && linkB ops (k :: l)
  | _ => true
def chB (ops : Array Oper) (qs : List (Option Value)) (ch : List Nat) : Bool :=
  linkB ops ch && decide ch.Nodup && ((List.range ops.size).all fun i => match qs.getD i none with | some _ => !ch.contains i && decide (0 < ch.length) && depB ops (ch.getD (ch.length - 1) 0) i | none => ch.contains i) && ch.all fun i => decide (i < ops.size)

structure AtC (ops : Array Oper) (a0 : Act) (qs : List (Option Value)) (i : Nat) (vals : Nat → Value) (a : Act) : Prop where
  old : ∀ s, oldB ops i s = true → a.eval (.tmp s) = a0.eval (.tmp s)
  val : ∀ j d, gotB ops i j d = true → a.eval (.tmp d) = vals j
  tmp : ∀ j d, gotB ops i j d = true → a.tmps[d]? = some (vals j)
  quiet : ∀ j x, qs.getD j none = some x → vals j = x
theorem AtC.q {a0 : Act} {qs : List (Option Value)} {i : Nat} {vals : Nat → Value} {a : Act} (h : AtC ops a0 qs i vals a) (j d : Nat) {x : Value} (hg : gotB ops i j d = true) (hx : qs.getD j none = some x) : a.eval (.tmp d) = x := by
  rw [h.val j d hg, h.quiet j x hx]
theorem AtC.guard {a0 : Act} {qs : List (Option Value)} {i : Nat} {vals : Nat → Value} {a : Act} (h : AtC ops a0 qs i vals a) (j d : Nat) (hg : gotB ops i j d = true) (b : Bool) (hb : vals j = .bool b) : yielded ops a.tmps j = some b := by
  have hv := h.tmp j d hg
  have hd : (ops[j]?).bind (·.dst) = some d := by
    unfold gotB at hg
    rw [Bool.and_eq_true] at hg
    simpa using hg.2
  unfold yielded
  rw [hd]
  simp [hv, hb]

structure GoodC (ops : Array Oper) (a0 : Act) (qs : List (Option Value)) (ch : List Nat) (St : Nat → (Nat → Value) → World → Prop) (listed : Array Bool) (a : Act) (w : World) (vals : Nat → Value) (k : Nat) : Prop where
  defers : a.defers = a0.defers
  size : a.tmps.size = a0.tmps.size
  closed : ∀ i o, ops[i]? = some o → listed.getD i false = true → ∀ e ∈ o.after, Region.binds .any e = true → listed.getD e.on false = true
  old : ∀ s, (∀ j o, ops[j]? = some o → listed.getD j false = true → o.dst ≠ some s) → a.tmps[s]? = a0.tmps[s]?
  got : ∀ j o d, ops[j]? = some o → listed.getD j false = true → o.dst = some d → a.tmps[d]? = some (vals j)
  quiet : ∀ j x, qs.getD j none = some x → vals j = x
  le : k ≤ ch.length
  chain : ∀ m, m < ch.length → (listed.getD (ch.getD m 0) false = true ↔ m < k)
  st : St k vals w

/-- each operation's step -/
def StepsC (P : Program) (ops : Array Oper) (a0 : Act) (qs : List (Option Value)) (ch : List Nat) (St : Nat → (Nat → Value) → World → Prop) : Nat → List Oper → Prop
  | _, [] => True
  | i, o :: l => (match qs.getD i none with
      | some x => ∀ k vals a w, k < ch.length → AtC ops a0 qs i vals a → St k vals w → opGives P ops o a w fun v w' => v = x ∧ St k vals w'
      | none => ∀ vals a w, AtC ops a0 qs i vals a → St (ch.idxOf i) vals w → opGives P ops o a w fun v w' => St (ch.idxOf i + 1) (updV vals i v) w') ∧ StepsC P ops a0 qs ch St (i + 1) l

theorem stepsC_at {a0 : Act} {qs : List (Option Value)} {ch : List Nat} {St : Nat → (Nat → Value) → World → Prop} : ∀ (l : List Oper) (i k : Nat) (o : Oper), StepsC P ops a0 qs ch St i l → l[k]? = some o →
    (∀ x, qs.getD (i + k) none = some x → ∀ p vals a w, p < ch.length → AtC ops a0 qs (i + k) vals a → St p vals w → opGives P ops o a w fun v w' => v = x ∧ St p vals w') ∧
    (qs.getD (i + k) none = none → ∀ vals a w, AtC ops a0 qs (i + k) vals a → St (ch.idxOf (i + k)) vals w → opGives P ops o a w fun v w' => St (ch.idxOf (i + k) + 1) (updV vals (i + k) v) w')
  | [], _, k, o, _, hk => by simp at hk
  | o0 :: l, i, 0, o, h, hk => by
    obtain rfl : o0 = o := by simpa using hk
    have h1 := h.1
    rw [Nat.add_zero]
    cases hq : qs.getD i none with
    | some y => rw [hq] at h1; exact ⟨fun x hx => (by cases hx; exact h1), fun hx => (by cases hx)⟩
    | none => rw [hq] at h1; exact ⟨fun x hx => (by cases hx), fun _ => h1⟩
  | o0 :: l, i, k + 1, o, h, hk => by
    have := stepsC_at l (i + 1) k o h.2 (by simpa using hk)
    rw [show i + 1 + k = i + (k + 1) by omega] at this
    exact this

theorem link_at : ∀ (ch : List Nat), linkB ops ch = true → ∀ m, m + 1 < ch.length → depB ops (ch.getD (m + 1) 0) (ch.getD m 0) = true
  | [], _, m, h => by simp at h
  | [_], _, m, h => by simp at h
  | i :: k :: l, hl, 0, _ => by
    rw [linkB, Bool.and_eq_true] at hl
    simpa using hl.1
  | i :: k :: l, hl, m + 1, h => by
    rw [linkB, Bool.and_eq_true] at hl
    have := link_at (k :: l) hl.2 m (by simpa using h)
    simpa using this
theorem idxOf_getD (ch : List Nat) (hn : ch.Nodup) (m : Nat) (hm : m < ch.length) : ch.idxOf (ch.getD m 0) = m := by
  have : ch.getD m 0 = ch[m] := by simp [List.getD, hm]
  rw [this]
  exact List.Nodup.idxOf_getElem hn m hm

theorem goodC_put {a0 a : Act} {w w' : World} {qs : List (Option Value)} {ch : List Nat} {St : Nat → (Nat → Value) → World → Prop} {n : Nat} (hap : apartB ops n = true) (hn : n = a0.tmps.size) {listed : Array Bool} (hls : listed.size = ops.size) {vals vals' : Nat → Value} {k k' : Nat}
    (g : GoodC ops a0 qs ch St listed a w vals k) {i : Nat} {o : Oper} (ho : ops[i]? = some o) (hi : i ∈ Region.ready .any ops listed) {v : Value} (hv : vals' i = v) (hoth : ∀ j, j ≠ i → vals' j = vals j) (hq : ∀ j x, qs.getD j none = some x → vals' j = x) (hle : k' ≤ ch.length)
    (hch : ∀ m, m < ch.length → ((listed.setIfInBounds i true).getD (ch.getD m 0) false = true ↔ m < k')) (hst : St k' vals' w') :
    GoodC ops a0 qs ch St (listed.setIfInBounds i true) (a.put o.dst v) w' vals' k' := by
  obtain ⟨hun, o', ho', hall⟩ := mem_ready.1 hi
  obtain rfl : o = o' := Option.some.inj (ho.symm.trans ho')
  have hil := (Array.getElem?_eq_some_iff.1 ho).1
  have hset : ∀ j, (listed.setIfInBounds i true).getD j false = true ↔ j = i ∨ listed.getD j false = true := by
    intro j
    by_cases hji : j = i
    · subst hji; simp [Array.getD_eq_getD_getElem?, hls, hil]
    · rw [getD_set_ne false (Ne.symm hji)]; simp [hji]
  refine ⟨?_, ?_, fun j oj hj hl e he hbd => ?_, fun s hs => ?_, fun j oj d hj hl hd => ?_, hq, hle, hch, hst⟩
  · rw [← g.defers]; cases o.dst <;> rfl
  · rw [← g.size]; cases o.dst <;> simp [Act.put]
  · rcases (hset j).1 hl with rfl | hl'
    · obtain rfl : o = oj := Option.some.inj (ho.symm.trans hj)
      exact (hset _).2 (.inr (hall e he hbd))
    · exact (hset _).2 (.inr (g.closed j oj hj hl' e he hbd))
  · rw [put_other s (hs i o ho ((hset i).2 (.inl rfl)))]
    exact g.old s fun j oj hj hl => hs j oj hj ((hset j).2 (.inr hl))
  · rcases (hset j).1 hl with rfl | hl'
    · obtain rfl : o = oj := Option.some.inj (ho.symm.trans hj)
      have hlt := apart_lt hap ho hd
      rw [hd, hv]
      simp [Act.put, g.size, ← hn, hlt]
    · have hji : j ≠ i := by
        rintro rfl
        have : listed.getD j false = false := by
          simpa [Array.getD_eq_getD_getElem?, hls, hil] using hun
        rw [this] at hl'; cases hl'
      rw [put_other d (apart_spec hap hj ho hd hji), hoth j hji]
      exact g.got j oj d hj hl' hd

theorem readyC_at {a0 a : Act} {w : World} {qs : List (Option Value)} {ch : List Nat} {St : Nat → (Nat → Value) → World → Prop} {listed : Array Bool} {vals : Nat → Value} {k : Nat} (g : GoodC ops a0 qs ch St listed a w vals k) {i : Nat} (hi : i ∈ Region.ready .any ops listed) : AtC ops a0 qs i vals a := by
  obtain ⟨hun, o, ho, hall⟩ := mem_ready.1 hi
  have hil := (Array.getElem?_eq_some_iff.1 ho).1
  have hunf : listed.getD i false = false := by
    by_cases h : i < listed.size
    · simpa [Array.getD_eq_getD_getElem?, h] using hun
    · simp [Array.getD_eq_getD_getElem?, h]
  have htmp : ∀ j d, gotB ops i j d = true → a.tmps[d]? = some (vals j) := fun j d hg => by
    unfold gotB at hg
    simp only [ho, Bool.and_eq_true, List.any_eq_true, beq_iff_eq] at hg
    obtain ⟨⟨e, he, hb, hon⟩, hd⟩ := hg
    have hl := hall e (by simpa using he) hb
    rw [hon] at hl
    obtain ⟨oj, hj, hdj⟩ := Option.bind_eq_some_iff.1 hd
    exact g.got j oj d hj hl hdj
  refine ⟨fun s hs => ?_, fun j d hg => ?_, htmp, g.quiet⟩
  · have := g.old s (fun j oj hj hl hd => by
      have hjl := (Array.getElem?_eq_some_iff.1 hj).1
      unfold oldB at hs
      rw [List.all_eq_true] at hs
      have h1 := hs j (by simpa using hjl)
      simp only [hj, hd, bne_self_eq_false, Bool.false_or, Bool.or_eq_true, beq_iff_eq, List.any_eq_true, Bool.and_eq_true] at h1
      rcases h1 with rfl | ⟨e, he, hb, hon⟩
      · rw [hunf] at hl; cases hl
      · have := g.closed j oj hj hl e (by simpa using he) hb
        rw [hon, hunf] at this; cases this)
    simp [Act.eval, Array.getD_eq_getD_getElem?, this]
  · simp [Act.eval, Array.getD_eq_getD_getElem?, htmp j d hg]

theorem goodC_all {a0 a : Act} {w : World} {qs : List (Option Value)} {ch : List Nat} {St : Nat → (Nat → Value) → World → Prop} {n : Nat} (hap : apartB ops n = true) (hn : n = a0.tmps.size) {listed : Array Bool} {vals : Nat → Value} {k : Nat} (g : GoodC ops a0 qs ch St listed a w vals k) (hall : ∀ i, i < ops.size → listed.getD i false = true) :
    a = putAll ops.toList vals 0 a0 := by
  have he : a.tmps = (putAll ops.toList vals 0 a0).tmps := by
    apply Array.ext_getElem?
    intro s
    by_cases hs : ∃ (j : Nat) (o : Oper), ops[j]? = some o ∧ o.dst = some s
    · obtain ⟨j, o, hj, hd⟩ := hs
      have hjl := (Array.getElem?_eq_some_iff.1 hj).1
      have hv := g.got j o s hj (hall j hjl) hd
      rw [putAll_at ops.toList _ 0 a0 s j o (by simpa using hj) hd (by rw [← hn]; exact apart_lt hap hj hd) (fun k' o' hk' hne => apart_spec hap hj (by simpa using hk') hd (Ne.symm hne))]
      rw [hv, Nat.zero_add]
    · rw [putAll_other _ _ _ _ _ (fun k (o : Oper) hk hd => hs ⟨k, o, by simpa using hk, hd⟩)]
      exact g.old s fun j (o : Oper) hj _ hd => hs ⟨j, o, hj, hd⟩
  have hd : a.defers = (putAll ops.toList vals 0 a0).defers := by rw [putAll_defers]; exact g.defers
  cases a
  simp only at he hd
  rw [Act.mk.injEq]
  exact ⟨he, hd⟩

theorem chain_any {a0 : Act} {qs : List (Option Value)} {ch : List Nat} {St : Nat → (Nat → Value) → World → Prop} {n : Nat} (hap : apartB ops n = true) (hn : n = a0.tmps.size) (hbk : backB ops = true) (hcb : chB ops qs ch = true)
    (steps : StepsC P ops a0 qs ch St 0 ops.toList)
    (fin : ∀ vals w, (∀ j x, qs.getD j none = some x → vals j = x) → St ch.length vals w → Q .normal (putAll ops.toList vals 0 a0) w) :
    ∀ (fuel : Nat) (listed : Array Bool) (a : Act) (w : World) (vals : Nat → Value) (k : Nat), listed.size = ops.size → cnt ops.size (fun i => !listed.getD i true) = fuel → GoodC ops a0 qs ch St listed a w vals k → wpAny P .any ops Q fuel listed a w := by
  unfold chB at hcb
  rw [Bool.and_eq_true, Bool.and_eq_true, Bool.and_eq_true, decide_eq_true_iff] at hcb
  obtain ⟨⟨⟨hlink, hnod⟩, hpart⟩, hlt⟩ := hcb
  have done : ∀ (listed : Array Bool) (a : Act) (w : World) (vals : Nat → Value) (k : Nat), listed.size = ops.size → (∀ i, i < ops.size → listed.getD i true = true) → GoodC ops a0 qs ch St listed a w vals k → Q .normal a w := by
    intro listed a w vals k hls hall g
    have hall' : ∀ i, i < ops.size → listed.getD i false = true := fun i hi => by
      have := hall i hi
      simpa [Array.getD_eq_getD_getElem?, hls, hi] using this
    have hk : k = ch.length := by
      rcases Nat.lt_or_ge k ch.length with h | h
      · have := (g.chain k h).1 (hall' _ (by
          have := List.all_eq_true.1 hlt (ch.getD k 0) (by simp only [List.getD, List.getElem?_eq_getElem h]; exact List.getElem_mem h)
          simpa using this))
        omega
      · have := g.le; omega
    rw [goodC_all hap hn g hall']
    exact fin vals w g.quiet (hk ▸ g.st)
  intro fuel
  induction fuel with
  | zero =>
    intro listed a w vals k hls hc g
    have hall : ∀ i, i < ops.size → listed.getD i true = true := fun i hi => by
      have := cnt_zero _ _ hc i hi
      simpa using this
    refine ⟨?_, done listed a w vals k hls hall g⟩
    apply List.eq_nil_iff_forall_not_mem.2
    intro i hi
    obtain ⟨hun, o, ho, _⟩ := mem_ready.1 hi
    have := hall i (Array.getElem?_eq_some_iff.1 ho).1
    rw [this] at hun; cases hun
  | succ fuel ih =>
    intro listed a w vals k hls hc g
    refine ⟨fun h => done listed a w vals k hls (fun i hi => ?_) g, fun i hi => ?_⟩
    · induction i using Nat.strongRecOn with
      | ind i ihi =>
        cases hl : listed.getD i true with
        | true => rfl
        | false =>
          exfalso
          have ho : ops[i]? = some ops[i] := Array.getElem?_eq_getElem hi
          have : i ∈ Region.ready .any ops listed := mem_ready.2 ⟨hl, _, ho, fun e he hb => by
            have hlt := back_spec hbk ho he hb
            have := ihi e.on hlt (by omega)
            simpa [Array.getD_eq_getD_getElem?, hls, show e.on < ops.size by omega] using this⟩
          rw [h] at this
          cases this
    · obtain ⟨hun, o, ho, hall⟩ := mem_ready.1 hi
      have hil := (Array.getElem?_eq_some_iff.1 ho).1
      have hat := readyC_at g hi
      have hs := stepsC_at ops.toList 0 i o steps (by simpa using ho)
      rw [Nat.zero_add] at hs
      have hcnt := cnt_less ops.size (fun i => !listed.getD i true) (fun j => !(listed.setIfInBounds i true).getD j true) i hil (by simp [hun]) (by simp [Array.getD_eq_getD_getElem?, hls, hil]) (fun j hj => by rw [getD_set_ne true (Ne.symm hj)])
      have hunf : listed.getD i false = false := by
        simpa [Array.getD_eq_getD_getElem?, hls, hil] using hun
      have hp := List.all_eq_true.1 hpart i (by simpa using hil)
      have hset : ∀ j, (listed.setIfInBounds i true).getD j false = true ↔ j = i ∨ listed.getD j false = true := by
        intro j
        by_cases hji : j = i
        · subst hji; simp [Array.getD_eq_getD_getElem?, hls, hil]
        · rw [getD_set_ne false (Ne.symm hji)]; simp [hji]
      cases hq : qs.getD i none with
      | some x =>
        rw [hq] at hp
        simp only [Bool.and_eq_true, decide_eq_true_iff] at hp
        obtain ⟨⟨hp1, hp2⟩, hp3⟩ := hp
        have hni : i ∉ ch := by simpa using hp1
        have hklt : k < ch.length := by
          rcases Nat.lt_or_ge k ch.length with h | h
          · exact h
          · exfalso
            have hl := (g.chain (ch.length - 1) (by omega)).2 (by omega)
            have hLs : ch.getD (ch.length - 1) 0 < ops.size := by
              have := List.all_eq_true.1 hlt (ch.getD (ch.length - 1) 0) (by simp only [List.getD, List.getElem?_eq_getElem (show ch.length - 1 < ch.length by omega)]; exact List.getElem_mem _)
              simpa using this
            have hoL : ops[ch.getD (ch.length - 1) 0]? = some ops[ch.getD (ch.length - 1) 0] := Array.getElem?_eq_getElem hLs
            unfold depB at hp3
            rw [Bool.and_eq_true] at hp3
            have := reach_listed g.closed (fun e he hb => g.closed _ _ hoL hl e he hb) hoL _ i (by simpa using hp3.1) (by
              have := hp3.2
              simp at this
              exact fun e => this e.symm)
            rw [hunf] at this; cases this
        refine wpOp_mono (fun a' w' hh => ?_) (wpOp_of_gives ho (hs.1 x hq k vals a w hklt hat g.st))
        obtain ⟨v, rfl, rfl, hst⟩ := hh
        refine ih _ _ _ vals k (by simpa using hls) (by omega) (goodC_put hap hn hls g ho hi (g.quiet i _ hq) (fun _ _ => rfl) g.quiet g.le (fun m hm => ?_) hst)
        rw [hset]
        refine ⟨fun h => ?_, fun h => .inr ((g.chain m hm).2 h)⟩
        rcases h with h | h
        · exact absurd (by rw [← h]; simp only [List.getD, List.getElem?_eq_getElem hm]; exact List.getElem_mem hm) hni
        · exact (g.chain m hm).1 h
      | none =>
        rw [hq] at hp
        have hmem : i ∈ ch := by simpa using hp
        have hpos : ch.idxOf i < ch.length := List.idxOf_lt_length_iff.2 hmem
        have hgi : ch.getD (ch.idxOf i) 0 = i := by simp only [List.getD, List.getElem?_eq_getElem hpos]; exact List.getElem_idxOf hpos
        have hk : ch.idxOf i = k := by
          have h1 : ¬ ch.idxOf i < k := fun h => by
            have := (g.chain _ hpos).2 h
            rw [hgi, hunf] at this; cases this
          rcases Nat.lt_or_ge k (ch.idxOf i) with h2 | h2
          · exfalso
            obtain ⟨m, hm⟩ : ∃ m, ch.idxOf i = m + 1 := ⟨ch.idxOf i - 1, by omega⟩
            have hd := link_at ch hlink m (by omega)
            rw [← hm, hgi] at hd
            unfold depB at hd
            rw [Bool.and_eq_true] at hd
            have hl := reach_listed g.closed hall ho i (ch.getD m 0) (by simpa using hd.1) (by
              have := hd.2
              simp at this
              exact fun e => this e.symm)
            have := (g.chain m (by omega)).1 hl
            omega
          · omega
        have hst := g.st
        rw [← hk] at hst
        refine wpOp_mono (fun a' w' hh => ?_) (wpOp_of_gives ho (hs.2 hq vals a w hat hst))
        obtain ⟨v, rfl, hst'⟩ := hh
        refine ih _ _ _ (updV vals i v) (ch.idxOf i + 1) (by simpa using hls) (by omega) (goodC_put hap hn hls g ho hi (updV_same _ _ _) (fun j hj => updV_other _ _ hj) (fun j x hx => ?_) (by omega) (fun m hm => ?_) hst')
        · rw [updV_other _ _ (fun e => by rw [e, hq] at hx; cases hx)]
          exact g.quiet j x hx
        · rw [hset]
          constructor
          · rintro (h | h)
            · have := idxOf_getD ch hnod m hm
              rw [h] at this
              omega
            · have := (g.chain m hm).1 h
              omega
          · intro h
            by_cases hmk : m = ch.idxOf i
            · subst hmk; exact .inl hgi
            · exact .inr ((g.chain m hm).2 (by omega))

/-- A REGION THAT DRAWS ITS ORDER, BY A CHAIN -/
theorem wp_region_chain {id : Nat} {l : List Oper} {a0 : Act} {w0 : World} (qs : List (Option Value)) (ch : List Nat) (St : Nat → (Nat → Value) → World → Prop) (n : Nat) (hm : P.follows .mixedOrders = true) (hap : apartB l.toArray n = true) (hbk : backB l.toArray = true) (hcb : chB l.toArray qs ch = true) (hn : n = a0.tmps.size)
    (h0 : ∀ vals, St 0 vals w0.drew)
    (steps : StepsC P l.toArray a0 qs ch St 0 l)
    (fin : ∀ vals w, (∀ j x, qs.getD j none = some x → vals j = x) → St ch.length vals w → Q .normal (putAll l vals 0 a0) w) :
    (Code.region id l.toArray true).wp P Q a0 w0 := by
  refine wp_region_any hm ?_
  refine chain_any (a0 := a0) (qs := qs) (ch := ch) (St := St) hap hn hbk hcb (by simpa using steps) (by simpa using fin) _ _ _ _ (fun j => (qs.getD j none).getD undef) 0 (by simp) ?_ ?_
  · have : ∀ k, k ≤ l.toArray.size → cnt k (fun i => !(Array.replicate l.toArray.size false).getD i true) = k := by
      intro k
      induction k with
      | zero => intro _; rfl
      | succ k ih =>
        intro hk
        have hk' : k < l.toArray.size := hk
        rw [cnt, ih (by omega), Array.getD_eq_getD_getElem?, Array.getElem?_replicate, if_pos hk']
        rfl
    exact this _ (Nat.le_refl _)
  · have hno : ∀ j, (Array.replicate l.toArray.size false).getD j false = true → False := fun j hl => by
      simp [Array.getD_eq_getD_getElem?, Array.getElem?_replicate] at hl
      split at hl <;> simp at hl
    exact ⟨rfl, rfl, fun i o _ hl => (hno i hl).elim, fun _ _ => rfl, fun j o d _ hl => (hno j hl).elim, fun j x hx => by simp only [hx, Option.getD_some], Nat.zero_le _, fun m _ => ⟨fun hl => (hno _ hl).elim, fun h => absurd h (Nat.not_lt_zero _)⟩, h0 _⟩

end
end Go.Proofs.YtimmfnjkknbofaaDoor
