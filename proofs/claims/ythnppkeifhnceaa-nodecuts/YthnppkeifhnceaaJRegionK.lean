/- A region that draws its order: some operations wait for one another in a chain (they may write S), all others write nothing old (they may make memory): each of these leaves a fact, which may hold ahead of the chain's first link alone. No program. -/
import Derived.Test.YthnppkeifhnceaaRegionC
import Derived.Test.YthnppkeifhnceaaNJoin
import Derived.Test.YthnppkeifhnceaaJNGood
namespace Go.Proofs.Ythnppkeifhnceaa
set_option maxRecDepth 20000
open Go.RowKit
set_option linter.unusedVariables false
set_option maxRecDepth 100000

section
variable {P : Program} {ops : Array Oper} {Q : Exit → Act → World → Prop}

abbrev Fck := Nat → Value → World → Prop
def fkB (ops : Array Oper) (qs : List (Option Fck)) (ch : List Nat) : Bool :=
  linkB ops ch && decide ch.Nodup && ((List.range ops.size).all fun i => match qs.getD i none with | some _ => !ch.contains i && decide (0 < ch.length) && depB ops (ch.getD (ch.length - 1) 0) i | none => ch.contains i) && ch.all fun i => decide (i < ops.size)

structure AtK (ops : Array Oper) (a0 : Act) (qs : List (Option Fck)) (i k : Nat) (vals : Nat → Value) (a : Act) (w : World) : Prop where
  old : ∀ s, oldB ops i s = true → a.eval (.tmp s) = a0.eval (.tmp s)
  val : ∀ j d, gotB ops i j d = true → a.eval (.tmp d) = vals j
  fact : ∀ j d F, gotB ops i j d = true → qs.getD j none = some F → F k (vals j) w
theorem AtK.f {a0 : Act} {qs : List (Option Fck)} {i k : Nat} {vals : Nat → Value} {a : Act} {w : World} (h : AtK ops a0 qs i k vals a w) (j d : Nat) {F : Fck} (hg : gotB ops i j d = true) (hF : qs.getD j none = some F) : ∃ v, a.eval (.tmp d) = v ∧ F k v w := ⟨vals j, h.val j d hg, h.fact j d F hg hF⟩

structure GoodK (ops : Array Oper) (a0 : Act) (qs : List (Option Fck)) (ch : List Nat) (St : Nat → (Nat → Value) → World → Prop) (listed : Array Bool) (a : Act) (w : World) (vals : Nat → Value) (k : Nat) : Prop where
  defers : a.defers = a0.defers
  size : a.tmps.size = a0.tmps.size
  closed : ∀ i o, ops[i]? = some o → listed.getD i false = true → ∀ e ∈ o.after, Region.binds .any e = true → listed.getD e.on false = true
  old : ∀ s, (∀ j o, ops[j]? = some o → listed.getD j false = true → o.dst ≠ some s) → a.tmps[s]? = a0.tmps[s]?
  got : ∀ j o d, ops[j]? = some o → listed.getD j false = true → o.dst = some d → a.tmps[d]? = some (vals j)
  fact : ∀ j F, qs.getD j none = some F → listed.getD j false = true → F k (vals j) w
  le : k ≤ ch.length
  chain : ∀ m, m < ch.length → (listed.getD (ch.getD m 0) false = true ↔ m < k)
  st : St k vals w

def StepsK (P : Program) (ops : Array Oper) (a0 : Act) (S : Nat → Prop) (qs : List (Option Fck)) (ch : List Nat) (St : Nat → (Nat → Value) → World → Prop) : Nat → List Oper → Prop
  | _, [] => True
  | i, o :: l => (match qs.getD i none with
      | some F => ∀ k vals a w, k < ch.length → AtK ops a0 qs i k vals a w → St k vals w → opGives P ops o a w fun v w' => F k v w' ∧ Only (fun _ => False) w w' ∧ St k vals w'
      | none => ∀ vals a w, AtK ops a0 qs i (ch.idxOf i) vals a w → St (ch.idxOf i) vals w → opGives P ops o a w fun v w' => Only S w w' ∧ St (ch.idxOf i + 1) (updV vals i v) w') ∧ StepsK P ops a0 S qs ch St (i + 1) l

theorem stepsK_at {a0 : Act} {S : Nat → Prop} {qs : List (Option Fck)} {ch : List Nat} {St : Nat → (Nat → Value) → World → Prop} : ∀ (l : List Oper) (i k : Nat) (o : Oper), StepsK P ops a0 S qs ch St i l → l[k]? = some o →
    (∀ F, qs.getD (i + k) none = some F → ∀ p vals a w, p < ch.length → AtK ops a0 qs (i + k) p vals a w → St p vals w → opGives P ops o a w fun v w' => F p v w' ∧ Only (fun _ => False) w w' ∧ St p vals w') ∧
    (qs.getD (i + k) none = none → ∀ vals a w, AtK ops a0 qs (i + k) (ch.idxOf (i + k)) vals a w → St (ch.idxOf (i + k)) vals w → opGives P ops o a w fun v w' => Only S w w' ∧ St (ch.idxOf (i + k) + 1) (updV vals (i + k) v) w')
  | [], _, k, o, _, hk => by simp at hk
  | o0 :: l, i, 0, o, h, hk => by
    obtain rfl : o0 = o := by simpa using hk
    have h1 := h.1
    rw [Nat.add_zero]
    cases hq : qs.getD i none with
    | some y => rw [hq] at h1; exact ⟨fun x hx => (by cases hx; exact h1), fun hx => (by cases hx)⟩
    | none => rw [hq] at h1; exact ⟨fun x hx => (by cases hx), fun _ => h1⟩
  | o0 :: l, i, k + 1, o, h, hk => by
    have := stepsK_at l (i + 1) k o h.2 (by simpa using hk)
    rw [show i + 1 + k = i + (k + 1) by omega] at this
    exact this

theorem goodK_put {a0 a : Act} {w w' : World} {qs : List (Option Fck)} {ch : List Nat} {St : Nat → (Nat → Value) → World → Prop} {n : Nat} (hap : apartB ops n = true) (hn : n = a0.tmps.size) {listed : Array Bool} (hls : listed.size = ops.size) {vals vals' : Nat → Value} {k k' : Nat}
    (g : GoodK ops a0 qs ch St listed a w vals k) {i : Nat} {o : Oper} (ho : ops[i]? = some o) (hi : i ∈ Region.ready .any ops listed) {v : Value} (hv : vals' i = v) (hoth : ∀ j, j ≠ i → vals' j = vals j) (hfc : ∀ j F, qs.getD j none = some F → (j = i ∨ listed.getD j false = true) → F k' (vals' j) w') (hle : k' ≤ ch.length)
    (hch : ∀ m, m < ch.length → ((listed.setIfInBounds i true).getD (ch.getD m 0) false = true ↔ m < k')) (hst : St k' vals' w') :
    GoodK ops a0 qs ch St (listed.setIfInBounds i true) (a.put o.dst v) w' vals' k' := by
  obtain ⟨hun, o', ho', hall⟩ := mem_ready.1 hi
  obtain rfl : o = o' := Option.some.inj (ho.symm.trans ho')
  have hil := (Array.getElem?_eq_some_iff.1 ho).1
  have hset : ∀ j, (listed.setIfInBounds i true).getD j false = true ↔ j = i ∨ listed.getD j false = true := by
    intro j
    by_cases hji : j = i
    · subst hji; simp [Array.getD_eq_getD_getElem?, hls, hil]
    · rw [getD_set_ne false (Ne.symm hji)]; simp [hji]
  refine ⟨?_, ?_, fun j oj hj hl e he hbd => ?_, fun s hs => ?_, fun j oj d hj hl hd => ?_, fun j F hF hl => hfc j F hF ((hset j).1 hl), hle, hch, hst⟩
  · rw [← g.defers]; cases o.dst <;> rfl
  · rw [← g.size]; cases o.dst <;> simp [Act.put]
  · rcases (hset j).1 hl with rfl | hl'
    · obtain rfl : o = oj := Option.some.inj (ho.symm.trans hj)
      exact (hset _).2 (.inr (hall e he hbd))
    · exact (hset _).2 (.inr (g.closed j oj hj hl' e he hbd))
  · rw [put_other s (hs i o ho ((hset i).2 (.inl rfl)))]
    exact g.old s fun j oj hj hl => hs j oj hj ((hset j).2 (.inr hl))
  · rcases (hset j).1 hl with rfl | hl'
    · obtain rfl : o = oj := Option.some.inj (ho.symm.trans hj)
      have hlt := apart_lt hap ho hd
      rw [hd, hv]
      simp [Act.put, g.size, ← hn, hlt]
    · have hji : j ≠ i := by
        rintro rfl
        have : listed.getD j false = false := by
          simpa [Array.getD_eq_getD_getElem?, hls, hil] using hun
        rw [this] at hl'; cases hl'
      rw [put_other d (apart_spec hap hj ho hd hji), hoth j hji]
      exact g.got j oj d hj hl' hd

theorem readyK_at {a0 a : Act} {w : World} {qs : List (Option Fck)} {ch : List Nat} {St : Nat → (Nat → Value) → World → Prop} {listed : Array Bool} {vals : Nat → Value} {k : Nat} (g : GoodK ops a0 qs ch St listed a w vals k) {i : Nat} (hi : i ∈ Region.ready .any ops listed) : AtK ops a0 qs i k vals a w := by
  obtain ⟨hun, o, ho, hall⟩ := mem_ready.1 hi
  have hil := (Array.getElem?_eq_some_iff.1 ho).1
  have hunf : listed.getD i false = false := by
    by_cases h : i < listed.size
    · simpa [Array.getD_eq_getD_getElem?, h] using hun
    · simp [Array.getD_eq_getD_getElem?, h]
  have hfac : ∀ j d F, gotB ops i j d = true → qs.getD j none = some F → F k (vals j) w := fun j d F hg hF => by
    unfold gotB at hg
    simp only [ho, Bool.and_eq_true, List.any_eq_true, beq_iff_eq] at hg
    obtain ⟨⟨e, he, hb, hon⟩, hd⟩ := hg
    have hl := hall e (by simpa using he) hb
    rw [hon] at hl
    exact g.fact j F hF hl
  have htmp : ∀ j d, gotB ops i j d = true → a.tmps[d]? = some (vals j) := fun j d hg => by
    unfold gotB at hg
    simp only [ho, Bool.and_eq_true, List.any_eq_true, beq_iff_eq] at hg
    obtain ⟨⟨e, he, hb, hon⟩, hd⟩ := hg
    have hl := hall e (by simpa using he) hb
    rw [hon] at hl
    obtain ⟨oj, hj, hdj⟩ := Option.bind_eq_some_iff.1 hd
    exact g.got j oj d hj hl hdj
  refine ⟨fun s hs => ?_, fun j d hg => ?_, hfac⟩
  · have := g.old s (fun j oj hj hl hd => by
      have hjl := (Array.getElem?_eq_some_iff.1 hj).1
      unfold oldB at hs
      rw [List.all_eq_true] at hs
      have h1 := hs j (by simpa using hjl)
      simp only [hj, hd, bne_self_eq_false, Bool.false_or, Bool.or_eq_true, beq_iff_eq, List.any_eq_true, Bool.and_eq_true] at h1
      rcases h1 with rfl | ⟨e, he, hb, hon⟩
      · rw [hunf] at hl; cases hl
      · have := g.closed j oj hj hl e (by simpa using he) hb
        rw [hon, hunf] at this; cases this)
    simp [Act.eval, Array.getD_eq_getD_getElem?, this]
  · simp [Act.eval, Array.getD_eq_getD_getElem?, htmp j d hg]

theorem goodK_all {a0 a : Act} {w : World} {qs : List (Option Fck)} {ch : List Nat} {St : Nat → (Nat → Value) → World → Prop} {n : Nat} (hap : apartB ops n = true) (hn : n = a0.tmps.size) {listed : Array Bool} {vals : Nat → Value} {k : Nat} (g : GoodK ops a0 qs ch St listed a w vals k) (hall : ∀ i, i < ops.size → listed.getD i false = true) :
    a = putAll ops.toList vals 0 a0 := by
  have he : a.tmps = (putAll ops.toList vals 0 a0).tmps := by
    apply Array.ext_getElem?
    intro s
    by_cases hs : ∃ (j : Nat) (o : Oper), ops[j]? = some o ∧ o.dst = some s
    · obtain ⟨j, o, hj, hd⟩ := hs
      have hjl := (Array.getElem?_eq_some_iff.1 hj).1
      have hv := g.got j o s hj (hall j hjl) hd
      rw [putAll_at ops.toList _ 0 a0 s j o (by simpa using hj) hd (by rw [← hn]; exact apart_lt hap hj hd) (fun k' o' hk' hne => apart_spec hap hj (by simpa using hk') hd (Ne.symm hne))]
      rw [hv, Nat.zero_add]
    · rw [putAll_other _ _ _ _ _ (fun k (o : Oper) hk hd => hs ⟨k, o, by simpa using hk, hd⟩)]
      exact g.old s fun j (o : Oper) hj _ hd => hs ⟨j, o, hj, hd⟩
  have hd : a.defers = (putAll ops.toList vals 0 a0).defers := by rw [putAll_defers]; exact g.defers
  cases a
  simp only at he hd
  rw [Act.mk.injEq]
  exact ⟨he, hd⟩

theorem chainK_any {a0 : Act} {S : Nat → Prop} {qs : List (Option Fck)} {ch : List Nat} {St : Nat → (Nat → Value) → World → Prop} {n : Nat} (hap : apartB ops n = true) (hn : n = a0.tmps.size) (hbk : backB ops = true) (hcb : fkB ops qs ch = true)
    (hst1 : ∀ j F, qs.getD j none = some F → ∀ k v w w', Only (fun _ => False) w w' → F k v w → F k v w') (hst2 : ∀ j F, qs.getD j none = some F → ∀ k v w w', Only S w w' → F k v w → F (k + 1) v w') (hind : ∀ k vals vals' w, (∀ j, j ∈ ch → vals j = vals' j) → St k vals w → St k vals' w)
    (steps : StepsK P ops a0 S qs ch St 0 ops.toList)
    (fin : ∀ vals w, (∀ j F, j < ops.size → qs.getD j none = some F → F ch.length (vals j) w) → St ch.length vals w → Q .normal (putAll ops.toList vals 0 a0) w) :
    ∀ (fuel : Nat) (listed : Array Bool) (a : Act) (w : World) (vals : Nat → Value) (k : Nat), listed.size = ops.size → cnt ops.size (fun i => !listed.getD i true) = fuel → GoodK ops a0 qs ch St listed a w vals k → wpAny P .any ops Q fuel listed a w := by
  unfold fkB at hcb
  rw [Bool.and_eq_true, Bool.and_eq_true, Bool.and_eq_true, decide_eq_true_iff] at hcb
  obtain ⟨⟨⟨hlink, hnod⟩, hpart⟩, hlt⟩ := hcb
  have done : ∀ (listed : Array Bool) (a : Act) (w : World) (vals : Nat → Value) (k : Nat), listed.size = ops.size → (∀ i, i < ops.size → listed.getD i true = true) → GoodK ops a0 qs ch St listed a w vals k → Q .normal a w := by
    intro listed a w vals k hls hall g
    have hall' : ∀ i, i < ops.size → listed.getD i false = true := fun i hi => by
      have := hall i hi
      simpa [Array.getD_eq_getD_getElem?, hls, hi] using this
    have hk : k = ch.length := by
      rcases Nat.lt_or_ge k ch.length with h | h
      · have := (g.chain k h).1 (hall' _ (by
          have := List.all_eq_true.1 hlt (ch.getD k 0) (by simp only [List.getD, List.getElem?_eq_getElem h]; exact List.getElem_mem h)
          simpa using this))
        omega
      · have := g.le; omega
    rw [goodK_all hap hn g hall']
    subst hk
    exact fin vals w (fun j F hj hF => g.fact j F hF (hall' j hj)) g.st
  intro fuel
  induction fuel with
  | zero =>
    intro listed a w vals k hls hc g
    have hall : ∀ i, i < ops.size → listed.getD i true = true := fun i hi => by
      have := cnt_zero _ _ hc i hi
      simpa using this
    refine ⟨?_, done listed a w vals k hls hall g⟩
    apply List.eq_nil_iff_forall_not_mem.2
    intro i hi
    obtain ⟨hun, o, ho, _⟩ := mem_ready.1 hi
    have := hall i (Array.getElem?_eq_some_iff.1 ho).1
    rw [this] at hun; cases hun
  | succ fuel ih =>
    intro listed a w vals k hls hc g
    refine ⟨fun h => done listed a w vals k hls (fun i hi => ?_) g, fun i hi => ?_⟩
    · induction i using Nat.strongRecOn with
      | ind i ihi =>
        cases hl : listed.getD i true with
        | true => rfl
        | false =>
          exfalso
          have ho : ops[i]? = some ops[i] := Array.getElem?_eq_getElem hi
          have : i ∈ Region.ready .any ops listed := mem_ready.2 ⟨hl, _, ho, fun e he hb => by
            have hlt := back_spec hbk ho he hb
            have := ihi e.on hlt (by omega)
            simpa [Array.getD_eq_getD_getElem?, hls, show e.on < ops.size by omega] using this⟩
          rw [h] at this
          cases this
    · obtain ⟨hun, o, ho, hall⟩ := mem_ready.1 hi
      have hil := (Array.getElem?_eq_some_iff.1 ho).1
      have hat := readyK_at g hi
      have hs := stepsK_at ops.toList 0 i o steps (by simpa using ho)
      rw [Nat.zero_add] at hs
      have hcnt := cnt_less ops.size (fun i => !listed.getD i true) (fun j => !(listed.setIfInBounds i true).getD j true) i hil (by simp [hun]) (by simp [Array.getD_eq_getD_getElem?, hls, hil]) (fun j hj => by rw [getD_set_ne true (Ne.symm hj)])
      have hunf : listed.getD i false = false := by
        simpa [Array.getD_eq_getD_getElem?, hls, hil] using hun
      have hp := List.all_eq_true.1 hpart i (by simpa using hil)
      have hset : ∀ j, (listed.setIfInBounds i true).getD j false = true ↔ j = i ∨ listed.getD j false = true := by
        intro j
        by_cases hji : j = i
        · subst hji; simp [Array.getD_eq_getD_getElem?, hls, hil]
        · rw [getD_set_ne false (Ne.symm hji)]; simp [hji]
      cases hq : qs.getD i none with
      | some x =>
        rw [hq] at hp
        simp only [Bool.and_eq_true, decide_eq_true_iff] at hp
        obtain ⟨⟨hp1, hp2⟩, hp3⟩ := hp
        have hni : i ∉ ch := by simpa using hp1
        have hklt : k < ch.length := by
          rcases Nat.lt_or_ge k ch.length with h | h
          · exact h
          · exfalso
            have hl := (g.chain (ch.length - 1) (by omega)).2 (by omega)
            have hLs : ch.getD (ch.length - 1) 0 < ops.size := by
              have := List.all_eq_true.1 hlt (ch.getD (ch.length - 1) 0) (by simp only [List.getD, List.getElem?_eq_getElem (show ch.length - 1 < ch.length by omega)]; exact List.getElem_mem _)
              simpa using this
            have hoL : ops[ch.getD (ch.length - 1) 0]? = some ops[ch.getD (ch.length - 1) 0] := Array.getElem?_eq_getElem hLs
            unfold depB at hp3
            rw [Bool.and_eq_true] at hp3
            have := reach_listed g.closed (fun e he hb => g.closed _ _ hoL hl e he hb) hoL _ i (by simpa using hp3.1) (by
              have := hp3.2
              simp at this
              exact fun e => this e.symm)
            rw [hunf] at this; cases this
        refine wpOp_mono (fun a' w' hh => ?_) (wpOp_of_gives ho (hs.1 x hq k vals a w hklt hat g.st))
        obtain ⟨v, rfl, hF, hon, hst'⟩ := hh
        refine ih _ _ _ (updV vals i v) k (by simpa using hls) (by omega) (goodK_put hap hn hls g ho hi (updV_same _ _ _) (fun j hj => updV_other _ _ hj) (fun j F hjF hl => ?_) g.le (fun m hm => ?_) (hind k vals _ w' (fun j hj => (updV_other (i := i) (j := j) vals v (fun e => hni (by rw [← e]; exact hj))).symm) hst'))
        · by_cases hji : j = i
          · subst hji
            rw [hq] at hjF
            cases hjF
            rw [updV_same]
            exact hF
          · rw [updV_other _ _ hji]
            exact hst1 j F hjF k _ w w' hon (g.fact j F hjF (hl.resolve_left hji))
        rw [hset]
        refine ⟨fun h => ?_, fun h => .inr ((g.chain m hm).2 h)⟩
        rcases h with h | h
        · exact absurd (by rw [← h]; simp only [List.getD, List.getElem?_eq_getElem hm]; exact List.getElem_mem hm) hni
        · exact (g.chain m hm).1 h
      | none =>
        rw [hq] at hp
        have hmem : i ∈ ch := by simpa using hp
        have hpos : ch.idxOf i < ch.length := List.idxOf_lt_length_iff.2 hmem
        have hgi : ch.getD (ch.idxOf i) 0 = i := by simp only [List.getD, List.getElem?_eq_getElem hpos]; exact List.getElem_idxOf hpos
        have hk : ch.idxOf i = k := by
          have h1 : ¬ ch.idxOf i < k := fun h => by
            have := (g.chain _ hpos).2 h
            rw [hgi, hunf] at this; cases this
          rcases Nat.lt_or_ge k (ch.idxOf i) with h2 | h2
          · exfalso
            obtain ⟨m, hm⟩ : ∃ m, ch.idxOf i = m + 1 := ⟨ch.idxOf i - 1, by omega⟩
            have hd := link_at ch hlink m (by omega)
            rw [← hm, hgi] at hd
            unfold depB at hd
            rw [Bool.and_eq_true] at hd
            have hl := reach_listed g.closed hall ho i (ch.getD m 0) (by simpa using hd.1) (by
              have := hd.2
              simp at this
              exact fun e => this e.symm)
            have := (g.chain m (by omega)).1 hl
            omega
          · omega
        have hstk := g.st
        rw [← hk] at hstk
        have hatk : AtK ops a0 qs i (ch.idxOf i) vals a w := by rw [hk]; exact hat
        refine wpOp_mono (fun a' w' hh => ?_) (wpOp_of_gives ho (hs.2 hq vals a w hatk hstk))
        obtain ⟨v, rfl, hoS, hst'⟩ := hh
        refine ih _ _ _ (updV vals i v) (ch.idxOf i + 1) (by simpa using hls) (by omega) (goodK_put hap hn hls g ho hi (updV_same _ _ _) (fun j hj => updV_other _ _ hj) (fun j F hjF hl => ?_) (by omega) (fun m hm => ?_) hst')
        · have hji : j ≠ i := fun e => by rw [e, hq] at hjF; cases hjF
          rw [updV_other _ _ hji]
          rw [hk]
          exact hst2 j F hjF k _ w w' hoS (g.fact j F hjF (hl.resolve_left hji))
        · rw [hset]
          constructor
          · rintro (h | h)
            · have := idxOf_getD ch hnod m hm
              rw [h] at this
              omega
            · have := (g.chain m hm).1 h
              omega
          · intro h
            by_cases hmk : m = ch.idxOf i
            · subst hmk; exact .inl hgi
            · exact .inr ((g.chain m hm).2 (by omega))

/-- A REGION THAT DRAWS ITS ORDER, BY A CHAIN -/
theorem wp_region_first {id : Nat} {l : List Oper} {a0 : Act} {w0 : World} (S : Nat → Prop) (qs : List (Option Fck)) (ch : List Nat) (St : Nat → (Nat → Value) → World → Prop) (n : Nat) (hm : P.follows .mixedOrders = true) (hap : apartB l.toArray n = true) (hbk : backB l.toArray = true) (hcb : fkB l.toArray qs ch = true) (hn : n = a0.tmps.size)
    (h0 : ∀ vals, St 0 vals w0.drew)
    (hst1 : ∀ j F, qs.getD j none = some F → ∀ k v w w', Only (fun _ => False) w w' → F k v w → F k v w') (hst2 : ∀ j F, qs.getD j none = some F → ∀ k v w w', Only S w w' → F k v w → F (k + 1) v w') (hind : ∀ k vals vals' w, (∀ j, j ∈ ch → vals j = vals' j) → St k vals w → St k vals' w)
    (steps : StepsK P l.toArray a0 S qs ch St 0 l)
    (fin : ∀ vals w, (∀ j F, j < l.length → qs.getD j none = some F → F ch.length (vals j) w) → St ch.length vals w → Q .normal (putAll l vals 0 a0) w) :
    (Code.region id l.toArray true).wp P Q a0 w0 := by
  refine wp_region_any hm ?_
  refine chainK_any (S := S) (a0 := a0) (qs := qs) (ch := ch) (St := St) hap hn hbk hcb hst1 hst2 hind (by simpa using steps) (by simpa using fin) _ _ _ _ (fun _ => undef) 0 (by simp) ?_ ?_
  · have : ∀ k, k ≤ l.toArray.size → cnt k (fun i => !(Array.replicate l.toArray.size false).getD i true) = k := by
      intro k
      induction k with
      | zero => intro _; rfl
      | succ k ih =>
        intro hk
        have hk' : k < l.toArray.size := hk
        rw [cnt, ih (by omega), Array.getD_eq_getD_getElem?, Array.getElem?_replicate, if_pos hk']
        rfl
    exact this _ (Nat.le_refl _)
  · have hno : ∀ j, (Array.replicate l.toArray.size false).getD j false = true → False := fun j hl => by
      simp [Array.getD_eq_getD_getElem?, Array.getElem?_replicate] at hl
      split at hl <;> simp at hl
    exact ⟨rfl, rfl, fun i o _ hl => (hno i hl).elim, fun _ _ => rfl, fun j o d _ hl => (hno j hl).elim, fun j F _ hl => (hno j hl).elim, Nat.zero_le _, fun m _ => ⟨fun hl => (hno _ hl).elim, fun h => absurd h (Nat.not_lt_zero _)⟩, h0 _⟩

end
/-! ### facts that stay, or hold ahead of the first link -/
def AllK (S : Nat → Prop) : List (Option Fck) → Prop
  | [] => True
  | none :: l => AllK S l
  | some F :: l => ((∀ k v w w', Only (fun _ => False) w w' → F k v w → F k v w') ∧ ∀ k v w w', Only S w w' → F k v w → F (k + 1) v w') ∧ AllK S l
def isCk (x : Value) : Fck := fun _ v _ => v = x
def isFst (G : Value → World → Prop) : Fck := fun k v w => k = 0 → G v w
theorem allK_none {S : Nat → Prop} {l : List (Option Fck)} (h : AllK S l) : AllK S (none :: l) := h
theorem allK_isCk {S : Nat → Prop} {x : Value} {l : List (Option Fck)} (h : AllK S l) : AllK S (some (isCk x) :: l) := ⟨⟨fun _ _ _ _ _ h => h, fun _ _ _ _ _ h => h⟩, h⟩
theorem allK_fst {S : Nat → Prop} {G : Value → World → Prop} {l : List (Option Fck)} (hG : ∀ v w w', Only (fun _ => False) w w' → G v w → G v w') (h : AllK S l) : AllK S (some (isFst G) :: l) := ⟨⟨fun k v w w' ho hk h0 => hG v w w' ho (hk h0), fun k v w w' _ _ h0 => absurd h0 (Nat.succ_ne_zero k)⟩, h⟩
theorem allK_at {S : Nat → Prop} : ∀ (l : List (Option Fck)), AllK S l → ∀ j F, l.getD j none = some F → (∀ k v w w', Only (fun _ => False) w w' → F k v w → F k v w') ∧ ∀ k v w w', Only S w w' → F k v w → F (k + 1) v w'
  | [], _, j, F, h => by simp at h
  | none :: l, ha, 0, F, h => by simp at h
  | none :: l, ha, j + 1, F, h => allK_at l ha j F (by simpa using h)
  | some G :: l, ha, 0, F, h => by
    obtain rfl : G = F := by simpa using h
    exact ha.1
  | some G :: l, ha, j + 1, F, h => allK_at l ha.2 j F (by simpa using h)

end Go.Proofs.Ythnppkeifhnceaa
/- The document's Join: a boxed node whose rows are put together. -/
namespace Go.Proofs.Ythnppkeifhnceaa
set_option maxRecDepth 20000
open Go.RowKit Go.Shelf
set_option linter.unusedVariables false
set_option linter.unusedSimpArgs false
set_option maxRecDepth 100000

/-- both nodes' boxes, the result's, and the box of what is being made -/
def JxB (w : World) (A B X : List Value) (xb : Nat) (W : World) : Prop := JnB w A B zeroC W ∧ Blk W xb 26 X ∧ w.heap.size + 3 ≤ xb
theorem JxB.only {w W W' : World} {A B X : List Value} {xb : Nat} {S : Nat → Prop} (h : JxB w A B X xb W) (ho : Only S W W') (hS : ∀ j, S j → w.heap.size + 3 ≤ j ∧ j ≠ xb) : JxB w A B X xb W' := by
  obtain ⟨⟨h1, h2, h3, h4⟩, h5, h6⟩ := h
  refine ⟨⟨h1.trans (ho.below h1.size (fun j hj hs => by have := (hS j hs).1; omega)), h2.only ho (fun hs => by have := (hS _ hs).1; omega), h3.only ho (fun hs => by have := (hS _ hs).1; omega), h4.only ho (fun hs => by have := (hS _ hs).1; omega)⟩, h5.only ho (fun hs => (hS _ hs).2 rfl), h6⟩
theorem JxB.same {w W W' : World} {A B X : List Value} {xb : Nat} (h : JxB w A B X xb W) (ho : Only (fun _ => False) W W') : JxB w A B X xb W' := h.only ho (fun _ h => h.elim)
theorem JxB.size {w W : World} {A B X : List Value} {xb : Nat} (h : JxB w A B X xb W) : w.heap.size + 3 ≤ W.heap.size := by have := h.2.1.lt; have := h.2.2; omega
/-- one more row is put behind -/
theorem jx_app {t e : TypeId} {i0 : TypeInfo} {z : Value} {size bytes : Nat} (ht : Try.prog.underlying t = some (.slice e)) (hi : Try.prog.info? e = some i0) (hz : i0.zero = some z) (hs : i0.size = size) (hby : i0.bytes = bytes) (hzs : z.cells.size = size) (hpos : 0 < size) (hb64 : bytes ≤ 64) (hne : e ≠ 26)
    {w W : World} {A B X : List Value} {xb : Nat} (h : JxB w A B X xb W) (v : Value) (n : Nat) (xs : List Value) (ho : W.ownsRow (w.heap.size + 3) e size v n xs) (hn : n ≤ 10000) (x : Value) (cs : List Value) (hr : RowR W size x cs) :
    ∃ a N c w', (Builtin.append_ #[t, t] t #[v, x]).run Try.prog W = .ok (.slice a N c) w' ∧ w'.ownsRow (w.heap.size + 3) e size (.slice a N c) N (xs ++ cs) ∧ N ≤ n + 1000 ∧ JxB w A B X xb w' ∧ Only (fun j => v.ownBlock = some j) W w' := by
  obtain ⟨v', w', k, hr', hk, hk2, hl, ho', hg⟩ := append_row ht hi hz hs hby hzs hpos hb64 W (w.heap.size + 3) v n xs ho x cs hr hn h.size
  obtain ⟨a, c, rfl⟩ := own_form' ho'
  have hon : Only (fun j => v.ownBlock = some j) W w' := (Only.refl _ W).grown hg (fun k hk _ => hk)
  exact ⟨a, n + k, c, w', hr', ho', by omega, h.only hon (fun j hj => ⟨(row_blk ho hj).1, fun e => row_not_blk ho h.2.1 hne (by rw [← e]; exact hj)⟩), hon⟩
theorem jxP {w W : World} {A B X : List Value} {xb : Nat} (h : JxB w A B X xb W) (v : Value) (n : Nat) (xs : List Value) (ho : W.ownsRow (w.heap.size + 3) 36 2 v n xs) (hn : n ≤ 10000) (x : Value) (cs : List Value) (hr : RowR W 2 x cs) :
    ∃ a N c w', (Builtin.append_ #[22, 22] 22 #[v, x]).run Try.prog W = .ok (.slice a N c) w' ∧ w'.ownsRow (w.heap.size + 3) 36 2 (.slice a N c) N (xs ++ cs) ∧ N ≤ n + 1000 ∧ JxB w A B X xb w' ∧ Only (fun j => v.ownBlock = some j) W w' := by
  obtain ⟨i0, hi, hz0, hz1, hz2⟩ := info_parts infoPair
  exact jx_app Try.underlying22 hi hz0 hz1 hz2 rfl (by decide) (by decide) (by decide) h v n xs ho hn x cs hr
theorem jxK {w W : World} {A B X : List Value} {xb : Nat} (h : JxB w A B X xb W) (v : Value) (n : Nat) (xs : List Value) (ho : W.ownsRow (w.heap.size + 3) 34 1 v n xs) (hn : n ≤ 10000) (x : Value) (cs : List Value) (hr : RowR W 1 x cs) :
    ∃ a N c w', (Builtin.append_ #[23, 23] 23 #[v, x]).run Try.prog W = .ok (.slice a N c) w' ∧ w'.ownsRow (w.heap.size + 3) 34 1 (.slice a N c) N (xs ++ cs) ∧ N ≤ n + 1000 ∧ JxB w A B X xb w' ∧ Only (fun j => v.ownBlock = some j) W w' := by
  obtain ⟨i0, hi, hz0, hz1, hz2⟩ := info_parts infoRow
  exact jx_app Try.underlying23 hi hz0 hz1 hz2 rfl (by decide) (by decide) (by decide) h v n xs ho hn x cs hr
theorem jxI {w W : World} {A B X : List Value} {xb : Nat} (h : JxB w A B X xb W) (v : Value) (n : Nat) (xs : List Value) (ho : W.ownsRow (w.heap.size + 3) 3 1 v n xs) (hn : n ≤ 10000) (x : Value) (cs : List Value) (hr : RowR W 1 x cs) :
    ∃ a N c w', (Builtin.append_ #[24, 24] 24 #[v, x]).run Try.prog W = .ok (.slice a N c) w' ∧ w'.ownsRow (w.heap.size + 3) 3 1 (.slice a N c) N (xs ++ cs) ∧ N ≤ n + 1000 ∧ JxB w A B X xb w' ∧ Only (fun j => v.ownBlock = some j) W w' := by
  obtain ⟨i0, hi, hz0, hz1, hz2⟩ := info_parts infoInt
  exact jx_app Try.underlying24 hi hz0 hz1 hz2 rfl (by decide) (by decide) (by decide) h v n xs ho hn x cs hr

/-- two rows are put together, and into the box: how far it is (e, m: the row's element, in cells; O: what else holds) -/
def JtS (w : World) (A B X X' : List Value) (xb : Nat) (e : TypeId) (m : Nat) (c1 c2 : List Value) (f : Value → List Value) (O : World → Prop) (o1 o2 : Nat) : Nat → (Nat → Value) → World → Prop := fun i vals W => match i with
  | 0 => JxB w A B X xb W ∧ O W
  | 1 => (JxB w A B X xb W ∧ O W) ∧ ∃ a n c, vals o1 = .slice a n c ∧ n ≤ 1000 ∧ W.ownsRow (w.heap.size + 3) e m (.slice a n c) n c1
  | 2 => (JxB w A B X xb W ∧ O W) ∧ ∃ a n c, vals o2 = .slice a n c ∧ n ≤ 2000 ∧ W.ownsRow (w.heap.size + 3) e m (.slice a n c) n (c1 ++ c2)
  | _ => ∃ a n c, (JxB w A B (f (.slice a n c)) xb W ∧ O W) ∧ n ≤ 2000 ∧ W.ownsRow (w.heap.size + 3) e m (.slice a n c) n (c1 ++ c2)
theorem JtS.any {w : World} {A B X X' : List Value} {xb : Nat} {e : TypeId} {m : Nat} {c1 c2 : List Value} {f : Value → List Value} {O : World → Prop} {o1 o2 i : Nat} {vals : Nat → Value} {W : World} (hi : i < 3) (h : JtS w A B X X' xb e m c1 c2 f O o1 o2 i vals W) : JxB w A B X xb W ∧ O W := by
  rcases (show i = 0 ∨ i = 1 ∨ i = 2 by omega) with rfl | rfl | rfl
  · exact h
  · exact h.1
  · exact h.1

theorem JtS.keep {w : World} {A B X X' : List Value} {xb : Nat} {e : TypeId} {m : Nat} {c1 c2 : List Value} {f : Value → List Value} {O : World → Prop} {o1 o2 i : Nat} {vals : Nat → Value} {W W' : World} (hi : i < 3) (h : JtS w A B X X' xb e m c1 c2 f O o1 o2 i vals W) (ho : Only (fun _ => False) W W') (hO : O W → O W') : JtS w A B X X' xb e m c1 c2 f O o1 o2 i vals W' := by
  rcases (show i = 0 ∨ i = 1 ∨ i = 2 by omega) with rfl | rfl | rfl
  · have h' : JxB w A B X xb W ∧ O W := h
    exact (⟨h'.1.same ho, hO h'.2⟩ : JxB w A B X xb W' ∧ O W')
  · obtain ⟨h', a, n, c, h1, h2, h3⟩ : (JxB w A B X xb W ∧ O W) ∧ ∃ a n c, vals o1 = .slice a n c ∧ n ≤ 1000 ∧ W.ownsRow (w.heap.size + 3) e m (.slice a n c) n c1 := h
    exact (⟨⟨h'.1.same ho, hO h'.2⟩, a, n, c, h1, h2, ownsRow_only h3 ho (fun _ _ h => h)⟩ : (JxB w A B X xb W' ∧ O W') ∧ ∃ a n c, vals o1 = .slice a n c ∧ n ≤ 1000 ∧ W'.ownsRow (w.heap.size + 3) e m (.slice a n c) n c1)
  · obtain ⟨h', a, n, c, h1, h2, h3⟩ : (JxB w A B X xb W ∧ O W) ∧ ∃ a n c, vals o2 = .slice a n c ∧ n ≤ 2000 ∧ W.ownsRow (w.heap.size + 3) e m (.slice a n c) n (c1 ++ c2) := h
    exact (⟨⟨h'.1.same ho, hO h'.2⟩, a, n, c, h1, h2, ownsRow_only h3 ho (fun _ _ h => h)⟩ : (JxB w A B X xb W' ∧ O W') ∧ ∃ a n c, vals o2 = .slice a n c ∧ n ≤ 2000 ∧ W'.ownsRow (w.heap.size + 3) e m (.slice a n c) n (c1 ++ c2))
theorem JtS.ind {w : World} {A B X X' : List Value} {xb : Nat} {e : TypeId} {m : Nat} {c1 c2 : List Value} {f : Value → List Value} {O : World → Prop} {o1 o2 : Nat} {ch : List Nat} (h1 : o1 ∈ ch) (h2 : o2 ∈ ch) : ∀ k vals vals' W, (∀ j, j ∈ ch → vals j = vals' j) → JtS w A B X X' xb e m c1 c2 f O o1 o2 k vals W → JtS w A B X X' xb e m c1 c2 f O o1 o2 k vals' W := fun k vals vals' W hv h => by
  rcases (show k = 0 ∨ k = 1 ∨ k = 2 ∨ ∃ m, k = m + 3 from by
    rcases Nat.lt_or_ge k 3 with h | h
    · omega
    · exact .inr (.inr (.inr ⟨k - 3, by omega⟩))) with rfl | rfl | rfl | ⟨m, rfl⟩
  · exact h
  · obtain ⟨h', a, n, c, q1, q2, q3⟩ : (JxB w A B X xb W ∧ O W) ∧ ∃ a n c, vals o1 = .slice a n c ∧ n ≤ 1000 ∧ W.ownsRow (w.heap.size + 3) e m (.slice a n c) n c1 := h
    exact (⟨h', a, n, c, by rw [← hv o1 h1]; exact q1, q2, q3⟩ : (JxB w A B X xb W ∧ O W) ∧ ∃ a n c, vals' o1 = .slice a n c ∧ n ≤ 1000 ∧ W.ownsRow (w.heap.size + 3) e m (.slice a n c) n c1)
  · obtain ⟨h', a, n, c, q1, q2, q3⟩ : (JxB w A B X xb W ∧ O W) ∧ ∃ a n c, vals o2 = .slice a n c ∧ n ≤ 2000 ∧ W.ownsRow (w.heap.size + 3) e m (.slice a n c) n (c1 ++ c2) := h
    exact (⟨h', a, n, c, by rw [← hv o2 h2]; exact q1, q2, q3⟩ : (JxB w A B X xb W ∧ O W) ∧ ∃ a n c, vals' o2 = .slice a n c ∧ n ≤ 2000 ∧ W.ownsRow (w.heap.size + 3) e m (.slice a n c) n (c1 ++ c2))
  · exact h

end Go.Proofs.Ythnppkeifhnceaa
