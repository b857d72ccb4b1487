/- As RegionC; a quiet operation knows besides which links of the chain it waits for. No program. -/
import Derived.Test.YthnppkeifhnceaaRegionC
namespace Go.Proofs.Ythnppkeifhnceaa
set_option maxRecDepth 20000
open Go.RowKit
set_option linter.unusedVariables false
set_option maxRecDepth 100000

section
variable {P : Program} {ops : Array Oper} {Q : Exit → Act → World → Prop}

/-- each operation's step -/
def StepsD (P : Program) (ops : Array Oper) (a0 : Act) (qs : List (Option Value)) (ch : List Nat) (St : Nat → (Nat → Value) → World → Prop) : Nat → List Oper → Prop
  | _, [] => True
  | i, o :: l => (match qs.getD i none with
      | some x => ∀ k vals a w, k < ch.length → (∀ m, m < ch.length → (∃ d, gotB ops i (ch.getD m 0) d = true) → m < k) → AtC ops a0 qs i vals a → St k vals w → opGives P ops o a w fun v w' => v = x ∧ St k vals w'
      | none => ∀ vals a w, AtC ops a0 qs i vals a → St (ch.idxOf i) vals w → opGives P ops o a w fun v w' => St (ch.idxOf i + 1) (updV vals i v) w') ∧ StepsD P ops a0 qs ch St (i + 1) l

theorem stepsD_at {a0 : Act} {qs : List (Option Value)} {ch : List Nat} {St : Nat → (Nat → Value) → World → Prop} : ∀ (l : List Oper) (i k : Nat) (o : Oper), StepsD P ops a0 qs ch St i l → l[k]? = some o →
    (∀ x, qs.getD (i + k) none = some x → ∀ p vals a w, p < ch.length → (∀ m, m < ch.length → (∃ d, gotB ops (i + k) (ch.getD m 0) d = true) → m < p) → AtC ops a0 qs (i + k) vals a → St p vals w → opGives P ops o a w fun v w' => v = x ∧ St p vals w') ∧
    (qs.getD (i + k) none = none → ∀ vals a w, AtC ops a0 qs (i + k) vals a → St (ch.idxOf (i + k)) vals w → opGives P ops o a w fun v w' => St (ch.idxOf (i + k) + 1) (updV vals (i + k) v) w')
  | [], _, k, o, _, hk => by simp at hk
  | o0 :: l, i, 0, o, h, hk => by
    obtain rfl : o0 = o := by simpa using hk
    have h1 := h.1
    rw [Nat.add_zero]
    cases hq : qs.getD i none with
    | some y => rw [hq] at h1; exact ⟨fun x hx => (by cases hx; exact h1), fun hx => (by cases hx)⟩
    | none => rw [hq] at h1; exact ⟨fun x hx => (by cases hx), fun _ => h1⟩
  | o0 :: l, i, k + 1, o, h, hk => by
    have := stepsD_at l (i + 1) k o h.2 (by simpa using hk)
    rw [show i + 1 + k = i + (k + 1) by omega] at this
    exact this

theorem chainD_any {a0 : Act} {qs : List (Option Value)} {ch : List Nat} {St : Nat → (Nat → Value) → World → Prop} {n : Nat} (hap : apartB ops n = true) (hn : n = a0.tmps.size) (hbk : backB ops = true) (hcb : chB ops qs ch = true)
    (steps : StepsD P ops a0 qs ch St 0 ops.toList)
    (fin : ∀ vals w, (∀ j x, qs.getD j none = some x → vals j = x) → St ch.length vals w → Q .normal (putAll ops.toList vals 0 a0) w) :
    ∀ (fuel : Nat) (listed : Array Bool) (a : Act) (w : World) (vals : Nat → Value) (k : Nat), listed.size = ops.size → cnt ops.size (fun i => !listed.getD i true) = fuel → GoodC ops a0 qs ch St listed a w vals k → wpAny P .any ops Q fuel listed a w := by
  unfold chB at hcb
  rw [Bool.and_eq_true, Bool.and_eq_true, Bool.and_eq_true, decide_eq_true_iff] at hcb
  obtain ⟨⟨⟨hlink, hnod⟩, hpart⟩, hlt⟩ := hcb
  have done : ∀ (listed : Array Bool) (a : Act) (w : World) (vals : Nat → Value) (k : Nat), listed.size = ops.size → (∀ i, i < ops.size → listed.getD i true = true) → GoodC ops a0 qs ch St listed a w vals k → Q .normal a w := by
    intro listed a w vals k hls hall g
    have hall' : ∀ i, i < ops.size → listed.getD i false = true := fun i hi => by
      have := hall i hi
      simpa [Array.getD_eq_getD_getElem?, hls, hi] using this
    have hk : k = ch.length := by
      rcases Nat.lt_or_ge k ch.length with h | h
      · have := (g.chain k h).1 (hall' _ (by
          have := List.all_eq_true.1 hlt (ch.getD k 0) (by simp only [List.getD, List.getElem?_eq_getElem h]; exact List.getElem_mem h)
          simpa using this))
        omega
      · have := g.le; omega
    rw [goodC_all hap hn g hall']
    exact fin vals w g.quiet (hk ▸ g.st)
  intro fuel
  induction fuel with
  | zero =>
    intro listed a w vals k hls hc g
    have hall : ∀ i, i < ops.size → listed.getD i true = true := fun i hi => by
      have := cnt_zero _ _ hc i hi
      simpa using this
    refine ⟨?_, done listed a w vals k hls hall g⟩
    apply List.eq_nil_iff_forall_not_mem.2
    intro i hi
    obtain ⟨hun, o, ho, _⟩ := mem_ready.1 hi
    have := hall i (Array.getElem?_eq_some_iff.1 ho).1
    rw [this] at hun; cases hun
  | succ fuel ih =>
    intro listed a w vals k hls hc g
    refine ⟨fun h => done listed a w vals k hls (fun i hi => ?_) g, fun i hi => ?_⟩
    · induction i using Nat.strongRecOn with
      | ind i ihi =>
        cases hl : listed.getD i true with
        | true => rfl
        | false =>
          exfalso
          have ho : ops[i]? = some ops[i] := Array.getElem?_eq_getElem hi
          have : i ∈ Region.ready .any ops listed := mem_ready.2 ⟨hl, _, ho, fun e he hb => by
            have hlt := back_spec hbk ho he hb
            have := ihi e.on hlt (by omega)
            simpa [Array.getD_eq_getD_getElem?, hls, show e.on < ops.size by omega] using this⟩
          rw [h] at this
          cases this
    · obtain ⟨hun, o, ho, hall⟩ := mem_ready.1 hi
      have hil := (Array.getElem?_eq_some_iff.1 ho).1
      have hat := readyC_at g hi
      have hs := stepsD_at ops.toList 0 i o steps (by simpa using ho)
      rw [Nat.zero_add] at hs
      have hcnt := cnt_less ops.size (fun i => !listed.getD i true) (fun j => !(listed.setIfInBounds i true).getD j true) i hil (by simp [hun]) (by simp [Array.getD_eq_getD_getElem?, hls, hil]) (fun j hj => by rw [getD_set_ne true (Ne.symm hj)])
      have hunf : listed.getD i false = false := by
        simpa [Array.getD_eq_getD_getElem?, hls, hil] using hun
      have hp := List.all_eq_true.1 hpart i (by simpa using hil)
      have hset : ∀ j, (listed.setIfInBounds i true).getD j false = true ↔ j = i ∨ listed.getD j false = true := by
        intro j
        by_cases hji : j = i
        · subst hji; simp [Array.getD_eq_getD_getElem?, hls, hil]
        · rw [getD_set_ne false (Ne.symm hji)]; simp [hji]
      cases hq : qs.getD i none with
      | some x =>
        rw [hq] at hp
        simp only [Bool.and_eq_true, decide_eq_true_iff] at hp
        obtain ⟨⟨hp1, hp2⟩, hp3⟩ := hp
        have hni : i ∉ ch := by simpa using hp1
        have hklt : k < ch.length := by
          rcases Nat.lt_or_ge k ch.length with h | h
          · exact h
          · exfalso
            have hl := (g.chain (ch.length - 1) (by omega)).2 (by omega)
            have hLs : ch.getD (ch.length - 1) 0 < ops.size := by
              have := List.all_eq_true.1 hlt (ch.getD (ch.length - 1) 0) (by simp only [List.getD, List.getElem?_eq_getElem (show ch.length - 1 < ch.length by omega)]; exact List.getElem_mem _)
              simpa using this
            have hoL : ops[ch.getD (ch.length - 1) 0]? = some ops[ch.getD (ch.length - 1) 0] := Array.getElem?_eq_getElem hLs
            unfold depB at hp3
            rw [Bool.and_eq_true] at hp3
            have := reach_listed g.closed (fun e he hb => g.closed _ _ hoL hl e he hb) hoL _ i (by simpa using hp3.1) (by
              have := hp3.2
              simp at this
              exact fun e => this e.symm)
            rw [hunf] at this; cases this
        have hlk : ∀ m, m < ch.length → (∃ d, gotB ops i (ch.getD m 0) d = true) → m < k := fun m hm ⟨d, hg⟩ => by
          unfold gotB at hg
          simp only [ho, Bool.and_eq_true, List.any_eq_true, beq_iff_eq] at hg
          obtain ⟨⟨e, he, hb, hon⟩, hd⟩ := hg
          have hl := hall e (by simpa using he) hb
          rw [hon] at hl
          exact (g.chain m hm).1 hl
        refine wpOp_mono (fun a' w' hh => ?_) (wpOp_of_gives ho (hs.1 x hq k vals a w hklt hlk hat g.st))
        obtain ⟨v, rfl, rfl, hst⟩ := hh
        refine ih _ _ _ vals k (by simpa using hls) (by omega) (goodC_put hap hn hls g ho hi (g.quiet i _ hq) (fun _ _ => rfl) g.quiet g.le (fun m hm => ?_) hst)
        rw [hset]
        refine ⟨fun h => ?_, fun h => .inr ((g.chain m hm).2 h)⟩
        rcases h with h | h
        · exact absurd (by rw [← h]; simp only [List.getD, List.getElem?_eq_getElem hm]; exact List.getElem_mem hm) hni
        · exact (g.chain m hm).1 h
      | none =>
        rw [hq] at hp
        have hmem : i ∈ ch := by simpa using hp
        have hpos : ch.idxOf i < ch.length := List.idxOf_lt_length_iff.2 hmem
        have hgi : ch.getD (ch.idxOf i) 0 = i := by simp only [List.getD, List.getElem?_eq_getElem hpos]; exact List.getElem_idxOf hpos
        have hk : ch.idxOf i = k := by
          have h1 : ¬ ch.idxOf i < k := fun h => by
            have := (g.chain _ hpos).2 h
            rw [hgi, hunf] at this; cases this
          rcases Nat.lt_or_ge k (ch.idxOf i) with h2 | h2
          · exfalso
            obtain ⟨m, hm⟩ : ∃ m, ch.idxOf i = m + 1 := ⟨ch.idxOf i - 1, by omega⟩
            have hd := link_at ch hlink m (by omega)
            rw [← hm, hgi] at hd
            unfold depB at hd
            rw [Bool.and_eq_true] at hd
            have hl := reach_listed g.closed hall ho i (ch.getD m 0) (by simpa using hd.1) (by
              have := hd.2
              simp at this
              exact fun e => this e.symm)
            have := (g.chain m (by omega)).1 hl
            omega
          · omega
        have hst := g.st
        rw [← hk] at hst
        refine wpOp_mono (fun a' w' hh => ?_) (wpOp_of_gives ho (hs.2 hq vals a w hat hst))
        obtain ⟨v, rfl, hst'⟩ := hh
        refine ih _ _ _ (updV vals i v) (ch.idxOf i + 1) (by simpa using hls) (by omega) (goodC_put hap hn hls g ho hi (updV_same _ _ _) (fun j hj => updV_other _ _ hj) (fun j x hx => ?_) (by omega) (fun m hm => ?_) hst')
        · rw [updV_other _ _ (fun e => by rw [e, hq] at hx; cases hx)]
          exact g.quiet j x hx
        · rw [hset]
          constructor
          · rintro (h | h)
            · have := idxOf_getD ch hnod m hm
              rw [h] at this
              omega
            · have := (g.chain m hm).1 h
              omega
          · intro h
            by_cases hmk : m = ch.idxOf i
            · subst hmk; exact .inl hgi
            · exact .inr ((g.chain m hm).2 (by omega))

/-- A REGION THAT DRAWS ITS ORDER, BY A CHAIN -/
theorem wp_region_chaind {id : Nat} {l : List Oper} {a0 : Act} {w0 : World} (qs : List (Option Value)) (ch : List Nat) (St : Nat → (Nat → Value) → World → Prop) (n : Nat) (hm : P.follows .mixedOrders = true) (hap : apartB l.toArray n = true) (hbk : backB l.toArray = true) (hcb : chB l.toArray qs ch = true) (hn : n = a0.tmps.size)
    (h0 : ∀ vals, St 0 vals w0.drew)
    (steps : StepsD P l.toArray a0 qs ch St 0 l)
    (fin : ∀ vals w, (∀ j x, qs.getD j none = some x → vals j = x) → St ch.length vals w → Q .normal (putAll l vals 0 a0) w) :
    (Code.region id l.toArray true).wp P Q a0 w0 := by
  refine wp_region_any hm ?_
  refine chainD_any (a0 := a0) (qs := qs) (ch := ch) (St := St) hap hn hbk hcb (by simpa using steps) (by simpa using fin) _ _ _ _ (fun j => (qs.getD j none).getD undef) 0 (by simp) ?_ ?_
  · have : ∀ k, k ≤ l.toArray.size → cnt k (fun i => !(Array.replicate l.toArray.size false).getD i true) = k := by
      intro k
      induction k with
      | zero => intro _; rfl
      | succ k ih =>
        intro hk
        have hk' : k < l.toArray.size := hk
        rw [cnt, ih (by omega), Array.getD_eq_getD_getElem?, Array.getElem?_replicate, if_pos hk']
        rfl
    exact this _ (Nat.le_refl _)
  · have hno : ∀ j, (Array.replicate l.toArray.size false).getD j false = true → False := fun j hl => by
      simp [Array.getD_eq_getD_getElem?, Array.getElem?_replicate] at hl
      split at hl <;> simp at hl
    exact ⟨rfl, rfl, fun i o _ hl => (hno i hl).elim, fun _ _ => rfl, fun j o d _ hl => (hno j hl).elim, fun j x hx => by simp only [hx, Option.getD_some], Nat.zero_le _, fun m _ => ⟨fun hl => (hno _ hl).elim, fun h => absurd h (Nat.not_lt_zero _)⟩, h0 _⟩

end
end Go.Proofs.Ythnppkeifhnceaa
