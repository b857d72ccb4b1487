/- A region that draws its order, by a chain, in an iterator: a link may be a round of the caller's loop. No program. -/
import Derived.Test.YtfihnmdhclnhgaaRegionC
import Derived.OrdersIn
import Derived.RangeFuncCalls
import Derived.OwnWalkIn
namespace Go.Proofs.Ytfihnmdhclnhgaa
set_option maxRecDepth 20000
open Go.RowKit
set_option linter.unusedVariables false
set_option maxRecDepth 100000

section
variable {P : Program} {ops : Array Oper} {Q : Exit → Act → World → Prop}

/-- what an operation hands on, at the wide fence -/
def opGivesY (N1 : Nat) (P : Program) (ops : Array Oper) (o : Oper) (a : Act) (w : World) (Φ : Value → World → Prop) : Prop :=
  ∀ (Q : Exit → Act → World → Prop) (i : Nat), ops[i]? = some o → wpOpIn Fence.wide N1 P ops Q i (fun a' w' => ∃ v, a' = a.put o.dst v ∧ Φ v w') a w
theorem wpOpIn_of_givesY {N1 : Nat} {i : Nat} {o : Oper} {a : Act} {w : World} {Φ : Value → World → Prop} (hi : ops[i]? = some o) (h : opGivesY N1 P ops o a w Φ) :
    wpOpIn Fence.wide N1 P ops Q i (fun a' w' => ∃ v, a' = a.put o.dst v ∧ Φ v w') a w := h Q i hi
theorem givesY_of {N1 : Nat} {o : Oper} {a : Act} {w : World} {Φ : Value → World → Prop} (hnd : ∀ c, o.op ≠ .defer c) (h : opGives P ops o a w Φ) : opGivesY N1 P ops o a w Φ := fun Q i hi => by
  unfold wpOpIn
  simp only [hi]
  unfold opGives at h
  split
  · rename_i hw
    rw [if_pos hw] at h
    unfold Oper.wpIn
    refine ⟨fun f _ => trivial, ?_⟩
    rw [Oper.semAt_eq _ _ _ hnd]
    generalize (execOp a.eval o).run P w = r at *
    cases r with
    | ok n w' =>
      cases n <;> simp only [Oper.uponIn] at h ⊢
      case value v => exact ⟨v, rfl, h⟩
      case skip => exact ⟨undef, rfl, h⟩
      case enter f args =>
        refine ⟨fun hd => (by cases hd), callsIn_wide.2 (Calls.mono h fun e w'' he => ?_)⟩
        obtain ⟨v, rfl, hv⟩ := he
        exact ⟨v, rfl, hv⟩
    | halt x w' => cases x <;> simp at h
  · rename_i hw
    rw [if_neg hw] at h
    exact ⟨fun f _ => trivial, undef, rfl, h⟩
/-- a round of the caller's loop -/
theorem givesY_yield {N1 : Nat} {o : Oper} {a : Act} {w : World} {Φ : Value → World → Prop} (hnd : ∀ c, o.op ≠ .defer c) (hw : Region.wanted o (yielded ops a.tmps) = true) (l : Nat) (args : Array Value) (hr : ∀ f tmps assign body, (Instr.yield l args).run P w = .ok (.round l f tmps assign body) w → (execOp a.eval o).run P w = .ok (.round l f tmps assign body) w)
    (h : YieldAt Fence.wide (N1 - 1) P l args w fun e w' => ∃ v, e = .returned v ∧ Φ v w') : opGivesY N1 P ops o a w Φ := fun Q i hi => by
  obtain ⟨f, tmps, assign, body, h1, h2⟩ := h
  unfold wpOpIn
  simp only [hi]
  rw [if_pos hw]
  unfold Oper.wpIn
  refine ⟨fun f _ => trivial, ?_⟩
  rw [Oper.semAt_eq _ _ _ hnd, hr _ _ _ _ h1]
  refine ⟨fun hd => (by cases hd), RoundIn.mono h2 (fun e w' he => ?_)⟩
  obtain ⟨v, rfl, hv⟩ := he
  exact ⟨v, rfl, hv⟩
theorem chain_zero {ch : List Nat} {k i : Nat} (hlk : ∀ m, m < k → depB ops (ch.getD m 0) i = false) (h : depB ops (ch.getD 0 0) i = true) : k = 0 := by
  cases k with
  | zero => rfl
  | succ k => have := hlk 0 (Nat.succ_pos _); rw [h] at this; cases this

/-- each operation's step -/
def StepsY (N1 : Nat) (P : Program) (ops : Array Oper) (a0 : Act) (qs : List (Option Value)) (ch : List Nat) (St : Nat → (Nat → Value) → World → Prop) : Nat → List Oper → Prop
  | _, [] => True
  | i, o :: l => (match qs.getD i none with
      | some x => ∀ k vals a w, k < ch.length → (∀ m, m < k → depB ops (ch.getD m 0) i = false) → AtC ops a0 qs i vals a → St k vals w → opGivesY N1 P ops o a w fun v w' => v = x ∧ St k vals w'
      | none => ∀ vals a w, AtC ops a0 qs i vals a → St (ch.idxOf i) vals w → opGivesY N1 P ops o a w fun v w' => St (ch.idxOf i + 1) (updV vals i v) w') ∧ StepsY N1 P ops a0 qs ch St (i + 1) l

theorem stepsY_at {N1 : Nat} {a0 : Act} {qs : List (Option Value)} {ch : List Nat} {St : Nat → (Nat → Value) → World → Prop} : ∀ (l : List Oper) (i k : Nat) (o : Oper), StepsY N1 P ops a0 qs ch St i l → l[k]? = some o →
    (∀ x, qs.getD (i + k) none = some x → ∀ p vals a w, p < ch.length → (∀ m, m < p → depB ops (ch.getD m 0) (i + k) = false) → AtC ops a0 qs (i + k) vals a → St p vals w → opGivesY N1 P ops o a w fun v w' => v = x ∧ St p vals w') ∧
    (qs.getD (i + k) none = none → ∀ vals a w, AtC ops a0 qs (i + k) vals a → St (ch.idxOf (i + k)) vals w → opGivesY N1 P ops o a w fun v w' => St (ch.idxOf (i + k) + 1) (updV vals (i + k) v) w')
  | [], _, k, o, _, hk => by simp at hk
  | o0 :: l, i, 0, o, h, hk => by
    obtain rfl : o0 = o := by simpa using hk
    have h1 := h.1
    rw [Nat.add_zero]
    cases hq : qs.getD i none with
    | some y => rw [hq] at h1; exact ⟨fun x hx => (by cases hx; exact h1), fun hx => (by cases hx)⟩
    | none => rw [hq] at h1; exact ⟨fun x hx => (by cases hx), fun _ => h1⟩
  | o0 :: l, i, k + 1, o, h, hk => by
    have := stepsY_at l (i + 1) k o h.2 (by simpa using hk)
    rw [show i + 1 + k = i + (k + 1) by omega] at this
    exact this

theorem chain_anyY {N1 : Nat} {a0 : Act} {qs : List (Option Value)} {ch : List Nat} {St : Nat → (Nat → Value) → World → Prop} {n : Nat} (hap : apartB ops n = true) (hn : n = a0.tmps.size) (hbk : backB ops = true) (hcb : chB ops qs ch = true)
    (steps : StepsY N1 P ops a0 qs ch St 0 ops.toList)
    (fin : ∀ vals w, (∀ j x, qs.getD j none = some x → vals j = x) → St ch.length vals w → Q .normal (putAll ops.toList vals 0 a0) w) :
    ∀ (fuel : Nat) (listed : Array Bool) (a : Act) (w : World) (vals : Nat → Value) (k : Nat), listed.size = ops.size → cnt ops.size (fun i => !listed.getD i true) = fuel → GoodC ops a0 qs ch St listed a w vals k → wpAnyIn Fence.wide N1 P .any ops Q fuel listed a w := by
  unfold chB at hcb
  rw [Bool.and_eq_true, Bool.and_eq_true, Bool.and_eq_true, decide_eq_true_iff] at hcb
  obtain ⟨⟨⟨hlink, hnod⟩, hpart⟩, hlt⟩ := hcb
  have done : ∀ (listed : Array Bool) (a : Act) (w : World) (vals : Nat → Value) (k : Nat), listed.size = ops.size → (∀ i, i < ops.size → listed.getD i true = true) → GoodC ops a0 qs ch St listed a w vals k → Q .normal a w := by
    intro listed a w vals k hls hall g
    have hall' : ∀ i, i < ops.size → listed.getD i false = true := fun i hi => by
      have := hall i hi
      simpa [Array.getD_eq_getD_getElem?, hls, hi] using this
    have hk : k = ch.length := by
      rcases Nat.lt_or_ge k ch.length with h | h
      · have := (g.chain k h).1 (hall' _ (by
          have := List.all_eq_true.1 hlt (ch.getD k 0) (by simp only [List.getD, List.getElem?_eq_getElem h]; exact List.getElem_mem h)
          simpa using this))
        omega
      · have := g.le; omega
    rw [goodC_all hap hn g hall']
    exact fin vals w g.quiet (hk ▸ g.st)
  intro fuel
  induction fuel with
  | zero =>
    intro listed a w vals k hls hc g
    have hall : ∀ i, i < ops.size → listed.getD i true = true := fun i hi => by
      have := cnt_zero _ _ hc i hi
      simpa using this
    refine ⟨?_, done listed a w vals k hls hall g⟩
    apply List.eq_nil_iff_forall_not_mem.2
    intro i hi
    obtain ⟨hun, o, ho, _⟩ := mem_ready.1 hi
    have := hall i (Array.getElem?_eq_some_iff.1 ho).1
    rw [this] at hun; cases hun
  | succ fuel ih =>
    intro listed a w vals k hls hc g
    refine ⟨fun h => done listed a w vals k hls (fun i hi => ?_) g, fun i hi => ?_⟩
    · induction i using Nat.strongRecOn with
      | ind i ihi =>
        cases hl : listed.getD i true with
        | true => rfl
        | false =>
          exfalso
          have ho : ops[i]? = some ops[i] := Array.getElem?_eq_getElem hi
          have : i ∈ Region.ready .any ops listed := mem_ready.2 ⟨hl, _, ho, fun e he hb => by
            have hlt := back_spec hbk ho he hb
            have := ihi e.on hlt (by omega)
            simpa [Array.getD_eq_getD_getElem?, hls, show e.on < ops.size by omega] using this⟩
          rw [h] at this
          cases this
    · obtain ⟨hun, o, ho, hall⟩ := mem_ready.1 hi
      have hil := (Array.getElem?_eq_some_iff.1 ho).1
      have hat := readyC_at g hi
      have hs := stepsY_at ops.toList 0 i o steps (by simpa using ho)
      rw [Nat.zero_add] at hs
      have hcnt := cnt_less ops.size (fun i => !listed.getD i true) (fun j => !(listed.setIfInBounds i true).getD j true) i hil (by simp [hun]) (by simp [Array.getD_eq_getD_getElem?, hls, hil]) (fun j hj => by rw [getD_set_ne true (Ne.symm hj)])
      have hunf : listed.getD i false = false := by
        simpa [Array.getD_eq_getD_getElem?, hls, hil] using hun
      have hp := List.all_eq_true.1 hpart i (by simpa using hil)
      have hset : ∀ j, (listed.setIfInBounds i true).getD j false = true ↔ j = i ∨ listed.getD j false = true := by
        intro j
        by_cases hji : j = i
        · subst hji; simp [Array.getD_eq_getD_getElem?, hls, hil]
        · rw [getD_set_ne false (Ne.symm hji)]; simp [hji]
      cases hq : qs.getD i none with
      | some x =>
        rw [hq] at hp
        simp only [Bool.and_eq_true, decide_eq_true_iff] at hp
        obtain ⟨⟨hp1, hp2⟩, hp3⟩ := hp
        have hni : i ∉ ch := by simpa using hp1
        have hklt : k < ch.length := by
          rcases Nat.lt_or_ge k ch.length with h | h
          · exact h
          · exfalso
            have hl := (g.chain (ch.length - 1) (by omega)).2 (by omega)
            have hLs : ch.getD (ch.length - 1) 0 < ops.size := by
              have := List.all_eq_true.1 hlt (ch.getD (ch.length - 1) 0) (by simp only [List.getD, List.getElem?_eq_getElem (show ch.length - 1 < ch.length by omega)]; exact List.getElem_mem _)
              simpa using this
            have hoL : ops[ch.getD (ch.length - 1) 0]? = some ops[ch.getD (ch.length - 1) 0] := Array.getElem?_eq_getElem hLs
            unfold depB at hp3
            rw [Bool.and_eq_true] at hp3
            have := reach_listed g.closed (fun e he hb => g.closed _ _ hoL hl e he hb) hoL _ i (by simpa using hp3.1) (by
              have := hp3.2
              simp at this
              exact fun e => this e.symm)
            rw [hunf] at this; cases this
        have hnd : ∀ m, m < k → depB ops (ch.getD m 0) i = false := fun m hm => by
          cases hx : depB ops (ch.getD m 0) i with
          | false => rfl
          | true =>
            exfalso
            have hl := (g.chain m (by omega)).2 hm
            have hLs : ch.getD m 0 < ops.size := by
              have := List.all_eq_true.1 hlt (ch.getD m 0) (by simp only [List.getD, List.getElem?_eq_getElem (show m < ch.length by omega)]; exact List.getElem_mem _)
              simpa using this
            have hoL : ops[ch.getD m 0]? = some ops[ch.getD m 0] := Array.getElem?_eq_getElem hLs
            unfold depB at hx
            rw [Bool.and_eq_true] at hx
            have := reach_listed g.closed (fun e he hb => g.closed _ _ hoL hl e he hb) hoL _ i (by simpa using hx.1) (by
              have := hx.2
              simp at this
              exact fun e => this e.symm)
            rw [hunf] at this; cases this
        refine wpOpIn_mono (fun a' w' hh => ?_) (wpOpIn_of_givesY ho (hs.1 x hq k vals a w hklt hnd hat g.st))
        obtain ⟨v, rfl, rfl, hst⟩ := hh
        refine ih _ _ _ vals k (by simpa using hls) (by omega) (goodC_put hap hn hls g ho hi (g.quiet i _ hq) (fun _ _ => rfl) g.quiet g.le (fun m hm => ?_) hst)
        rw [hset]
        refine ⟨fun h => ?_, fun h => .inr ((g.chain m hm).2 h)⟩
        rcases h with h | h
        · exact absurd (by rw [← h]; simp only [List.getD, List.getElem?_eq_getElem hm]; exact List.getElem_mem hm) hni
        · exact (g.chain m hm).1 h
      | none =>
        rw [hq] at hp
        have hmem : i ∈ ch := by simpa using hp
        have hpos : ch.idxOf i < ch.length := List.idxOf_lt_length_iff.2 hmem
        have hgi : ch.getD (ch.idxOf i) 0 = i := by simp only [List.getD, List.getElem?_eq_getElem hpos]; exact List.getElem_idxOf hpos
        have hk : ch.idxOf i = k := by
          have h1 : ¬ ch.idxOf i < k := fun h => by
            have := (g.chain _ hpos).2 h
            rw [hgi, hunf] at this; cases this
          rcases Nat.lt_or_ge k (ch.idxOf i) with h2 | h2
          · exfalso
            obtain ⟨m, hm⟩ : ∃ m, ch.idxOf i = m + 1 := ⟨ch.idxOf i - 1, by omega⟩
            have hd := link_at ch hlink m (by omega)
            rw [← hm, hgi] at hd
            unfold depB at hd
            rw [Bool.and_eq_true] at hd
            have hl := reach_listed g.closed hall ho i (ch.getD m 0) (by simpa using hd.1) (by
              have := hd.2
              simp at this
              exact fun e => this e.symm)
            have := (g.chain m (by omega)).1 hl
            omega
          · omega
        have hst := g.st
        rw [← hk] at hst
        refine wpOpIn_mono (fun a' w' hh => ?_) (wpOpIn_of_givesY ho (hs.2 hq vals a w hat hst))
        obtain ⟨v, rfl, hst'⟩ := hh
        refine ih _ _ _ (updV vals i v) (ch.idxOf i + 1) (by simpa using hls) (by omega) (goodC_put hap hn hls g ho hi (updV_same _ _ _) (fun j hj => updV_other _ _ hj) (fun j x hx => ?_) (by omega) (fun m hm => ?_) hst')
        · rw [updV_other _ _ (fun e => by rw [e, hq] at hx; cases hx)]
          exact g.quiet j x hx
        · rw [hset]
          constructor
          · rintro (h | h)
            · have := idxOf_getD ch hnod m hm
              rw [h] at this
              omega
            · have := (g.chain m hm).1 h
              omega
          · intro h
            by_cases hmk : m = ch.idxOf i
            · subst hmk; exact .inl hgi
            · exact .inr ((g.chain m hm).2 (by omega))

/-- A REGION THAT DRAWS ITS ORDER, BY A CHAIN, IN AN ITERATOR -/
theorem wpIn_region_chainY {N1 : Nat} {id : Nat} {l : List Oper} {a0 : Act} {w0 : World} (qs : List (Option Value)) (ch : List Nat) (St : Nat → (Nat → Value) → World → Prop) (n : Nat) (hm : P.follows .mixedOrders = true) (hap : apartB l.toArray n = true) (hbk : backB l.toArray = true) (hcb : chB l.toArray qs ch = true) (hn : n = a0.tmps.size)
    (h0 : ∀ vals, St 0 vals w0.drew)
    (steps : StepsY N1 P l.toArray a0 qs ch St 0 l)
    (fin : ∀ vals w, (∀ j x, qs.getD j none = some x → vals j = x) → St ch.length vals w → Q .normal (putAll l vals 0 a0) w) :
    (Code.region id l.toArray true).wpIn Fence.wide N1 P Q a0 w0 := by
  refine wpIn_region_any hm ?_
  refine chain_anyY (a0 := a0) (qs := qs) (ch := ch) (St := St) hap hn hbk hcb (by simpa using steps) (by simpa using fin) _ _ _ _ (fun j => (qs.getD j none).getD undef) 0 (by simp) ?_ ?_
  · have : ∀ k, k ≤ l.toArray.size → cnt k (fun i => !(Array.replicate l.toArray.size false).getD i true) = k := by
      intro k
      induction k with
      | zero => intro _; rfl
      | succ k ih =>
        intro hk
        have hk' : k < l.toArray.size := hk
        rw [cnt, ih (by omega), Array.getD_eq_getD_getElem?, Array.getElem?_replicate, if_pos hk']
        rfl
    exact this _ (Nat.le_refl _)
  · have hno : ∀ j, (Array.replicate l.toArray.size false).getD j false = true → False := fun j hl => by
      simp [Array.getD_eq_getD_getElem?, Array.getElem?_replicate] at hl
      split at hl <;> simp at hl
    exact ⟨rfl, rfl, fun i o _ hl => (hno i hl).elim, fun _ _ => rfl, fun j o d _ hl => (hno j hl).elim, fun j x hx => by simp only [hx, Option.getD_some], Nat.zero_le _, fun m _ => ⟨fun hl => (hno _ hl).elim, fun h => absurd h (Nat.not_lt_zero _)⟩, h0 _⟩

end
end Go.Proofs.Ytfihnmdhclnhgaa
