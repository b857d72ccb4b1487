/- A region that draws its order, with operations that write, those behind them waiting for them at whatever remove. No program. -/
import Derived.Test.YtimmfnjkknbofaaDoorRegionM
namespace Go.Proofs.YtimmfnjkknbofaaDoor
set_option maxRecDepth 20000
open Go.RowKit
set_option linter.unusedVariables false
set_option maxRecDepth 100000

section
variable {P : Program} {ops : Array Oper} {Q : Exit → Act → World → Prop}

/-- operation j waits for i, at whatever remove -/
def depB (ops : Array Oper) (j i : Nat) : Bool := (reachB ops j j).contains i && j != i
theorem reach_listed {listed : Array Bool} (closed : ∀ i o, ops[i]? = some o → listed.getD i false = true → ∀ e ∈ o.after, Region.binds .any e = true → listed.getD e.on false = true) {L : Nat} {o : Oper} (hall : ∀ e ∈ o.after, Region.binds .any e = true → listed.getD e.on false = true) (ho : ops[L]? = some o) :
    ∀ m k, k ∈ reachB ops L m → k ≠ L → listed.getD k false = true := by
  have key : ∀ m k, k ∈ reachB ops L m → k = L ∨ listed.getD k false = true := by
    intro m
    induction m with
    | zero => intro k hk; simp [reachB] at hk; exact .inl hk
    | succ m ih =>
      intro k hk
      rw [reachB] at hk
      split at hk
      · rename_i hany
        rcases List.mem_cons.1 hk with rfl | hk
        · right
          obtain ⟨i, hir, hie⟩ := List.any_eq_true.1 hany
          unfold edgeB at hie
          rcases ih i hir with rfl | hli
          · rw [ho] at hie
            obtain ⟨e, he, hb⟩ := List.any_eq_true.1 hie
            rw [Bool.and_eq_true, beq_iff_eq] at hb
            rw [← hb.2]
            exact hall e (by simpa using he) hb.1
          · cases hoi : ops[i]? with
            | none => rw [hoi] at hie; simp at hie
            | some oi =>
              rw [hoi] at hie
              obtain ⟨e, he, hb⟩ := List.any_eq_true.1 hie
              rw [Bool.and_eq_true, beq_iff_eq] at hb
              rw [← hb.2]
              exact closed i oi hoi hli e (by simpa using he) hb.1
        · exact ih k hk
      · exact ih k hk
  intro m k hk hne
  exact (key m k hk).resolve_left hne

theorem goodT_put {a0 a : Act} {w0 w w' : World} {F : Nat → Value → World → Prop} {T : World → World → Prop} {Rl O : Nat → World → World → Prop} (h12 : ∀ i a b, Rl i a b → T a b) (h1 : ∀ i a b c, O i a b → O i b c → O i a c) (h2 : ∀ a b c, T a b → T b c → T a c) (h3 : ∀ i k a b, i ≠ k → depB ops i k = false → Rl i a b → O k a b) {n : Nat} (hap : apartB ops n = true) (hn : n = a0.tmps.size) {listed : Array Bool} (hls : listed.size = ops.size)
    (g : GoodM ops a0 w0 F T Rl O listed a w) {i : Nat} {o : Oper} (ho : ops[i]? = some o) (hi : i ∈ Region.ready .any ops listed) {v : Value} (hb : Rl i w w') (hst : ∀ j u, j ≠ i → depB ops j i = false → F j u w → F j u w') (hv : F i v w') :
    GoodM ops a0 w0 F T Rl O (listed.setIfInBounds i true) (a.put o.dst v) w' := by
  obtain ⟨hun, o', ho', hall⟩ := mem_ready.1 hi
  obtain rfl : o = o' := Option.some.inj (ho.symm.trans ho')
  have hil := (Array.getElem?_eq_some_iff.1 ho).1
  have hset : ∀ j, (listed.setIfInBounds i true).getD j false = true ↔ j = i ∨ listed.getD j false = true := by
    intro j
    by_cases hji : j = i
    · subst hji; simp [Array.getD_eq_getD_getElem?, hls, hil]
    · rw [getD_set_ne false (Ne.symm hji)]; simp [hji]
  have hb2 : T w w' := h12 _ _ _ hb
  refine ⟨?_, ?_, h2 _ _ _ g.rel hb2, (fun k hM => ?_), fun j oj hj hl e he hbd => ?_, fun s hs => ?_, fun j oj d hj hl hd => ?_⟩
  · rw [← g.defers]; cases o.dst <;> rfl
  · rw [← g.size]; cases o.dst <;> simp [Act.put]
  · have hne : i ≠ k := by
      rintro rfl
      have := (hset i).2 (.inl rfl)
      rw [hM] at this; cases this
    have hkl : listed.getD k false = false := by
      cases hx : listed.getD k false with
      | false => rfl
      | true =>
        have := (hset k).2 (.inr hx)
        rw [hM] at this; cases this
    refine h1 _ _ _ _ (g.relq k ?_) (h3 _ _ _ _ hne ?_ hb)
    rotate_left
    · cases hed : depB ops i k with
      | false => rfl
      | true =>
        have := reach_listed g.closed (fun e he hbd => hall e he hbd) ho i k (by unfold depB at hed; rw [Bool.and_eq_true] at hed; simpa using hed.1) (fun e => by subst e; exact hne rfl)
        rw [hkl] at this; cases this
    cases hx : listed.getD k false with
    | false => rfl
    | true =>
      have := (hset k).2 (.inr hx)
      rw [hM] at this; cases this
  · rcases (hset j).1 hl with rfl | hl'
    · obtain rfl : o = oj := Option.some.inj (ho.symm.trans hj)
      exact (hset _).2 (.inr (hall e he hbd))
    · exact (hset _).2 (.inr (g.closed j oj hj hl' e he hbd))
  · rw [put_other s (hs i o ho ((hset i).2 (.inl rfl)))]
    exact g.old s fun j oj hj hl => hs j oj hj ((hset j).2 (.inr hl))
  · rcases (hset j).1 hl with rfl | hl'
    · obtain rfl : o = oj := Option.some.inj (ho.symm.trans hj)
      have hlt := apart_lt hap ho hd
      refine ⟨v, ?_, hv⟩
      rw [hd]
      simp [Act.put, g.size, ← hn, hlt]
    · obtain ⟨u, hu, hFu⟩ := g.got j oj d hj hl' hd
      have hji : j ≠ i := by
        rintro rfl
        have : listed.getD j false = false := by
          simpa [Array.getD_eq_getD_getElem?, hls, hil] using hun
        rw [this] at hl'; cases hl'
      refine ⟨u, by rw [put_other d (apart_spec hap hj ho hd hji)]; exact hu, hst j u hji ?_ hFu⟩
      cases hed : depB ops j i with
      | false => rfl
      | true =>
        have := reach_listed g.closed (fun e he hbd => g.closed j oj hj hl' e he hbd) hj j i (by unfold depB at hed; rw [Bool.and_eq_true] at hed; simpa using hed.1) (fun e => hji e.symm)
        have hunf : listed.getD i false = false := by
          by_cases h : i < listed.size
          · simpa [Array.getD_eq_getD_getElem?, h] using hun
          · simp [Array.getD_eq_getD_getElem?, h]
        rw [hunf] at this; cases this

theorem last_anyT {a0 : Act} {w0 : World} {F : Nat → Value → World → Prop} {T : World → World → Prop} {Rl O : Nat → World → World → Prop} (h12 : ∀ i a b, Rl i a b → T a b) (h1 : ∀ i a b c, O i a b → O i b c → O i a c) (h2 : ∀ a b c, T a b → T b c → T a c) (h3 : ∀ i k a b, i ≠ k → depB ops i k = false → Rl i a b → O k a b)
    (hF : ∀ i j v w w', j ≠ i → depB ops j i = false → Rl i w w' → F j v w → F j v w') {n : Nat} (hap : apartB ops n = true) (hn : n = a0.tmps.size) (hbk : backB ops = true) {L : Nat} (hL : lastB ops L = true)
    (steps : StepsM P ops a0 w0 F T Rl O 0 ops.toList.dropLast)
    (fin : ∀ vals w, T w0 w → (∀ j d, j < L → (ops[j]?).bind (·.dst) = some d → F j (vals j) w) → wpOp P ops Q L (fun a w => Q .normal a w) (putAll ops.toList.dropLast vals 0 a0) w) :
    ∀ (fuel : Nat) (listed : Array Bool) (a : Act) (w : World), listed.size = ops.size → cnt ops.size (fun i => !listed.getD i true) = fuel → listed.getD L false = false → GoodM ops a0 w0 F T Rl O listed a w → wpAny P .any ops Q fuel listed a w := by
  have hsz : ops.size = L + 1 := by
    unfold lastB at hL
    rw [Bool.and_eq_true, beq_iff_eq] at hL
    exact hL.1
  intro fuel
  induction fuel with
  | zero =>
    intro listed a w hls hc hLn g
    have := cnt_zero _ _ hc L (by omega)
    simp [Array.getD_eq_getD_getElem?, hls, hsz] at this hLn
    rw [this] at hLn; cases hLn
  | succ fuel ih =>
    intro listed a w hls hc hLn g
    refine ⟨fun h => ?_, fun i hi => ?_⟩
    · exfalso
      have all : ∀ i, i < ops.size → listed.getD i true = true := by
        intro i hi
        induction i using Nat.strongRecOn with
        | ind i ihi =>
          cases hl : listed.getD i true with
          | true => rfl
          | false =>
            exfalso
            have ho : ops[i]? = some ops[i] := Array.getElem?_eq_getElem hi
            have : i ∈ Region.ready .any ops listed := mem_ready.2 ⟨hl, _, ho, fun e he hb => by
              have hlt := back_spec hbk ho he hb
              have := ihi e.on hlt (by omega)
              simpa [Array.getD_eq_getD_getElem?, hls, show e.on < ops.size by omega] using this⟩
            rw [h] at this
            cases this
      have := all L (by omega)
      simp [Array.getD_eq_getD_getElem?, hls, hsz] at this hLn
      rw [this] at hLn; cases hLn
    · obtain ⟨hun, o, ho, _⟩ := mem_ready.1 hi
      have hil := (Array.getElem?_eq_some_iff.1 ho).1
      have hcnt := cnt_less ops.size (fun i => !listed.getD i true) (fun j => !(listed.setIfInBounds i true).getD j true) i hil (by simp [hun]) (by simp [Array.getD_eq_getD_getElem?, hls, hil]) (fun j hj => by rw [getD_set_ne true (Ne.symm hj)])
      by_cases hiL : i = L
      · subst hiL
        have hall := last_allM g hL hi
        obtain ⟨vals, rfl, hv⟩ := goodM_all hap hn hsz g hall hLn
        refine wpOp_mono (fun a' w' hh => ?_) (fin vals w g.rel hv)
        have hdone : ∀ k, k < ops.size → (listed.setIfInBounds i true).getD k true = true := by
          intro k hk
          by_cases hki : k = i
          · subst hki; simp [Array.getD_eq_getD_getElem?, hls, hk]
          · rw [getD_set_ne true (Ne.symm hki)]
            have := hall k (by omega)
            simpa [Array.getD_eq_getD_getElem?, hls, hk] using this
        have hnone : Region.ready .any ops (listed.setIfInBounds i true) = [] := by
          apply List.eq_nil_iff_forall_not_mem.2
          intro k hk
          obtain ⟨hun', o', ho', _⟩ := mem_ready.1 hk
          have := hdone k (Array.getElem?_eq_some_iff.1 ho').1
          rw [this] at hun'; cases hun'
        cases fuel with
        | zero => exact ⟨hnone, hh⟩
        | succ fuel =>
          refine ⟨fun _ => hh, fun k hk => ?_⟩
          rw [hnone] at hk; cases hk
      · have hs := stepsM_at ops.toList.dropLast 0 i o steps (by
          rw [List.getElem?_dropLast]
          simp only [Array.length_toList, hsz, Nat.add_sub_cancel, Array.getElem?_toList]
          rw [if_pos (by omega)]; exact ho) a w (by simpa using readyM_at g hi)
        rw [Nat.zero_add] at hs
        refine wpOp_mono (fun a' w' hh => ?_) (wpOp_of_gives ho hs)
        obtain ⟨v, rfl, hb, hv⟩ := hh
        refine ih _ _ _ (by simpa using hls) (by omega) (by rw [getD_set_ne false hiL]; exact hLn) (goodT_put h12 h1 h2 h3 hap hn hls g ho hi hb ?_ hv)
        · intro j u hji hed hFj
          exact hF i j u _ _ hji hed hb hFj

theorem wp_region_lastT {id : Nat} {l : List Oper} {a0 : Act} {w0 : World} (F : Nat → Value → World → Prop) (T : World → World → Prop) (Rl O : Nat → World → World → Prop) (n L : Nat) (hm : P.follows .mixedOrders = true) (hap : apartB l.toArray n = true) (hbk : backB l.toArray = true) (hL : lastB l.toArray L = true) (hn : n = a0.tmps.size)
    (h12 : ∀ i a b, Rl i a b → T a b) (h1 : ∀ i a b c, O i a b → O i b c → O i a c) (h2 : ∀ a b c, T a b → T b c → T a c) (h3 : ∀ i k a b, i ≠ k → depB l.toArray i k = false → Rl i a b → O k a b) (h0 : T w0 w0.drew) (h0' : ∀ i, O i w0 w0.drew)
    (hF : ∀ i j v w w', j ≠ i → depB l.toArray j i = false → Rl i w w' → F j v w → F j v w')
    (steps : StepsM P l.toArray a0 w0 F T Rl O 0 l.dropLast)
    (fin : ∀ oL, l.toArray[L]? = some oL → ∀ vals w, T w0 w → (∀ j d, j < L → (l.toArray[j]?).bind (·.dst) = some d → F j (vals j) w) → opGives P l.toArray oL (putAll l.dropLast vals 0 a0) w (fun v w' => Q .normal ((putAll l.dropLast vals 0 a0).put oL.dst v) w')) :
    (Code.region id l.toArray true).wp P Q a0 w0 := by
  refine wp_region_any hm ?_
  have fin : ∀ vals w, T w0 w → (∀ j d, j < L → (l.toArray[j]?).bind (·.dst) = some d → F j (vals j) w) → wpOp P l.toArray Q L (fun a w => Q .normal a w) (putAll l.dropLast vals 0 a0) w := by
    intro vals w k1 k2
    have hlt : L < l.toArray.size := by
      unfold lastB at hL
      rw [Bool.and_eq_true, beq_iff_eq] at hL
      omega
    refine wpOp_mono (fun a' w' hh => ?_) (wpOp_of_gives (Array.getElem?_eq_getElem hlt) (fin _ (Array.getElem?_eq_getElem hlt) vals w k1 k2))
    obtain ⟨v, rfl, hq⟩ := hh
    exact hq
  refine last_anyT (a0 := a0) (w0 := w0) (F := F) h12 h1 h2 h3 hF hap hn hbk hL (by simpa using steps) (by simpa using fin) _ _ _ _ (by simp) ?_ ?_ ?_
  · have : ∀ k, k ≤ l.toArray.size → cnt k (fun i => !(Array.replicate l.toArray.size false).getD i true) = k := by
      intro k
      induction k with
      | zero => intro _; rfl
      | succ k ih =>
        intro hk
        have hk' : k < l.toArray.size := hk
        rw [cnt, ih (by omega), Array.getD_eq_getD_getElem?, Array.getElem?_replicate, if_pos hk']
        rfl
    exact this _ (Nat.le_refl _)
  · simp [Array.getD_eq_getD_getElem?, Array.getElem?_replicate]
    split <;> simp
  · refine ⟨rfl, rfl, h0, (fun i _ => h0' i), fun i o _ hl => ?_, fun _ _ => rfl, fun j o d _ hl => ?_⟩
    · exfalso
      simp [Array.getD_eq_getD_getElem?, Array.getElem?_replicate] at hl
      split at hl <;> simp at hl
    · exfalso
      simp [Array.getD_eq_getD_getElem?, Array.getElem?_replicate] at hl
      split at hl <;> simp at hl

/-! ### with 'Only': operation M alone writes -/
def AllStT (ops : Array Oper) (S : Nat → Prop) (M : Nat) : Nat → List (Value → World → Prop) → Prop
  | _, [] => True
  | k, p :: l => (StS (fun _ => False) p ∧ (k ≠ M → depB ops k M = false → StS S p)) ∧ AllStT ops S M (k + 1) l
theorem allStT_isV {ops : Array Oper} {S : Nat → Prop} {M i : Nat} {x : Value} {l : List (Value → World → Prop)} (h : AllStT ops S M (i + 1) l) : AllStT ops S M i (isV x :: l) := ⟨⟨stS_isV _ _, fun _ _ => stS_isV _ _⟩, h⟩
theorem allStT_at {ops : Array Oper} {S : Nat → Prop} {M : Nat} : ∀ (l : List (Value → World → Prop)) (k : Nat), AllStT ops S M k l → ∀ i j v w w', k + j ≠ i → depB ops (k + j) i = false → Only (fun x => i = M ∧ S x) w w' → FL l j v w → FL l j v w'
  | [], _, _, _, _, _, _, _, _, _, _, _ => by simp [FL]
  | p :: l, k, hs, i, 0, v, w, w', hn, he, hb, h => by
    by_cases hi : i = M
    · subst hi
      exact hs.1.2 (by omega) he v w w' (hb.mono (fun _ _ h => h.2)) h
    · exact hs.1.1 v w w' (hb.mono (fun _ _ h => hi h.1)) h
  | p :: l, k, hs, i, j + 1, v, w, w', hn, he, hb, h => allStT_at l (k + 1) hs.2 i j v w w' (by omega) (by rw [show k + 1 + j = k + (j + 1) by omega]; exact he) hb h

theorem wp_region_dep {id : Nat} {l : List Oper} {a0 : Act} {w0 : World} (S : Nat → Prop) (fs : List (Value → World → Prop)) (M n L : Nat) (hm : P.follows .mixedOrders = true) (hap : apartB l.toArray n = true) (hbk : backB l.toArray = true) (hL : lastB l.toArray L = true) (hn : n = a0.tmps.size)
    (hst : AllStT l.toArray S M 0 fs) (steps : StepsM P l.toArray a0 w0 (FL fs) (Only S) (fun i => Only (fun x => i = M ∧ S x)) (fun i => Only (fun x => i ≠ M ∧ S x)) 0 l.dropLast)
    (fin : ∀ oL, l.toArray[L]? = some oL → ∀ vals w, Only S w0 w → (∀ j d, j < L → (l.toArray[j]?).bind (·.dst) = some d → FL fs j (vals j) w) → opGives P l.toArray oL (putAll l.dropLast vals 0 a0) w (fun v w' => Q .normal ((putAll l.dropLast vals 0 a0).put oL.dst v) w')) :
    (Code.region id l.toArray true).wp P Q a0 w0 :=
  wp_region_lastT (FL fs) _ _ _ n L hm hap hbk hL hn (fun i _ _ h => h.mono (fun k _ h => h.2)) (fun _ _ _ _ h k => h.trans k (fun _ _ h => h)) (fun _ _ _ h k => h.trans k (fun _ _ h => h)) (fun i k _ _ hik he h => h.mono (fun b _ h => ⟨fun e => hik (h.1.trans e.symm), h.2⟩)) (Only.refl _ w0).drew (fun i => (Only.refl _ w0).drew)
    (fun i j v w w' hji he => allStT_at fs 0 hst i j v w w' (by omega) (by rw [Nat.zero_add]; exact he)) steps fin
end

end Go.Proofs.YtimmfnjkknbofaaDoor
