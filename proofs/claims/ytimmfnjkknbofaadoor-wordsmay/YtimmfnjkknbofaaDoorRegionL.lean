/- A region that draws its order and writes: all but its last operation hand on facts; one of them (M) may write (relation R2), the others not (R); the last one, which waits for all others, is walked by itself. No program. -/
import Derived.Test.YtimmfnjkknbofaaDoorRegion
import Derived.Test.YtimmfnjkknbofaaDoorDBase
namespace Go.Proofs.YtimmfnjkknbofaaDoor
set_option maxRecDepth 20000
open Go.RowKit
set_option linter.unusedVariables false

section
variable {P : Program} {ops : Array Oper} {Q : Exit → Act → World → Prop}

/-- what the last operation waits for, near or far -/
def edgeB (ops : Array Oper) (i k : Nat) : Bool := match ops[i]? with | some o => o.after.toList.any fun e => Region.binds .any e && e.on == k | none => false
def reachB (ops : Array Oper) (L : Nat) : Nat → List Nat
  | 0 => [L]
  | m + 1 => if (reachB ops L m).any (fun i => edgeB ops i (L - (m + 1))) then (L - (m + 1)) :: reachB ops L m else reachB ops L m
def lastB (ops : Array Oper) (L : Nat) : Bool := ops.size == L + 1 && (List.range L).all fun k => (reachB ops L L).contains k

/-- how an operation may turn the world: M as R2 says, all others as R does -/
def relM (R R2 : World → World → Prop) (M i : Nat) (w w' : World) : Prop := if i = M then R2 w w' else R w w'
theorem relM_quiet {R R2 : World → World → Prop} {M i : Nat} {w w' : World} (hi : i ≠ M) (h : R w w') : relM R R2 M i w w' := by unfold relM; rw [if_neg hi]; exact h
theorem relM_turn {R R2 : World → World → Prop} {M : Nat} {w w' : World} (h : R2 w w') : relM R R2 M M w w' := by unfold relM; rw [if_pos rfl]; exact h

structure GoodL (ops : Array Oper) (a0 : Act) (w0 : World) (F : Nat → Value → World → Prop) (R R2 : World → World → Prop) (M : Nat) (listed : Array Bool) (a : Act) (w : World) : Prop where
  defers : a.defers = a0.defers
  size : a.tmps.size = a0.tmps.size
  rel : R2 w0 w
  relq : listed.getD M false = false → R w0 w
  closed : ∀ i o, ops[i]? = some o → listed.getD i false = true → ∀ e ∈ o.after, Region.binds .any e = true → listed.getD e.on false = true
  old : ∀ s, (∀ j o, ops[j]? = some o → listed.getD j false = true → o.dst ≠ some s) → a.tmps[s]? = a0.tmps[s]?
  got : ∀ j o d, ops[j]? = some o → listed.getD j false = true → o.dst = some d → ∃ v, a.tmps[d]? = some v ∧ F j v w

structure AtL (ops : Array Oper) (a0 : Act) (w0 : World) (F : Nat → Value → World → Prop) (R R2 : World → World → Prop) (M i : Nat) (a : Act) (w : World) : Prop where
  rel : R2 w0 w
  relq : i = M → R w0 w
  old : ∀ s, oldB ops i s = true → a.eval (.tmp s) = a0.eval (.tmp s)
  got : ∀ j d, gotB ops i j d = true → ∃ v, a.tmps[d]? = some v ∧ F j v w

theorem AtL.val {a0 a : Act} {w0 w : World} {F : Nat → Value → World → Prop} {R R2 : World → World → Prop} {M i : Nat} (h : AtL ops a0 w0 F R R2 M i a w) (j d : Nat) (hg : gotB ops i j d = true) : ∃ v, a.eval (.tmp d) = v ∧ F j v w := by
  obtain ⟨v, hv, hF⟩ := h.got j d hg
  exact ⟨v, by simp [Act.eval, Array.getD_eq_getD_getElem?, hv], hF⟩
theorem AtL.guard {a0 a : Act} {w0 w : World} {F : Nat → Value → World → Prop} {R R2 : World → World → Prop} {M i : Nat} (h : AtL ops a0 w0 F R R2 M i a w) (j d : Nat) (hg : gotB ops i j d = true) (b : Bool) (hb : ∀ v, F j v w → v = .bool b) : yielded ops a.tmps j = some b := by
  obtain ⟨v, hv, hF⟩ := h.got j d hg
  have hd : (ops[j]?).bind (·.dst) = some d := by
    unfold gotB at hg
    rw [Bool.and_eq_true] at hg
    simpa using hg.2
  unfold yielded
  rw [hd]
  simp [hv, hb v hF]

theorem readyL_at {a0 a : Act} {w0 w : World} {F : Nat → Value → World → Prop} {R R2 : World → World → Prop} {M : Nat} {listed : Array Bool} (g : GoodL ops a0 w0 F R R2 M listed a w) {i : Nat} (hi : i ∈ Region.ready .any ops listed) : AtL ops a0 w0 F R R2 M i a w := by
  obtain ⟨hun, o, ho, hall⟩ := mem_ready.1 hi
  have hunf : listed.getD i false = false := by
    by_cases h : i < listed.size
    · simpa [Array.getD_eq_getD_getElem?, h] using hun
    · simp [Array.getD_eq_getD_getElem?, h]
  refine ⟨g.rel, (fun e => g.relq (by rw [← e]; exact hunf)), fun s hs => ?_, fun j d hg => ?_⟩
  · have := g.old s (fun j oj hj hl hd => by
      have hjl := (Array.getElem?_eq_some_iff.1 hj).1
      unfold oldB at hs
      rw [List.all_eq_true] at hs
      have h1 := hs j (by simpa using hjl)
      simp only [hj, hd, bne_self_eq_false, Bool.false_or, Bool.or_eq_true, beq_iff_eq, List.any_eq_true, Bool.and_eq_true] at h1
      rcases h1 with rfl | ⟨e, he, hb, hon⟩
      · rw [hunf] at hl; cases hl
      · have := g.closed j oj hj hl e (by simpa using he) hb
        rw [hon, hunf] at this; cases this)
    simp [Act.eval, Array.getD_eq_getD_getElem?, this]
  · unfold gotB at hg
    simp only [ho, Bool.and_eq_true, List.any_eq_true, beq_iff_eq] at hg
    obtain ⟨⟨e, he, hb, hon⟩, hd⟩ := hg
    have hl := hall e (by simpa using he) hb
    rw [hon] at hl
    obtain ⟨oj, hj, hdj⟩ := Option.bind_eq_some_iff.1 hd
    exact g.got j oj d hj hl hdj

theorem put_other {o : Oper} {a : Act} {v : Value} (s : Nat) (hs : o.dst ≠ some s) : (a.put o.dst v).tmps[s]? = a.tmps[s]? := by
  cases hd : o.dst with
  | none => rfl
  | some d =>
    have : d ≠ s := fun e => hs (by rw [hd, e])
    simp [Act.put, this]

theorem goodL_put {a0 a : Act} {w0 w w' : World} {F : Nat → Value → World → Prop} {R R2 : World → World → Prop} {M : Nat} (h12 : ∀ a b, R a b → R2 a b) (h1 : ∀ a b c, R a b → R b c → R a c) (h2 : ∀ a b c, R2 a b → R2 b c → R2 a c) {n : Nat} (hap : apartB ops n = true) (hn : n = a0.tmps.size) {listed : Array Bool} (hls : listed.size = ops.size)
    (g : GoodL ops a0 w0 F R R2 M listed a w) {i : Nat} {o : Oper} (ho : ops[i]? = some o) (hi : i ∈ Region.ready .any ops listed) {v : Value} (hb : relM R R2 M i w w') (hst : ∀ j u, j ≠ i → F j u w → F j u w') (hv : F i v w') :
    GoodL ops a0 w0 F R R2 M (listed.setIfInBounds i true) (a.put o.dst v) w' := by
  obtain ⟨hun, o', ho', hall⟩ := mem_ready.1 hi
  obtain rfl : o = o' := Option.some.inj (ho.symm.trans ho')
  have hil := (Array.getElem?_eq_some_iff.1 ho).1
  have hset : ∀ j, (listed.setIfInBounds i true).getD j false = true ↔ j = i ∨ listed.getD j false = true := by
    intro j
    by_cases hji : j = i
    · subst hji; simp [Array.getD_eq_getD_getElem?, hls, hil]
    · rw [getD_set_ne false (Ne.symm hji)]; simp [hji]
  have hb2 : R2 w w' := by
    unfold relM at hb
    split at hb
    · exact hb
    · exact h12 _ _ hb
  refine ⟨?_, ?_, h2 _ _ _ g.rel hb2, (fun hM => ?_), fun j oj hj hl e he hbd => ?_, fun s hs => ?_, fun j oj d hj hl hd => ?_⟩
  · rw [← g.defers]; cases o.dst <;> rfl
  · rw [← g.size]; cases o.dst <;> simp [Act.put]
  · have hne : i ≠ M := by
      rintro rfl
      have := (hset i).2 (.inl rfl)
      rw [hM] at this; cases this
    unfold relM at hb
    rw [if_neg hne] at hb
    refine h1 _ _ _ (g.relq ?_) hb
    cases hx : listed.getD M false with
    | false => rfl
    | true =>
      have := (hset M).2 (.inr hx)
      rw [hM] at this; cases this
  · rcases (hset j).1 hl with rfl | hl'
    · obtain rfl : o = oj := Option.some.inj (ho.symm.trans hj)
      exact (hset _).2 (.inr (hall e he hbd))
    · exact (hset _).2 (.inr (g.closed j oj hj hl' e he hbd))
  · rw [put_other s (hs i o ho ((hset i).2 (.inl rfl)))]
    exact g.old s fun j oj hj hl => hs j oj hj ((hset j).2 (.inr hl))
  · rcases (hset j).1 hl with rfl | hl'
    · obtain rfl : o = oj := Option.some.inj (ho.symm.trans hj)
      have hlt := apart_lt hap ho hd
      refine ⟨v, ?_, hv⟩
      rw [hd]
      simp [Act.put, g.size, ← hn, hlt]
    · obtain ⟨u, hu, hFu⟩ := g.got j oj d hj hl' hd
      have hji : j ≠ i := by
        rintro rfl
        have : listed.getD j false = false := by
          simpa [Array.getD_eq_getD_getElem?, hls, hil] using hun
        rw [this] at hl'; cases hl'
      exact ⟨u, by rw [put_other d (apart_spec hap hj ho hd hji)]; exact hu, hst j u hji hFu⟩

theorem last_all {a0 a : Act} {w0 w : World} {F : Nat → Value → World → Prop} {R R2 : World → World → Prop} {M : Nat} {listed : Array Bool} (g : GoodL ops a0 w0 F R R2 M listed a w) {L : Nat} (hL : lastB ops L = true) (hi : L ∈ Region.ready .any ops listed) :
    ∀ k, k < L → listed.getD k false = true := by
  obtain ⟨_, o, ho, hall⟩ := mem_ready.1 hi
  have key : ∀ m k, k ∈ reachB ops L m → k = L ∨ listed.getD k false = true := by
    intro m
    induction m with
    | zero => intro k hk; simp [reachB] at hk; exact .inl hk
    | succ m ih =>
      intro k hk
      rw [reachB] at hk
      split at hk
      · rename_i hany
        rcases List.mem_cons.1 hk with rfl | hk
        · right
          obtain ⟨i, hir, hie⟩ := List.any_eq_true.1 hany
          unfold edgeB at hie
          rcases ih i hir with rfl | hli
          · rw [ho] at hie
            obtain ⟨e, he, hb⟩ := List.any_eq_true.1 hie
            rw [Bool.and_eq_true, beq_iff_eq] at hb
            rw [← hb.2]
            exact hall e (by simpa using he) hb.1
          · cases hoi : ops[i]? with
            | none => rw [hoi] at hie; simp at hie
            | some oi =>
              rw [hoi] at hie
              obtain ⟨e, he, hb⟩ := List.any_eq_true.1 hie
              rw [Bool.and_eq_true, beq_iff_eq] at hb
              rw [← hb.2]
              exact g.closed i oi hoi hli e (by simpa using he) hb.1
        · exact ih k hk
      · exact ih k hk
  intro k hk
  unfold lastB at hL
  rw [Bool.and_eq_true, List.all_eq_true] at hL
  have := hL.2 k (by simpa using hk)
  rcases key L k (by simpa using this) with rfl | h
  · omega
  · exact h

theorem goodL_all {a0 a : Act} {w0 w : World} {F : Nat → Value → World → Prop} {R R2 : World → World → Prop} {M : Nat} {n : Nat} (hap : apartB ops n = true) (hn : n = a0.tmps.size) {listed : Array Bool} {L : Nat} (hsz : ops.size = L + 1) (g : GoodL ops a0 w0 F R R2 M listed a w) (hall : ∀ i, i < L → listed.getD i false = true) (hLn : listed.getD L false = false) :
    ∃ vals : Nat → Value, a = putAll ops.toList.dropLast vals 0 a0 ∧ ∀ j d, j < L → (ops[j]?).bind (·.dst) = some d → F j (vals j) w := by
  have hdl : ∀ k (o : Oper), ops.toList.dropLast[k]? = some o ↔ k < L ∧ ops[k]? = some o := by
    intro k o
    rw [List.getElem?_dropLast]
    simp only [Array.length_toList, hsz, Nat.add_sub_cancel, Array.getElem?_toList]
    by_cases hk : k < L
    · simp [hk]
    · simp [hk]
  refine ⟨fun j => (((ops[j]?).bind (·.dst)).bind (a.tmps[·]?)).getD undef, ?_, fun j d hj hd => ?_⟩
  · have he : a.tmps = (putAll ops.toList.dropLast (fun j => (((ops[j]?).bind (·.dst)).bind (a.tmps[·]?)).getD undef) 0 a0).tmps := by
      apply Array.ext_getElem?
      intro s
      by_cases hs : ∃ (j : Nat) (o : Oper), j < L ∧ ops[j]? = some o ∧ o.dst = some s
      · obtain ⟨j, o, hjL, hj, hd⟩ := hs
        obtain ⟨v, hv, _⟩ := g.got j o s hj (hall j hjL) hd
        rw [putAll_at ops.toList.dropLast _ 0 a0 s j o ((hdl j o).2 ⟨hjL, hj⟩) hd (by rw [← hn]; exact apart_lt hap hj hd) (fun k' o' hk' hne => apart_spec hap hj ((hdl k' o').1 hk').2 hd (Ne.symm hne))]
        simp [hj, hd, hv]
      · rw [putAll_other _ _ _ _ _ (fun k (o : Oper) hk hd => hs ⟨k, o, ((hdl k o).1 hk).1, ((hdl k o).1 hk).2, hd⟩)]
        refine g.old s fun j (o : Oper) hj hl hd => ?_
        have hjl := (Array.getElem?_eq_some_iff.1 hj).1
        by_cases hjL : j = L
        · subst hjL; rw [hLn] at hl; cases hl
        · exact hs ⟨j, o, by omega, hj, hd⟩
    have hd : a.defers = (putAll ops.toList.dropLast (fun j => (((ops[j]?).bind (·.dst)).bind (a.tmps[·]?)).getD undef) 0 a0).defers := by rw [putAll_defers]; exact g.defers
    cases a
    simp only at he hd
    rw [Act.mk.injEq]
    exact ⟨he, hd⟩
  · obtain ⟨o, ho, hdo⟩ := Option.bind_eq_some_iff.1 hd
    obtain ⟨v, hv, hF⟩ := g.got j o d ho (hall j hj) hdo
    simp only [ho, Option.bind_some, hdo, hv, Option.getD_some]
    exact hF

/-- each operation's step, but the last one's -/
def StepsL (P : Program) (ops : Array Oper) (a0 : Act) (w0 : World) (F : Nat → Value → World → Prop) (R R2 : World → World → Prop) (M : Nat) : Nat → List Oper → Prop
  | _, [] => True
  | i, o :: l => (∀ a w, AtL ops a0 w0 F R R2 M i a w → opGives P ops o a w fun v w' => relM R R2 M i w w' ∧ F i v w') ∧ StepsL P ops a0 w0 F R R2 M (i + 1) l

theorem stepsL_at {a0 : Act} {w0 : World} {F : Nat → Value → World → Prop} {R R2 : World → World → Prop} {M : Nat} : ∀ (l : List Oper) (i k : Nat) (o : Oper), StepsL P ops a0 w0 F R R2 M i l → l[k]? = some o → ∀ a w, AtL ops a0 w0 F R R2 M (i + k) a w → opGives P ops o a w fun v w' => relM R R2 M (i + k) w w' ∧ F (i + k) v w'
  | [], _, k, o, _, hk => by simp at hk
  | o0 :: l, i, 0, o, h, hk => by
    obtain rfl : o0 = o := by simpa using hk
    exact h.1
  | o0 :: l, i, k + 1, o, h, hk => by
    have := stepsL_at l (i + 1) k o h.2 (by simpa using hk)
    rw [show i + 1 + k = i + (k + 1) by omega] at this
    exact this

theorem last_any {a0 : Act} {w0 : World} {F : Nat → Value → World → Prop} {R R2 : World → World → Prop} {M : Nat} (h12 : ∀ a b, R a b → R2 a b) (h1 : ∀ a b c, R a b → R b c → R a c) (h2 : ∀ a b c, R2 a b → R2 b c → R2 a c)
    (hF1 : ∀ i v w w', R w w' → F i v w → F i v w') (hF2 : ∀ i v w w', i ≠ M → R2 w w' → F i v w → F i v w') {n : Nat} (hap : apartB ops n = true) (hn : n = a0.tmps.size) (hbk : backB ops = true) {L : Nat} (hL : lastB ops L = true)
    (steps : StepsL P ops a0 w0 F R R2 M 0 ops.toList.dropLast)
    (fin : ∀ vals w, R2 w0 w → (∀ j d, j < L → (ops[j]?).bind (·.dst) = some d → F j (vals j) w) → wpOp P ops Q L (fun a w => Q .normal a w) (putAll ops.toList.dropLast vals 0 a0) w) :
    ∀ (fuel : Nat) (listed : Array Bool) (a : Act) (w : World), listed.size = ops.size → cnt ops.size (fun i => !listed.getD i true) = fuel → listed.getD L false = false → GoodL ops a0 w0 F R R2 M listed a w → wpAny P .any ops Q fuel listed a w := by
  have hsz : ops.size = L + 1 := by
    unfold lastB at hL
    rw [Bool.and_eq_true, beq_iff_eq] at hL
    exact hL.1
  intro fuel
  induction fuel with
  | zero =>
    intro listed a w hls hc hLn g
    have := cnt_zero _ _ hc L (by omega)
    simp [Array.getD_eq_getD_getElem?, hls, hsz] at this hLn
    rw [this] at hLn; cases hLn
  | succ fuel ih =>
    intro listed a w hls hc hLn g
    refine ⟨fun h => ?_, fun i hi => ?_⟩
    · exfalso
      have all : ∀ i, i < ops.size → listed.getD i true = true := by
        intro i hi
        induction i using Nat.strongRecOn with
        | ind i ihi =>
          cases hl : listed.getD i true with
          | true => rfl
          | false =>
            exfalso
            have ho : ops[i]? = some ops[i] := Array.getElem?_eq_getElem hi
            have : i ∈ Region.ready .any ops listed := mem_ready.2 ⟨hl, _, ho, fun e he hb => by
              have hlt := back_spec hbk ho he hb
              have := ihi e.on hlt (by omega)
              simpa [Array.getD_eq_getD_getElem?, hls, show e.on < ops.size by omega] using this⟩
            rw [h] at this
            cases this
      have := all L (by omega)
      simp [Array.getD_eq_getD_getElem?, hls, hsz] at this hLn
      rw [this] at hLn; cases hLn
    · obtain ⟨hun, o, ho, _⟩ := mem_ready.1 hi
      have hil := (Array.getElem?_eq_some_iff.1 ho).1
      have hcnt := cnt_less ops.size (fun i => !listed.getD i true) (fun j => !(listed.setIfInBounds i true).getD j true) i hil (by simp [hun]) (by simp [Array.getD_eq_getD_getElem?, hls, hil]) (fun j hj => by rw [getD_set_ne true (Ne.symm hj)])
      by_cases hiL : i = L
      · subst hiL
        have hall := last_all g hL hi
        obtain ⟨vals, rfl, hv⟩ := goodL_all hap hn hsz g hall hLn
        refine wpOp_mono (fun a' w' hh => ?_) (fin vals w g.rel hv)
        have hdone : ∀ k, k < ops.size → (listed.setIfInBounds i true).getD k true = true := by
          intro k hk
          by_cases hki : k = i
          · subst hki; simp [Array.getD_eq_getD_getElem?, hls, hk]
          · rw [getD_set_ne true (Ne.symm hki)]
            have := hall k (by omega)
            simpa [Array.getD_eq_getD_getElem?, hls, hk] using this
        have hnone : Region.ready .any ops (listed.setIfInBounds i true) = [] := by
          apply List.eq_nil_iff_forall_not_mem.2
          intro k hk
          obtain ⟨hun', o', ho', _⟩ := mem_ready.1 hk
          have := hdone k (Array.getElem?_eq_some_iff.1 ho').1
          rw [this] at hun'; cases hun'
        cases fuel with
        | zero => exact ⟨hnone, hh⟩
        | succ fuel =>
          refine ⟨fun _ => hh, fun k hk => ?_⟩
          rw [hnone] at hk; cases hk
      · have hs := stepsL_at ops.toList.dropLast 0 i o steps (by
          rw [List.getElem?_dropLast]
          simp only [Array.length_toList, hsz, Nat.add_sub_cancel, Array.getElem?_toList]
          rw [if_pos (by omega)]; exact ho) a w (by simpa using readyL_at g hi)
        rw [Nat.zero_add] at hs
        refine wpOp_mono (fun a' w' hh => ?_) (wpOp_of_gives ho hs)
        obtain ⟨v, rfl, hb, hv⟩ := hh
        refine ih _ _ _ (by simpa using hls) (by omega) (by rw [getD_set_ne false hiL]; exact hLn) (goodL_put h12 h1 h2 hap hn hls g ho hi hb ?_ hv)
        · intro j u hji hFj
          by_cases hM : i = M
          · unfold relM at hb
            rw [if_pos hM] at hb
            exact hF2 j u _ _ (by omega) hb hFj
          · unfold relM at hb
            rw [if_neg hM] at hb
            exact hF1 j u _ _ hb hFj

/-- A REGION THAT DRAWS ITS ORDER, AND WHOSE LAST OPERATION WAITS FOR ALL OTHERS -/
theorem wp_region_last {id : Nat} {l : List Oper} {a0 : Act} {w0 : World} (F : Nat → Value → World → Prop) (R R2 : World → World → Prop) (M n L : Nat) (hm : P.follows .mixedOrders = true) (hap : apartB l.toArray n = true) (hbk : backB l.toArray = true) (hL : lastB l.toArray L = true) (hn : n = a0.tmps.size)
    (h12 : ∀ a b, R a b → R2 a b) (h1 : ∀ a b c, R a b → R b c → R a c) (h2 : ∀ a b c, R2 a b → R2 b c → R2 a c) (h0 : R w0 w0.drew)
    (hF1 : ∀ i v w w', R w w' → F i v w → F i v w') (hF2 : ∀ i v w w', i ≠ M → R2 w w' → F i v w → F i v w')
    (steps : StepsL P l.toArray a0 w0 F R R2 M 0 l.dropLast)
    (fin : ∀ oL, l.toArray[L]? = some oL → ∀ vals w, R2 w0 w → (∀ j d, j < L → (l.toArray[j]?).bind (·.dst) = some d → F j (vals j) w) → opGives P l.toArray oL (putAll l.dropLast vals 0 a0) w (fun v w' => Q .normal ((putAll l.dropLast vals 0 a0).put oL.dst v) w')) :
    (Code.region id l.toArray true).wp P Q a0 w0 := by
  refine wp_region_any hm ?_
  have fin : ∀ vals w, R2 w0 w → (∀ j d, j < L → (l.toArray[j]?).bind (·.dst) = some d → F j (vals j) w) → wpOp P l.toArray Q L (fun a w => Q .normal a w) (putAll l.dropLast vals 0 a0) w := by
    intro vals w k1 k2
    have hlt : L < l.toArray.size := by
      unfold lastB at hL
      rw [Bool.and_eq_true, beq_iff_eq] at hL
      omega
    refine wpOp_mono (fun a' w' hh => ?_) (wpOp_of_gives (Array.getElem?_eq_getElem hlt) (fin _ (Array.getElem?_eq_getElem hlt) vals w k1 k2))
    obtain ⟨v, rfl, hq⟩ := hh
    exact hq
  refine last_any (a0 := a0) (w0 := w0) (F := F) h12 h1 h2 hF1 hF2 hap hn hbk hL (by simpa using steps) (by simpa using fin) _ _ _ _ (by simp) ?_ ?_ ?_
  · have : ∀ k, k ≤ l.toArray.size → cnt k (fun i => !(Array.replicate l.toArray.size false).getD i true) = k := by
      intro k
      induction k with
      | zero => intro _; rfl
      | succ k ih =>
        intro hk
        have hk' : k < l.toArray.size := hk
        rw [cnt, ih (by omega), Array.getD_eq_getD_getElem?, Array.getElem?_replicate, if_pos hk']
        rfl
    exact this _ (Nat.le_refl _)
  · simp [Array.getD_eq_getD_getElem?, Array.getElem?_replicate]
    split <;> simp
  · refine ⟨rfl, rfl, h12 _ _ h0, (fun _ => h0), fun i o _ hl => ?_, fun _ _ => rfl, fun j o d _ hl => ?_⟩
    · exfalso
      simp [Array.getD_eq_getD_getElem?, Array.getElem?_replicate] at hl
      split at hl <;> simp at hl
    · exfalso
      simp [Array.getD_eq_getD_getElem?, Array.getElem?_replicate] at hl
      split at hl <;> simp at hl

/-! ### with 'Only' for the two relations -/
def StS (S : Nat → Prop) (p : Value → World → Prop) : Prop := ∀ v w w', Only S w w' → p v w → p v w'
def AllStL (S : Nat → Prop) (M : Nat) : Nat → List (Value → World → Prop) → Prop
  | _, [] => True
  | i, p :: l => StS (fun _ => False) p ∧ (i ≠ M → StS S p) ∧ AllStL S M (i + 1) l
theorem stS_isV (S : Nat → Prop) (x : Value) : StS S (isV x) := fun _ _ _ _ h => h
theorem stS_true (S : Nat → Prop) : StS S (fun _ _ => True) := fun _ _ _ _ h => h
theorem allStL_isV {S : Nat → Prop} {M i : Nat} {x : Value} {l : List (Value → World → Prop)} (h : AllStL S M (i + 1) l) : AllStL S M i (isV x :: l) := ⟨stS_isV _ _, fun _ => stS_isV _ _, h⟩
theorem allStL_true {S : Nat → Prop} {M i : Nat} {l : List (Value → World → Prop)} (h : AllStL S M (i + 1) l) : AllStL S M i ((fun _ _ => True) :: l) := ⟨stS_true _, fun _ => stS_true _, h⟩
theorem allStL_1 {S : Nat → Prop} {M : Nat} : ∀ (l : List (Value → World → Prop)) (k : Nat), AllStL S M k l → ∀ i v w w', Only (fun _ => False) w w' → FL l i v w → FL l i v w'
  | [], _, _, _, _, _, _, _, _ => by simp [FL]
  | p :: l, _, hs, 0, v, w, w', hb, h => hs.1 v w w' hb h
  | p :: l, k, hs, i + 1, v, w, w', hb, h => allStL_1 l (k + 1) hs.2.2 i v w w' hb h
theorem allStL_2 {S : Nat → Prop} {M : Nat} : ∀ (l : List (Value → World → Prop)) (k : Nat), AllStL S M k l → ∀ i v w w', k + i ≠ M → Only S w w' → FL l i v w → FL l i v w'
  | [], _, _, _, _, _, _, _, _, _ => by simp [FL]
  | p :: l, k, hs, 0, v, w, w', hn, hb, h => hs.2.1 (by omega) v w w' hb h
  | p :: l, k, hs, i + 1, v, w, w', hn, hb, h => allStL_2 l (k + 1) hs.2.2 i v w w' (by omega) hb h

theorem wp_region_only {id : Nat} {l : List Oper} {a0 : Act} {w0 : World} (S : Nat → Prop) (fs : List (Value → World → Prop)) (M n L : Nat) (hm : P.follows .mixedOrders = true) (hap : apartB l.toArray n = true) (hbk : backB l.toArray = true) (hL : lastB l.toArray L = true) (hn : n = a0.tmps.size)
    (hst : AllStL S M 0 fs) (steps : StepsL P l.toArray a0 w0 (FL fs) (Only (fun _ => False)) (Only S) M 0 l.dropLast)
    (fin : ∀ oL, l.toArray[L]? = some oL → ∀ vals w, Only S w0 w → (∀ j d, j < L → (l.toArray[j]?).bind (·.dst) = some d → FL fs j (vals j) w) → opGives P l.toArray oL (putAll l.dropLast vals 0 a0) w (fun v w' => Q .normal ((putAll l.dropLast vals 0 a0).put oL.dst v) w')) :
    (Code.region id l.toArray true).wp P Q a0 w0 :=
  wp_region_last (FL fs) (Only (fun _ => False)) (Only S) M n L hm hap hbk hL hn (fun _ _ h => h.mono (fun _ _ h => h.elim)) (fun _ _ _ h k => h.trans k (fun _ _ h => h)) (fun _ _ _ h k => h.trans k (fun _ _ h => h)) (Only.refl _ w0).drew
    (allStL_1 fs 0 hst) (fun i v w w' hi => allStL_2 fs 0 hst i v w w' (by omega)) steps fin

/-! ### single operations -/
theorem gives_of_run {o : Oper} {a : Act} {w w' : World} {Φ : Value → World → Prop} {v : Value} (hgd : o.guard = none) (hr : (execOp a.eval o).run P w = .ok (.value v) w') (h : Φ v w') : opGives P ops o a w Φ := by
  unfold opGives
  rw [if_pos (by simp [Region.wanted, hgd]), hr]
  exact h
theorem gives_of_skip {o : Oper} {a : Act} {w w' : World} {Φ : Value → World → Prop} (hgd : o.guard = none) (hr : (execOp a.eval o).run P w = .ok .skip w') (h : Φ undef w') : opGives P ops o a w Φ := by
  unfold opGives
  rw [if_pos (by simp [Region.wanted, hgd]), hr]
  exact h
theorem exec_load_mid {o : Oper} {a : Act} {w : World} (ty : TypeId) (x : Operand) (ho : o.op = .load ty x) (b of : Nat) (hx : a.eval x = .pointer (some ⟨b, of, none⟩)) (cs : List Value) (d : TypeDesc) (hc : w.rangeAt b of cs)
    (hu : P.underlying ty = some d) (hd : d.isRow = true) (hi : (P.info? ty).map (·.size) = some cs.length) : (execOp a.eval o).run P w = .ok (.value (.agg cs.toArray)) w := by
  unfold execOp
  simp only [ho, hx, Instr.loadAt, Instr.sureAddr, Sem.run_bind, Sem.run_pure, Result.andThen_ok, run_loadVar_mid w b of ty cs d hc hu hd hi]
theorem exec_store_mid {o : Oper} {a : Act} {w : World} (ty : TypeId) (x y : Operand) (ho : o.op = .store ty x y) (b of : Nat) (cells : Array Value) (hx : a.eval x = .pointer (some ⟨b, of, none⟩)) (hy : a.eval y = .agg cells)
    (ht : w.there b of cells.size) (hi : (P.info? ty).map (·.size) = some cells.size) (h1 : cells.all (·.oneCell') = true) : (execOp a.eval o).run P w = .ok .skip (w.setCells b of cells.toList) := by
  unfold execOp
  simp only [ho, hx, hy, Instr.storeAt, Instr.sureAddr, Sem.run_bind, Sem.run_pure, Result.andThen_ok, run_storeVar_mid w b of ty cells ht hi h1]
theorem exec_append {o : Oper} {a : Act} {w w' : World} (s x : Operand) (t : TypeId) (ho : o.op = .call { callee := .builtin .append, args := #[s, x], argTypes := #[t, t] }) (v y : Value) (hs : a.eval s = v) (hx : a.eval x = y) (v' : Value)
    (hr : (Builtin.append_ #[t, t] o.type #[v, y]).run P w = .ok v' w') : (execOp a.eval o).run P w = .ok (.value v') w' := by
  unfold execOp
  simp only [ho, resolve, invoke, builtin, Sem.run_bind, Sem.run_pure, Result.andThen_ok, List.map_toArray, List.map_cons, List.map_nil, hs, hx, hr]
theorem exec_copy {o : Oper} {a : Act} {w w' : World} (s x : Operand) (t t' : TypeId) (ho : o.op = .call { callee := .builtin .copy, args := #[s, x], argTypes := #[t, t'] }) (v y : Value) (hs : a.eval s = v) (hx : a.eval x = y) (v' : Value)
    (hr : (Builtin.copy_ #[t, t'] o.type #[v, y]).run P w = .ok v' w') : (execOp a.eval o).run P w = .ok (.value v') w' := by
  unfold execOp
  simp only [ho, resolve, invoke, builtin, Sem.run_bind, Sem.run_pure, Result.andThen_ok, List.map_toArray, List.map_cons, List.map_nil, hs, hx, hr]
theorem exec_slice_lo {o : Oper} {a : Act} {w : World} (t : TypeId) (hu : P.underlying t = some (.slice (P.elem t))) (x y : Operand) (ho : o.op = .slice t x (some y) none none) (v u r : Value) (hx : a.eval x = v) (hy : a.eval y = u)
    (hr : (Instr.slice t v (some u) none none).run P w = .ok r w) : (execOp a.eval o).run P w = .ok (.value r) w := by
  unfold execOp
  simp only [ho, hx, hy, Option.map_some, Option.map_none, Sem.run_bind, run_sliceAt_slice w t v _ _ _ hu, hr, Result.andThen_ok, Sem.run_pure]
theorem exec_slice_hi {o : Oper} {a : Act} {w : World} (t : TypeId) (hu : P.underlying t = some (.slice (P.elem t))) (x y : Operand) (ho : o.op = .slice t x none (some y) none) (v u r : Value) (hx : a.eval x = v) (hy : a.eval y = u)
    (hr : (Instr.slice t v none (some u) none).run P w = .ok r w) : (execOp a.eval o).run P w = .ok (.value r) w := by
  unfold execOp
  simp only [ho, hx, hy, Option.map_some, Option.map_none, Sem.run_bind, run_sliceAt_slice w t v _ _ _ hu, hr, Result.andThen_ok, Sem.run_pure]
theorem exec_assign {o : Oper} {a : Act} {w : World} (x : Operand) (ho : o.op = .assign x) (v : Value) (hx : a.eval x = v) : (execOp a.eval o).run P w = .ok (.value v) w := by
  unfold execOp
  simp only [ho, hx, Sem.run_pure]
/-- a call of a function of the program -/
theorem gives_of_call {o : Oper} {a : Act} {w w' : World} {Φ : Value → World → Prop} {f : FuncId} {args : Array Value} (hgd : o.guard = none) (hr : (execOp a.eval o).run P w = .ok (.enter f args) w') (h : Calls P f args w' fun e w'' => ∃ v, e = .returned v ∧ Φ v w'') : opGives P ops o a w Φ := by
  unfold opGives
  rw [if_pos (by simp [Region.wanted, hgd]), hr]
  exact h
theorem exec_mapUpdate {o : Oper} {a : Act} {w w' : World} (t : TypeId) (m x y : Operand) (ho : o.op = .mapUpdate t m x y) (M X Y : Value) (hm : a.eval m = M) (hx : a.eval x = X) (hy : a.eval y = Y)
    (hr : (Instr.mapUpdate t M X Y).run P w = .ok () w') : (execOp a.eval o).run P w = .ok .skip w' := by
  unfold execOp
  simp only [ho, hm, hx, hy, Sem.run_bind, hr, Result.andThen_ok, Sem.run_pure]
theorem exec_buildSlice1 {o : Oper} {a : Act} {w w' : World} (t : TypeId) (len : Nat) (x : Operand) (ho : o.op = .buildSlice t len #[(0, x)]) (v u : Value) (hx : a.eval x = v)
    (hr : (Instr.buildSlice t len #[(0, v)]).run P w = .ok u w') : (execOp a.eval o).run P w = .ok (.value u) w' := by
  unfold execOp
  simp only [ho, List.map_toArray, List.map_cons, List.map_nil, hx, Sem.run_bind, hr, Result.andThen_ok, Sem.run_pure]

end
end Go.Proofs.YtimmfnjkknbofaaDoor
