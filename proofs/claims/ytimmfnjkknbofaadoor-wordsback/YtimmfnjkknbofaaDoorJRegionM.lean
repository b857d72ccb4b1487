/- A region that draws its order, with more than one operation that writes: each has its own blocks. No program. -/
import Derived.Test.YtimmfnjkknbofaaDoorRegionL
namespace Go.Proofs.YtimmfnjkknbofaaDoor
set_option maxRecDepth 20000
open Go.RowKit
set_option linter.unusedVariables false
set_option maxRecDepth 100000

section
variable {P : Program} {ops : Array Oper} {Q : Exit → Act → World → Prop}

structure GoodM (ops : Array Oper) (a0 : Act) (w0 : World) (F : Nat → Value → World → Prop) (T : World → World → Prop) (Rl O : Nat → World → World → Prop) (listed : Array Bool) (a : Act) (w : World) : Prop where
  defers : a.defers = a0.defers
  size : a.tmps.size = a0.tmps.size
  rel : T w0 w
  relq : ∀ i, listed.getD i false = false → O i w0 w
  closed : ∀ i o, ops[i]? = some o → listed.getD i false = true → ∀ e ∈ o.after, Region.binds .any e = true → listed.getD e.on false = true
  old : ∀ s, (∀ j o, ops[j]? = some o → listed.getD j false = true → o.dst ≠ some s) → a.tmps[s]? = a0.tmps[s]?
  got : ∀ j o d, ops[j]? = some o → listed.getD j false = true → o.dst = some d → ∃ v, a.tmps[d]? = some v ∧ F j v w

structure AtM (ops : Array Oper) (a0 : Act) (w0 : World) (F : Nat → Value → World → Prop) (T : World → World → Prop) (Rl O : Nat → World → World → Prop) (i : Nat) (a : Act) (w : World) : Prop where
  rel : T w0 w
  relq : O i w0 w
  old : ∀ s, oldB ops i s = true → a.eval (.tmp s) = a0.eval (.tmp s)
  got : ∀ j d, gotB ops i j d = true → ∃ v, a.tmps[d]? = some v ∧ F j v w

theorem AtM.val {a0 a : Act} {w0 w : World} {F : Nat → Value → World → Prop} {T : World → World → Prop} {Rl O : Nat → World → World → Prop} {i : Nat} (h : AtM ops a0 w0 F T Rl O i a w) (j d : Nat) (hg : gotB ops i j d = true) : ∃ v, a.eval (.tmp d) = v ∧ F j v w := by
  obtain ⟨v, hv, hF⟩ := h.got j d hg
  exact ⟨v, by simp [Act.eval, Array.getD_eq_getD_getElem?, hv], hF⟩
theorem AtM.guard {a0 a : Act} {w0 w : World} {F : Nat → Value → World → Prop} {T : World → World → Prop} {Rl O : Nat → World → World → Prop} {i : Nat} (h : AtM ops a0 w0 F T Rl O i a w) (j d : Nat) (hg : gotB ops i j d = true) (b : Bool) (hb : ∀ v, F j v w → v = .bool b) : yielded ops a.tmps j = some b := by
  obtain ⟨v, hv, hF⟩ := h.got j d hg
  have hd : (ops[j]?).bind (·.dst) = some d := by
    unfold gotB at hg
    rw [Bool.and_eq_true] at hg
    simpa using hg.2
  unfold yielded
  rw [hd]
  simp [hv, hb v hF]

theorem readyM_at {a0 a : Act} {w0 w : World} {F : Nat → Value → World → Prop} {T : World → World → Prop} {Rl O : Nat → World → World → Prop} {listed : Array Bool} (g : GoodM ops a0 w0 F T Rl O listed a w) {i : Nat} (hi : i ∈ Region.ready .any ops listed) : AtM ops a0 w0 F T Rl O i a w := by
  obtain ⟨hun, o, ho, hall⟩ := mem_ready.1 hi
  have hunf : listed.getD i false = false := by
    by_cases h : i < listed.size
    · simpa [Array.getD_eq_getD_getElem?, h] using hun
    · simp [Array.getD_eq_getD_getElem?, h]
  refine ⟨g.rel, g.relq i hunf, fun s hs => ?_, fun j d hg => ?_⟩
  · have := g.old s (fun j oj hj hl hd => by
      have hjl := (Array.getElem?_eq_some_iff.1 hj).1
      unfold oldB at hs
      rw [List.all_eq_true] at hs
      have h1 := hs j (by simpa using hjl)
      simp only [hj, hd, bne_self_eq_false, Bool.false_or, Bool.or_eq_true, beq_iff_eq, List.any_eq_true, Bool.and_eq_true] at h1
      rcases h1 with rfl | ⟨e, he, hb, hon⟩
      · rw [hunf] at hl; cases hl
      · have := g.closed j oj hj hl e (by simpa using he) hb
        rw [hon, hunf] at this; cases this)
    simp [Act.eval, Array.getD_eq_getD_getElem?, this]
  · unfold gotB at hg
    simp only [ho, Bool.and_eq_true, List.any_eq_true, beq_iff_eq] at hg
    obtain ⟨⟨e, he, hb, hon⟩, hd⟩ := hg
    have hl := hall e (by simpa using he) hb
    rw [hon] at hl
    obtain ⟨oj, hj, hdj⟩ := Option.bind_eq_some_iff.1 hd
    exact g.got j oj d hj hl hdj

theorem goodM_put {a0 a : Act} {w0 w w' : World} {F : Nat → Value → World → Prop} {T : World → World → Prop} {Rl O : Nat → World → World → Prop} (h12 : ∀ i a b, Rl i a b → T a b) (h1 : ∀ i a b c, O i a b → O i b c → O i a c) (h2 : ∀ a b c, T a b → T b c → T a c) (h3 : ∀ i k a b, i ≠ k → Rl i a b → O k a b) {n : Nat} (hap : apartB ops n = true) (hn : n = a0.tmps.size) {listed : Array Bool} (hls : listed.size = ops.size)
    (g : GoodM ops a0 w0 F T Rl O listed a w) {i : Nat} {o : Oper} (ho : ops[i]? = some o) (hi : i ∈ Region.ready .any ops listed) {v : Value} (hb : Rl i w w') (hst : ∀ j u, j ≠ i → F j u w → F j u w') (hv : F i v w') :
    GoodM ops a0 w0 F T Rl O (listed.setIfInBounds i true) (a.put o.dst v) w' := by
  obtain ⟨hun, o', ho', hall⟩ := mem_ready.1 hi
  obtain rfl : o = o' := Option.some.inj (ho.symm.trans ho')
  have hil := (Array.getElem?_eq_some_iff.1 ho).1
  have hset : ∀ j, (listed.setIfInBounds i true).getD j false = true ↔ j = i ∨ listed.getD j false = true := by
    intro j
    by_cases hji : j = i
    · subst hji; simp [Array.getD_eq_getD_getElem?, hls, hil]
    · rw [getD_set_ne false (Ne.symm hji)]; simp [hji]
  have hb2 : T w w' := h12 _ _ _ hb
  refine ⟨?_, ?_, h2 _ _ _ g.rel hb2, (fun k hM => ?_), fun j oj hj hl e he hbd => ?_, fun s hs => ?_, fun j oj d hj hl hd => ?_⟩
  · rw [← g.defers]; cases o.dst <;> rfl
  · rw [← g.size]; cases o.dst <;> simp [Act.put]
  · have hne : i ≠ k := by
      rintro rfl
      have := (hset i).2 (.inl rfl)
      rw [hM] at this; cases this
    refine h1 _ _ _ _ (g.relq k ?_) (h3 _ _ _ _ hne hb)
    cases hx : listed.getD k false with
    | false => rfl
    | true =>
      have := (hset k).2 (.inr hx)
      rw [hM] at this; cases this
  · rcases (hset j).1 hl with rfl | hl'
    · obtain rfl : o = oj := Option.some.inj (ho.symm.trans hj)
      exact (hset _).2 (.inr (hall e he hbd))
    · exact (hset _).2 (.inr (g.closed j oj hj hl' e he hbd))
  · rw [put_other s (hs i o ho ((hset i).2 (.inl rfl)))]
    exact g.old s fun j oj hj hl => hs j oj hj ((hset j).2 (.inr hl))
  · rcases (hset j).1 hl with rfl | hl'
    · obtain rfl : o = oj := Option.some.inj (ho.symm.trans hj)
      have hlt := apart_lt hap ho hd
      refine ⟨v, ?_, hv⟩
      rw [hd]
      simp [Act.put, g.size, ← hn, hlt]
    · obtain ⟨u, hu, hFu⟩ := g.got j oj d hj hl' hd
      have hji : j ≠ i := by
        rintro rfl
        have : listed.getD j false = false := by
          simpa [Array.getD_eq_getD_getElem?, hls, hil] using hun
        rw [this] at hl'; cases hl'
      exact ⟨u, by rw [put_other d (apart_spec hap hj ho hd hji)]; exact hu, hst j u hji hFu⟩

theorem last_allM {a0 a : Act} {w0 w : World} {F : Nat → Value → World → Prop} {T : World → World → Prop} {Rl O : Nat → World → World → Prop} {listed : Array Bool} (g : GoodM ops a0 w0 F T Rl O listed a w) {L : Nat} (hL : lastB ops L = true) (hi : L ∈ Region.ready .any ops listed) :
    ∀ k, k < L → listed.getD k false = true := by
  obtain ⟨_, o, ho, hall⟩ := mem_ready.1 hi
  have key : ∀ m k, k ∈ reachB ops L m → k = L ∨ listed.getD k false = true := by
    intro m
    induction m with
    | zero => intro k hk; simp [reachB] at hk; exact .inl hk
    | succ m ih =>
      intro k hk
      rw [reachB] at hk
      split at hk
      · rename_i hany
        rcases List.mem_cons.1 hk with rfl | hk
        · right
          obtain ⟨i, hir, hie⟩ := List.any_eq_true.1 hany
          unfold edgeB at hie
          rcases ih i hir with rfl | hli
          · rw [ho] at hie
            obtain ⟨e, he, hb⟩ := List.any_eq_true.1 hie
            rw [Bool.and_eq_true, beq_iff_eq] at hb
            rw [← hb.2]
            exact hall e (by simpa using he) hb.1
          · cases hoi : ops[i]? with
            | none => rw [hoi] at hie; simp at hie
            | some oi =>
              rw [hoi] at hie
              obtain ⟨e, he, hb⟩ := List.any_eq_true.1 hie
              rw [Bool.and_eq_true, beq_iff_eq] at hb
              rw [← hb.2]
              exact g.closed i oi hoi hli e (by simpa using he) hb.1
        · exact ih k hk
      · exact ih k hk
  intro k hk
  unfold lastB at hL
  rw [Bool.and_eq_true, List.all_eq_true] at hL
  have := hL.2 k (by simpa using hk)
  rcases key L k (by simpa using this) with rfl | h
  · omega
  · exact h

theorem goodM_all {a0 a : Act} {w0 w : World} {F : Nat → Value → World → Prop} {T : World → World → Prop} {Rl O : Nat → World → World → Prop} {n : Nat} (hap : apartB ops n = true) (hn : n = a0.tmps.size) {listed : Array Bool} {L : Nat} (hsz : ops.size = L + 1) (g : GoodM ops a0 w0 F T Rl O listed a w) (hall : ∀ i, i < L → listed.getD i false = true) (hLn : listed.getD L false = false) :
    ∃ vals : Nat → Value, a = putAll ops.toList.dropLast vals 0 a0 ∧ ∀ j d, j < L → (ops[j]?).bind (·.dst) = some d → F j (vals j) w := by
  have hdl : ∀ k (o : Oper), ops.toList.dropLast[k]? = some o ↔ k < L ∧ ops[k]? = some o := by
    intro k o
    rw [List.getElem?_dropLast]
    simp only [Array.length_toList, hsz, Nat.add_sub_cancel, Array.getElem?_toList]
    by_cases hk : k < L
    · simp [hk]
    · simp [hk]
  refine ⟨fun j => (((ops[j]?).bind (·.dst)).bind (a.tmps[·]?)).getD undef, ?_, fun j d hj hd => ?_⟩
  · have he : a.tmps = (putAll ops.toList.dropLast (fun j => (((ops[j]?).bind (·.dst)).bind (a.tmps[·]?)).getD undef) 0 a0).tmps := by
      apply Array.ext_getElem?
      intro s
      by_cases hs : ∃ (j : Nat) (o : Oper), j < L ∧ ops[j]? = some o ∧ o.dst = some s
      · obtain ⟨j, o, hjL, hj, hd⟩ := hs
        obtain ⟨v, hv, _⟩ := g.got j o s hj (hall j hjL) hd
        rw [putAll_at ops.toList.dropLast _ 0 a0 s j o ((hdl j o).2 ⟨hjL, hj⟩) hd (by rw [← hn]; exact apart_lt hap hj hd) (fun k' o' hk' hne => apart_spec hap hj ((hdl k' o').1 hk').2 hd (Ne.symm hne))]
        simp [hj, hd, hv]
      · rw [putAll_other _ _ _ _ _ (fun k (o : Oper) hk hd => hs ⟨k, o, ((hdl k o).1 hk).1, ((hdl k o).1 hk).2, hd⟩)]
        refine g.old s fun j (o : Oper) hj hl hd => ?_
        have hjl := (Array.getElem?_eq_some_iff.1 hj).1
        by_cases hjL : j = L
        · subst hjL; rw [hLn] at hl; cases hl
        · exact hs ⟨j, o, by omega, hj, hd⟩
    have hd : a.defers = (putAll ops.toList.dropLast (fun j => (((ops[j]?).bind (·.dst)).bind (a.tmps[·]?)).getD undef) 0 a0).defers := by rw [putAll_defers]; exact g.defers
    cases a
    simp only at he hd
    rw [Act.mk.injEq]
    exact ⟨he, hd⟩
  · obtain ⟨o, ho, hdo⟩ := Option.bind_eq_some_iff.1 hd
    obtain ⟨v, hv, hF⟩ := g.got j o d ho (hall j hj) hdo
    simp only [ho, Option.bind_some, hdo, hv, Option.getD_some]
    exact hF

/-- each operation's step, but the last one's -/
def StepsM (P : Program) (ops : Array Oper) (a0 : Act) (w0 : World) (F : Nat → Value → World → Prop) (T : World → World → Prop) (Rl O : Nat → World → World → Prop) : Nat → List Oper → Prop
  | _, [] => True
  | i, o :: l => (∀ a w, AtM ops a0 w0 F T Rl O i a w → opGives P ops o a w fun v w' => Rl i w w' ∧ F i v w') ∧ StepsM P ops a0 w0 F T Rl O (i + 1) l

theorem stepsM_at {a0 : Act} {w0 : World} {F : Nat → Value → World → Prop} {T : World → World → Prop} {Rl O : Nat → World → World → Prop} : ∀ (l : List Oper) (i k : Nat) (o : Oper), StepsM P ops a0 w0 F T Rl O i l → l[k]? = some o → ∀ a w, AtM ops a0 w0 F T Rl O (i + k) a w → opGives P ops o a w fun v w' => Rl (i + k) w w' ∧ F (i + k) v w'
  | [], _, k, o, _, hk => by simp at hk
  | o0 :: l, i, 0, o, h, hk => by
    obtain rfl : o0 = o := by simpa using hk
    exact h.1
  | o0 :: l, i, k + 1, o, h, hk => by
    have := stepsM_at l (i + 1) k o h.2 (by simpa using hk)
    rw [show i + 1 + k = i + (k + 1) by omega] at this
    exact this

theorem last_anyM {a0 : Act} {w0 : World} {F : Nat → Value → World → Prop} {T : World → World → Prop} {Rl O : Nat → World → World → Prop} (h12 : ∀ i a b, Rl i a b → T a b) (h1 : ∀ i a b c, O i a b → O i b c → O i a c) (h2 : ∀ a b c, T a b → T b c → T a c) (h3 : ∀ i k a b, i ≠ k → Rl i a b → O k a b)
    (hF : ∀ i j v w w', j ≠ i → Rl i w w' → F j v w → F j v w') {n : Nat} (hap : apartB ops n = true) (hn : n = a0.tmps.size) (hbk : backB ops = true) {L : Nat} (hL : lastB ops L = true)
    (steps : StepsM P ops a0 w0 F T Rl O 0 ops.toList.dropLast)
    (fin : ∀ vals w, T w0 w → (∀ j d, j < L → (ops[j]?).bind (·.dst) = some d → F j (vals j) w) → wpOp P ops Q L (fun a w => Q .normal a w) (putAll ops.toList.dropLast vals 0 a0) w) :
    ∀ (fuel : Nat) (listed : Array Bool) (a : Act) (w : World), listed.size = ops.size → cnt ops.size (fun i => !listed.getD i true) = fuel → listed.getD L false = false → GoodM ops a0 w0 F T Rl O listed a w → wpAny P .any ops Q fuel listed a w := by
  have hsz : ops.size = L + 1 := by
    unfold lastB at hL
    rw [Bool.and_eq_true, beq_iff_eq] at hL
    exact hL.1
  intro fuel
  induction fuel with
  | zero =>
    intro listed a w hls hc hLn g
    have := cnt_zero _ _ hc L (by omega)
    simp [Array.getD_eq_getD_getElem?, hls, hsz] at this hLn
    rw [this] at hLn; cases hLn
  | succ fuel ih =>
    intro listed a w hls hc hLn g
    refine ⟨fun h => ?_, fun i hi => ?_⟩
    · exfalso
      have all : ∀ i, i < ops.size → listed.getD i true = true := by
        intro i hi
        induction i using Nat.strongRecOn with
        | ind i ihi =>
          cases hl : listed.getD i true with
          | true => rfl
          | false =>
            exfalso
            have ho : ops[i]? = some ops[i] := Array.getElem?_eq_getElem hi
            have : i ∈ Region.ready .any ops listed := mem_ready.2 ⟨hl, _, ho, fun e he hb => by
              have hlt := back_spec hbk ho he hb
              have := ihi e.on hlt (by omega)
              simpa [Array.getD_eq_getD_getElem?, hls, show e.on < ops.size by omega] using this⟩
            rw [h] at this
            cases this
      have := all L (by omega)
      simp [Array.getD_eq_getD_getElem?, hls, hsz] at this hLn
      rw [this] at hLn; cases hLn
    · obtain ⟨hun, o, ho, _⟩ := mem_ready.1 hi
      have hil := (Array.getElem?_eq_some_iff.1 ho).1
      have hcnt := cnt_less ops.size (fun i => !listed.getD i true) (fun j => !(listed.setIfInBounds i true).getD j true) i hil (by simp [hun]) (by simp [Array.getD_eq_getD_getElem?, hls, hil]) (fun j hj => by rw [getD_set_ne true (Ne.symm hj)])
      by_cases hiL : i = L
      · subst hiL
        have hall := last_allM g hL hi
        obtain ⟨vals, rfl, hv⟩ := goodM_all hap hn hsz g hall hLn
        refine wpOp_mono (fun a' w' hh => ?_) (fin vals w g.rel hv)
        have hdone : ∀ k, k < ops.size → (listed.setIfInBounds i true).getD k true = true := by
          intro k hk
          by_cases hki : k = i
          · subst hki; simp [Array.getD_eq_getD_getElem?, hls, hk]
          · rw [getD_set_ne true (Ne.symm hki)]
            have := hall k (by omega)
            simpa [Array.getD_eq_getD_getElem?, hls, hk] using this
        have hnone : Region.ready .any ops (listed.setIfInBounds i true) = [] := by
          apply List.eq_nil_iff_forall_not_mem.2
          intro k hk
          obtain ⟨hun', o', ho', _⟩ := mem_ready.1 hk
          have := hdone k (Array.getElem?_eq_some_iff.1 ho').1
          rw [this] at hun'; cases hun'
        cases fuel with
        | zero => exact ⟨hnone, hh⟩
        | succ fuel =>
          refine ⟨fun _ => hh, fun k hk => ?_⟩
          rw [hnone] at hk; cases hk
      · have hs := stepsM_at ops.toList.dropLast 0 i o steps (by
          rw [List.getElem?_dropLast]
          simp only [Array.length_toList, hsz, Nat.add_sub_cancel, Array.getElem?_toList]
          rw [if_pos (by omega)]; exact ho) a w (by simpa using readyM_at g hi)
        rw [Nat.zero_add] at hs
        refine wpOp_mono (fun a' w' hh => ?_) (wpOp_of_gives ho hs)
        obtain ⟨v, rfl, hb, hv⟩ := hh
        refine ih _ _ _ (by simpa using hls) (by omega) (by rw [getD_set_ne false hiL]; exact hLn) (goodM_put h12 h1 h2 h3 hap hn hls g ho hi hb ?_ hv)
        · intro j u hji hFj
          exact hF i j u _ _ hji hb hFj

/-- A REGION THAT DRAWS ITS ORDER, AND WHOSE LAST OPERATION WAITS FOR ALL OTHERS -/
theorem wp_region_lastM {id : Nat} {l : List Oper} {a0 : Act} {w0 : World} (F : Nat → Value → World → Prop) (T : World → World → Prop) (Rl O : Nat → World → World → Prop) (n L : Nat) (hm : P.follows .mixedOrders = true) (hap : apartB l.toArray n = true) (hbk : backB l.toArray = true) (hL : lastB l.toArray L = true) (hn : n = a0.tmps.size)
    (h12 : ∀ i a b, Rl i a b → T a b) (h1 : ∀ i a b c, O i a b → O i b c → O i a c) (h2 : ∀ a b c, T a b → T b c → T a c) (h3 : ∀ i k a b, i ≠ k → Rl i a b → O k a b) (h0 : T w0 w0.drew) (h0' : ∀ i, O i w0 w0.drew)
    (hF : ∀ i j v w w', j ≠ i → Rl i w w' → F j v w → F j v w')
    (steps : StepsM P l.toArray a0 w0 F T Rl O 0 l.dropLast)
    (fin : ∀ oL, l.toArray[L]? = some oL → ∀ vals w, T w0 w → (∀ j d, j < L → (l.toArray[j]?).bind (·.dst) = some d → F j (vals j) w) → opGives P l.toArray oL (putAll l.dropLast vals 0 a0) w (fun v w' => Q .normal ((putAll l.dropLast vals 0 a0).put oL.dst v) w')) :
    (Code.region id l.toArray true).wp P Q a0 w0 := by
  refine wp_region_any hm ?_
  have fin : ∀ vals w, T w0 w → (∀ j d, j < L → (l.toArray[j]?).bind (·.dst) = some d → F j (vals j) w) → wpOp P l.toArray Q L (fun a w => Q .normal a w) (putAll l.dropLast vals 0 a0) w := by
    intro vals w k1 k2
    have hlt : L < l.toArray.size := by
      unfold lastB at hL
      rw [Bool.and_eq_true, beq_iff_eq] at hL
      omega
    refine wpOp_mono (fun a' w' hh => ?_) (wpOp_of_gives (Array.getElem?_eq_getElem hlt) (fin _ (Array.getElem?_eq_getElem hlt) vals w k1 k2))
    obtain ⟨v, rfl, hq⟩ := hh
    exact hq
  refine last_anyM (a0 := a0) (w0 := w0) (F := F) h12 h1 h2 h3 hF hap hn hbk hL (by simpa using steps) (by simpa using fin) _ _ _ _ (by simp) ?_ ?_ ?_
  · have : ∀ k, k ≤ l.toArray.size → cnt k (fun i => !(Array.replicate l.toArray.size false).getD i true) = k := by
      intro k
      induction k with
      | zero => intro _; rfl
      | succ k ih =>
        intro hk
        have hk' : k < l.toArray.size := hk
        rw [cnt, ih (by omega), Array.getD_eq_getD_getElem?, Array.getElem?_replicate, if_pos hk']
        rfl
    exact this _ (Nat.le_refl _)
  · simp [Array.getD_eq_getD_getElem?, Array.getElem?_replicate]
    split <;> simp
  · refine ⟨rfl, rfl, h0, (fun i _ => h0' i), fun i o _ hl => ?_, fun _ _ => rfl, fun j o d _ hl => ?_⟩
    · exfalso
      simp [Array.getD_eq_getD_getElem?, Array.getElem?_replicate] at hl
      split at hl <;> simp at hl
    · exfalso
      simp [Array.getD_eq_getD_getElem?, Array.getElem?_replicate] at hl
      split at hl <;> simp at hl

/-! ### with 'Only' -/
def AllStM (S : Nat → Nat → Prop) : Nat → List (Value → World → Prop) → Prop
  | _, [] => True
  | k, p :: l => (∀ i, i ≠ k → StS (S i) p) ∧ AllStM S (k + 1) l
theorem allStM_isV {S : Nat → Nat → Prop} {i : Nat} {x : Value} {l : List (Value → World → Prop)} (h : AllStM S (i + 1) l) : AllStM S i (isV x :: l) := ⟨fun _ _ => stS_isV _ _, h⟩
theorem allStM_at {S : Nat → Nat → Prop} : ∀ (l : List (Value → World → Prop)) (k : Nat), AllStM S k l → ∀ i j v w w', k + j ≠ i → Only (S i) w w' → FL l j v w → FL l j v w'
  | [], _, _, _, _, _, _, _, _, _, _ => by simp [FL]
  | p :: l, k, hs, i, 0, v, w, w', hn, hb, h => hs.1 i (by omega) v w w' hb h
  | p :: l, k, hs, i, j + 1, v, w, w', hn, hb, h => allStM_at l (k + 1) hs.2 i j v w w' (by omega) hb h

theorem wp_region_many {id : Nat} {l : List Oper} {a0 : Act} {w0 : World} (S : Nat → Nat → Prop) (fs : List (Value → World → Prop)) (n L : Nat) (hm : P.follows .mixedOrders = true) (hap : apartB l.toArray n = true) (hbk : backB l.toArray = true) (hL : lastB l.toArray L = true) (hn : n = a0.tmps.size)
    (hst : AllStM S 0 fs) (steps : StepsM P l.toArray a0 w0 (FL fs) (Only (fun k => ∃ i, S i k)) (fun i => Only (S i)) (fun i => Only (fun k => ∃ j, j ≠ i ∧ S j k)) 0 l.dropLast)
    (fin : ∀ oL, l.toArray[L]? = some oL → ∀ vals w, Only (fun k => ∃ i, S i k) w0 w → (∀ j d, j < L → (l.toArray[j]?).bind (·.dst) = some d → FL fs j (vals j) w) → opGives P l.toArray oL (putAll l.dropLast vals 0 a0) w (fun v w' => Q .normal ((putAll l.dropLast vals 0 a0).put oL.dst v) w')) :
    (Code.region id l.toArray true).wp P Q a0 w0 :=
  wp_region_lastM (FL fs) _ _ _ n L hm hap hbk hL hn (fun i _ _ h => h.mono (fun k _ h => ⟨i, h⟩)) (fun _ _ _ _ h k => h.trans k (fun _ _ h => h)) (fun _ _ _ h k => h.trans k (fun _ _ h => h)) (fun i k _ _ hik h => h.mono (fun b _ h => ⟨i, hik, h⟩)) (Only.refl _ w0).drew (fun i => (Only.refl _ w0).drew)
    (fun i j v w w' hji => allStM_at fs 0 hst i j v w w' (by omega)) steps fin
end

end Go.Proofs.YtimmfnjkknbofaaDoor
/- A region that draws its order, with operations that write, those behind them waiting for them at whatever remove. No program. -/
namespace Go.Proofs.YtimmfnjkknbofaaDoor
set_option maxRecDepth 20000
open Go.RowKit
set_option linter.unusedVariables false
set_option maxRecDepth 100000

section
variable {P : Program} {ops : Array Oper} {Q : Exit → Act → World → Prop}

/-- operation j waits for i, at whatever remove -/
def depB (ops : Array Oper) (j i : Nat) : Bool := (reachB ops j j).contains i && j != i
theorem reach_listed {listed : Array Bool} (closed : ∀ i o, ops[i]? = some o → listed.getD i false = true → ∀ e ∈ o.after, Region.binds .any e = true → listed.getD e.on false = true) {L : Nat} {o : Oper} (hall : ∀ e ∈ o.after, Region.binds .any e = true → listed.getD e.on false = true) (ho : ops[L]? = some o) :
    ∀ m k, k ∈ reachB ops L m → k ≠ L → listed.getD k false = true := by
  have key : ∀ m k, k ∈ reachB ops L m → k = L ∨ listed.getD k false = true := by
    intro m
    induction m with
    | zero => intro k hk; simp [reachB] at hk; exact .inl hk
    | succ m ih =>
      intro k hk
      rw [reachB] at hk
      split at hk
      · rename_i hany
        rcases List.mem_cons.1 hk with rfl | hk
        · right
          obtain ⟨i, hir, hie⟩ := List.any_eq_true.1 hany
          unfold edgeB at hie
          rcases ih i hir with rfl | hli
          · rw [ho] at hie
            obtain ⟨e, he, hb⟩ := List.any_eq_true.1 hie
            rw [Bool.and_eq_true, beq_iff_eq] at hb
            rw [← hb.2]
            exact hall e (by simpa using he) hb.1
          · cases hoi : ops[i]? with
            | none => rw [hoi] at hie; simp at hie
            | some oi =>
              rw [hoi] at hie
              obtain ⟨e, he, hb⟩ := List.any_eq_true.1 hie
              rw [Bool.and_eq_true, beq_iff_eq] at hb
              rw [← hb.2]
              exact closed i oi hoi hli e (by simpa using he) hb.1
        · exact ih k hk
      · exact ih k hk
  intro m k hk hne
  exact (key m k hk).resolve_left hne

theorem goodT_put {a0 a : Act} {w0 w w' : World} {F : Nat → Value → World → Prop} {T : World → World → Prop} {Rl O : Nat → World → World → Prop} (h12 : ∀ i a b, Rl i a b → T a b) (h1 : ∀ i a b c, O i a b → O i b c → O i a c) (h2 : ∀ a b c, T a b → T b c → T a c) (h3 : ∀ i k a b, i ≠ k → depB ops i k = false → Rl i a b → O k a b) {n : Nat} (hap : apartB ops n = true) (hn : n = a0.tmps.size) {listed : Array Bool} (hls : listed.size = ops.size)
    (g : GoodM ops a0 w0 F T Rl O listed a w) {i : Nat} {o : Oper} (ho : ops[i]? = some o) (hi : i ∈ Region.ready .any ops listed) {v : Value} (hb : Rl i w w') (hst : ∀ j u, j ≠ i → depB ops j i = false → F j u w → F j u w') (hv : F i v w') :
    GoodM ops a0 w0 F T Rl O (listed.setIfInBounds i true) (a.put o.dst v) w' := by
  obtain ⟨hun, o', ho', hall⟩ := mem_ready.1 hi
  obtain rfl : o = o' := Option.some.inj (ho.symm.trans ho')
  have hil := (Array.getElem?_eq_some_iff.1 ho).1
  have hset : ∀ j, (listed.setIfInBounds i true).getD j false = true ↔ j = i ∨ listed.getD j false = true := by
    intro j
    by_cases hji : j = i
    · subst hji; simp [Array.getD_eq_getD_getElem?, hls, hil]
    · rw [getD_set_ne false (Ne.symm hji)]; simp [hji]
  have hb2 : T w w' := h12 _ _ _ hb
  refine ⟨?_, ?_, h2 _ _ _ g.rel hb2, (fun k hM => ?_), fun j oj hj hl e he hbd => ?_, fun s hs => ?_, fun j oj d hj hl hd => ?_⟩
  · rw [← g.defers]; cases o.dst <;> rfl
  · rw [← g.size]; cases o.dst <;> simp [Act.put]
  · have hne : i ≠ k := by
      rintro rfl
      have := (hset i).2 (.inl rfl)
      rw [hM] at this; cases this
    have hkl : listed.getD k false = false := by
      cases hx : listed.getD k false with
      | false => rfl
      | true =>
        have := (hset k).2 (.inr hx)
        rw [hM] at this; cases this
    refine h1 _ _ _ _ (g.relq k ?_) (h3 _ _ _ _ hne ?_ hb)
    rotate_left
    · cases hed : depB ops i k with
      | false => rfl
      | true =>
        have := reach_listed g.closed (fun e he hbd => hall e he hbd) ho i k (by unfold depB at hed; rw [Bool.and_eq_true] at hed; simpa using hed.1) (fun e => by subst e; exact hne rfl)
        rw [hkl] at this; cases this
    cases hx : listed.getD k false with
    | false => rfl
    | true =>
      have := (hset k).2 (.inr hx)
      rw [hM] at this; cases this
  · rcases (hset j).1 hl with rfl | hl'
    · obtain rfl : o = oj := Option.some.inj (ho.symm.trans hj)
      exact (hset _).2 (.inr (hall e he hbd))
    · exact (hset _).2 (.inr (g.closed j oj hj hl' e he hbd))
  · rw [put_other s (hs i o ho ((hset i).2 (.inl rfl)))]
    exact g.old s fun j oj hj hl => hs j oj hj ((hset j).2 (.inr hl))
  · rcases (hset j).1 hl with rfl | hl'
    · obtain rfl : o = oj := Option.some.inj (ho.symm.trans hj)
      have hlt := apart_lt hap ho hd
      refine ⟨v, ?_, hv⟩
      rw [hd]
      simp [Act.put, g.size, ← hn, hlt]
    · obtain ⟨u, hu, hFu⟩ := g.got j oj d hj hl' hd
      have hji : j ≠ i := by
        rintro rfl
        have : listed.getD j false = false := by
          simpa [Array.getD_eq_getD_getElem?, hls, hil] using hun
        rw [this] at hl'; cases hl'
      refine ⟨u, by rw [put_other d (apart_spec hap hj ho hd hji)]; exact hu, hst j u hji ?_ hFu⟩
      cases hed : depB ops j i with
      | false => rfl
      | true =>
        have := reach_listed g.closed (fun e he hbd => g.closed j oj hj hl' e he hbd) hj j i (by unfold depB at hed; rw [Bool.and_eq_true] at hed; simpa using hed.1) (fun e => hji e.symm)
        have hunf : listed.getD i false = false := by
          by_cases h : i < listed.size
          · simpa [Array.getD_eq_getD_getElem?, h] using hun
          · simp [Array.getD_eq_getD_getElem?, h]
        rw [hunf] at this; cases this

theorem last_anyT {a0 : Act} {w0 : World} {F : Nat → Value → World → Prop} {T : World → World → Prop} {Rl O : Nat → World → World → Prop} (h12 : ∀ i a b, Rl i a b → T a b) (h1 : ∀ i a b c, O i a b → O i b c → O i a c) (h2 : ∀ a b c, T a b → T b c → T a c) (h3 : ∀ i k a b, i ≠ k → depB ops i k = false → Rl i a b → O k a b)
    (hF : ∀ i j v w w', j ≠ i → depB ops j i = false → Rl i w w' → F j v w → F j v w') {n : Nat} (hap : apartB ops n = true) (hn : n = a0.tmps.size) (hbk : backB ops = true) {L : Nat} (hL : lastB ops L = true)
    (steps : StepsM P ops a0 w0 F T Rl O 0 ops.toList.dropLast)
    (fin : ∀ vals w, T w0 w → (∀ j d, j < L → (ops[j]?).bind (·.dst) = some d → F j (vals j) w) → wpOp P ops Q L (fun a w => Q .normal a w) (putAll ops.toList.dropLast vals 0 a0) w) :
    ∀ (fuel : Nat) (listed : Array Bool) (a : Act) (w : World), listed.size = ops.size → cnt ops.size (fun i => !listed.getD i true) = fuel → listed.getD L false = false → GoodM ops a0 w0 F T Rl O listed a w → wpAny P .any ops Q fuel listed a w := by
  have hsz : ops.size = L + 1 := by
    unfold lastB at hL
    rw [Bool.and_eq_true, beq_iff_eq] at hL
    exact hL.1
  intro fuel
  induction fuel with
  | zero =>
    intro listed a w hls hc hLn g
    have := cnt_zero _ _ hc L (by omega)
    simp [Array.getD_eq_getD_getElem?, hls, hsz] at this hLn
    rw [this] at hLn; cases hLn
  | succ fuel ih =>
    intro listed a w hls hc hLn g
    refine ⟨fun h => ?_, fun i hi => ?_⟩
    · exfalso
      have all : ∀ i, i < ops.size → listed.getD i true = true := by
        intro i hi
        induction i using Nat.strongRecOn with
        | ind i ihi =>
          cases hl : listed.getD i true with
          | true => rfl
          | false =>
            exfalso
            have ho : ops[i]? = some ops[i] := Array.getElem?_eq_getElem hi
            have : i ∈ Region.ready .any ops listed := mem_ready.2 ⟨hl, _, ho, fun e he hb => by
              have hlt := back_spec hbk ho he hb
              have := ihi e.on hlt (by omega)
              simpa [Array.getD_eq_getD_getElem?, hls, show e.on < ops.size by omega] using this⟩
            rw [h] at this
            cases this
      have := all L (by omega)
      simp [Array.getD_eq_getD_getElem?, hls, hsz] at this hLn
      rw [this] at hLn; cases hLn
    · obtain ⟨hun, o, ho, _⟩ := mem_ready.1 hi
      have hil := (Array.getElem?_eq_some_iff.1 ho).1
      have hcnt := cnt_less ops.size (fun i => !listed.getD i true) (fun j => !(listed.setIfInBounds i true).getD j true) i hil (by simp [hun]) (by simp [Array.getD_eq_getD_getElem?, hls, hil]) (fun j hj => by rw [getD_set_ne true (Ne.symm hj)])
      by_cases hiL : i = L
      · subst hiL
        have hall := last_allM g hL hi
        obtain ⟨vals, rfl, hv⟩ := goodM_all hap hn hsz g hall hLn
        refine wpOp_mono (fun a' w' hh => ?_) (fin vals w g.rel hv)
        have hdone : ∀ k, k < ops.size → (listed.setIfInBounds i true).getD k true = true := by
          intro k hk
          by_cases hki : k = i
          · subst hki; simp [Array.getD_eq_getD_getElem?, hls, hk]
          · rw [getD_set_ne true (Ne.symm hki)]
            have := hall k (by omega)
            simpa [Array.getD_eq_getD_getElem?, hls, hk] using this
        have hnone : Region.ready .any ops (listed.setIfInBounds i true) = [] := by
          apply List.eq_nil_iff_forall_not_mem.2
          intro k hk
          obtain ⟨hun', o', ho', _⟩ := mem_ready.1 hk
          have := hdone k (Array.getElem?_eq_some_iff.1 ho').1
          rw [this] at hun'; cases hun'
        cases fuel with
        | zero => exact ⟨hnone, hh⟩
        | succ fuel =>
          refine ⟨fun _ => hh, fun k hk => ?_⟩
          rw [hnone] at hk; cases hk
      · have hs := stepsM_at ops.toList.dropLast 0 i o steps (by
          rw [List.getElem?_dropLast]
          simp only [Array.length_toList, hsz, Nat.add_sub_cancel, Array.getElem?_toList]
          rw [if_pos (by omega)]; exact ho) a w (by simpa using readyM_at g hi)
        rw [Nat.zero_add] at hs
        refine wpOp_mono (fun a' w' hh => ?_) (wpOp_of_gives ho hs)
        obtain ⟨v, rfl, hb, hv⟩ := hh
        refine ih _ _ _ (by simpa using hls) (by omega) (by rw [getD_set_ne false hiL]; exact hLn) (goodT_put h12 h1 h2 h3 hap hn hls g ho hi hb ?_ hv)
        · intro j u hji hed hFj
          exact hF i j u _ _ hji hed hb hFj

theorem wp_region_lastT {id : Nat} {l : List Oper} {a0 : Act} {w0 : World} (F : Nat → Value → World → Prop) (T : World → World → Prop) (Rl O : Nat → World → World → Prop) (n L : Nat) (hm : P.follows .mixedOrders = true) (hap : apartB l.toArray n = true) (hbk : backB l.toArray = true) (hL : lastB l.toArray L = true) (hn : n = a0.tmps.size)
    (h12 : ∀ i a b, Rl i a b → T a b) (h1 : ∀ i a b c, O i a b → O i b c → O i a c) (h2 : ∀ a b c, T a b → T b c → T a c) (h3 : ∀ i k a b, i ≠ k → depB l.toArray i k = false → Rl i a b → O k a b) (h0 : T w0 w0.drew) (h0' : ∀ i, O i w0 w0.drew)
    (hF : ∀ i j v w w', j ≠ i → depB l.toArray j i = false → Rl i w w' → F j v w → F j v w')
    (steps : StepsM P l.toArray a0 w0 F T Rl O 0 l.dropLast)
    (fin : ∀ oL, l.toArray[L]? = some oL → ∀ vals w, T w0 w → (∀ j d, j < L → (l.toArray[j]?).bind (·.dst) = some d → F j (vals j) w) → opGives P l.toArray oL (putAll l.dropLast vals 0 a0) w (fun v w' => Q .normal ((putAll l.dropLast vals 0 a0).put oL.dst v) w')) :
    (Code.region id l.toArray true).wp P Q a0 w0 := by
  refine wp_region_any hm ?_
  have fin : ∀ vals w, T w0 w → (∀ j d, j < L → (l.toArray[j]?).bind (·.dst) = some d → F j (vals j) w) → wpOp P l.toArray Q L (fun a w => Q .normal a w) (putAll l.dropLast vals 0 a0) w := by
    intro vals w k1 k2
    have hlt : L < l.toArray.size := by
      unfold lastB at hL
      rw [Bool.and_eq_true, beq_iff_eq] at hL
      omega
    refine wpOp_mono (fun a' w' hh => ?_) (wpOp_of_gives (Array.getElem?_eq_getElem hlt) (fin _ (Array.getElem?_eq_getElem hlt) vals w k1 k2))
    obtain ⟨v, rfl, hq⟩ := hh
    exact hq
  refine last_anyT (a0 := a0) (w0 := w0) (F := F) h12 h1 h2 h3 hF hap hn hbk hL (by simpa using steps) (by simpa using fin) _ _ _ _ (by simp) ?_ ?_ ?_
  · have : ∀ k, k ≤ l.toArray.size → cnt k (fun i => !(Array.replicate l.toArray.size false).getD i true) = k := by
      intro k
      induction k with
      | zero => intro _; rfl
      | succ k ih =>
        intro hk
        have hk' : k < l.toArray.size := hk
        rw [cnt, ih (by omega), Array.getD_eq_getD_getElem?, Array.getElem?_replicate, if_pos hk']
        rfl
    exact this _ (Nat.le_refl _)
  · simp [Array.getD_eq_getD_getElem?, Array.getElem?_replicate]
    split <;> simp
  · refine ⟨rfl, rfl, h0, (fun i _ => h0' i), fun i o _ hl => ?_, fun _ _ => rfl, fun j o d _ hl => ?_⟩
    · exfalso
      simp [Array.getD_eq_getD_getElem?, Array.getElem?_replicate] at hl
      split at hl <;> simp at hl
    · exfalso
      simp [Array.getD_eq_getD_getElem?, Array.getElem?_replicate] at hl
      split at hl <;> simp at hl

/-! ### with 'Only': operation M alone writes -/
def AllStT (ops : Array Oper) (S : Nat → Prop) (M : Nat) : Nat → List (Value → World → Prop) → Prop
  | _, [] => True
  | k, p :: l => (StS (fun _ => False) p ∧ (k ≠ M → depB ops k M = false → StS S p)) ∧ AllStT ops S M (k + 1) l
theorem allStT_isV {ops : Array Oper} {S : Nat → Prop} {M i : Nat} {x : Value} {l : List (Value → World → Prop)} (h : AllStT ops S M (i + 1) l) : AllStT ops S M i (isV x :: l) := ⟨⟨stS_isV _ _, fun _ _ => stS_isV _ _⟩, h⟩
theorem allStT_at {ops : Array Oper} {S : Nat → Prop} {M : Nat} : ∀ (l : List (Value → World → Prop)) (k : Nat), AllStT ops S M k l → ∀ i j v w w', k + j ≠ i → depB ops (k + j) i = false → Only (fun x => i = M ∧ S x) w w' → FL l j v w → FL l j v w'
  | [], _, _, _, _, _, _, _, _, _, _, _ => by simp [FL]
  | p :: l, k, hs, i, 0, v, w, w', hn, he, hb, h => by
    by_cases hi : i = M
    · subst hi
      exact hs.1.2 (by omega) he v w w' (hb.mono (fun _ _ h => h.2)) h
    · exact hs.1.1 v w w' (hb.mono (fun _ _ h => hi h.1)) h
  | p :: l, k, hs, i, j + 1, v, w, w', hn, he, hb, h => allStT_at l (k + 1) hs.2 i j v w w' (by omega) (by rw [show k + 1 + j = k + (j + 1) by omega]; exact he) hb h

theorem wp_region_dep {id : Nat} {l : List Oper} {a0 : Act} {w0 : World} (S : Nat → Prop) (fs : List (Value → World → Prop)) (M n L : Nat) (hm : P.follows .mixedOrders = true) (hap : apartB l.toArray n = true) (hbk : backB l.toArray = true) (hL : lastB l.toArray L = true) (hn : n = a0.tmps.size)
    (hst : AllStT l.toArray S M 0 fs) (steps : StepsM P l.toArray a0 w0 (FL fs) (Only S) (fun i => Only (fun x => i = M ∧ S x)) (fun i => Only (fun x => i ≠ M ∧ S x)) 0 l.dropLast)
    (fin : ∀ oL, l.toArray[L]? = some oL → ∀ vals w, Only S w0 w → (∀ j d, j < L → (l.toArray[j]?).bind (·.dst) = some d → FL fs j (vals j) w) → opGives P l.toArray oL (putAll l.dropLast vals 0 a0) w (fun v w' => Q .normal ((putAll l.dropLast vals 0 a0).put oL.dst v) w')) :
    (Code.region id l.toArray true).wp P Q a0 w0 :=
  wp_region_lastT (FL fs) _ _ _ n L hm hap hbk hL hn (fun i _ _ h => h.mono (fun k _ h => h.2)) (fun _ _ _ _ h k => h.trans k (fun _ _ h => h)) (fun _ _ _ h k => h.trans k (fun _ _ h => h)) (fun i k _ _ hik he h => h.mono (fun b _ h => ⟨fun e => hik (h.1.trans e.symm), h.2⟩)) (Only.refl _ w0).drew (fun i => (Only.refl _ w0).drew)
    (fun i j v w w' hji he => allStT_at fs 0 hst i j v w w' (by omega) (by rw [Nat.zero_add]; exact he)) steps fin
end

end Go.Proofs.YtimmfnjkknbofaaDoor
/- A region that draws its order, whose operations that turn the world wait for one another in a chain, near or far; the others are quiet: each hands on a value that is known ahead. No program. -/
namespace Go.Proofs.YtimmfnjkknbofaaDoor
set_option maxRecDepth 20000
open Go.RowKit
set_option linter.unusedVariables false
set_option maxRecDepth 100000

section
variable {P : Program} {ops : Array Oper} {Q : Exit → Act → World → Prop}

def updV (vals : Nat → Value) (i : Nat) (v : Value) : Nat → Value := fun j => if j = i then v else vals j
theorem updV_same (vals : Nat → Value) (i : Nat) (v : Value) : updV vals i v i = v := if_pos rfl
theorem updV_other (vals : Nat → Value) {i j : Nat} (v : Value) (h : j ≠ i) : updV vals i v j = vals j := if_neg h

/-- each operation is quiet, or stands in the chain, once; each link waits for the one ahead -/
def linkB (ops : Array Oper) : List Nat → Bool
  | i :: k :: l => depB ops k i && linkB ops (k :: l)
  | _ => true
def chB (ops : Array Oper) (qs : List (Option Value)) (ch : List Nat) : Bool :=
  linkB ops ch && decide ch.Nodup && ((List.range ops.size).all fun i => match qs.getD i none with | some _ => !ch.contains i && decide (0 < ch.length) && depB ops (ch.getD (ch.length - 1) 0) i | none => ch.contains i) && ch.all fun i => decide (i < ops.size)

structure AtC (ops : Array Oper) (a0 : Act) (qs : List (Option Value)) (i : Nat) (vals : Nat → Value) (a : Act) : Prop where
  old : ∀ s, oldB ops i s = true → a.eval (.tmp s) = a0.eval (.tmp s)
  val : ∀ j d, gotB ops i j d = true → a.eval (.tmp d) = vals j
  tmp : ∀ j d, gotB ops i j d = true → a.tmps[d]? = some (vals j)
  quiet : ∀ j x, qs.getD j none = some x → vals j = x
theorem AtC.q {a0 : Act} {qs : List (Option Value)} {i : Nat} {vals : Nat → Value} {a : Act} (h : AtC ops a0 qs i vals a) (j d : Nat) {x : Value} (hg : gotB ops i j d = true) (hx : qs.getD j none = some x) : a.eval (.tmp d) = x := by
  rw [h.val j d hg, h.quiet j x hx]
theorem AtC.guard {a0 : Act} {qs : List (Option Value)} {i : Nat} {vals : Nat → Value} {a : Act} (h : AtC ops a0 qs i vals a) (j d : Nat) (hg : gotB ops i j d = true) (b : Bool) (hb : vals j = .bool b) : yielded ops a.tmps j = some b := by
  have hv := h.tmp j d hg
  have hd : (ops[j]?).bind (·.dst) = some d := by
    unfold gotB at hg
    rw [Bool.and_eq_true] at hg
    simpa using hg.2
  unfold yielded
  rw [hd]
  simp [hv, hb]

structure GoodC (ops : Array Oper) (a0 : Act) (qs : List (Option Value)) (ch : List Nat) (St : Nat → (Nat → Value) → World → Prop) (listed : Array Bool) (a : Act) (w : World) (vals : Nat → Value) (k : Nat) : Prop where
  defers : a.defers = a0.defers
  size : a.tmps.size = a0.tmps.size
  closed : ∀ i o, ops[i]? = some o → listed.getD i false = true → ∀ e ∈ o.after, Region.binds .any e = true → listed.getD e.on false = true
  old : ∀ s, (∀ j o, ops[j]? = some o → listed.getD j false = true → o.dst ≠ some s) → a.tmps[s]? = a0.tmps[s]?
  got : ∀ j o d, ops[j]? = some o → listed.getD j false = true → o.dst = some d → a.tmps[d]? = some (vals j)
  quiet : ∀ j x, qs.getD j none = some x → vals j = x
  le : k ≤ ch.length
  chain : ∀ m, m < ch.length → (listed.getD (ch.getD m 0) false = true ↔ m < k)
  st : St k vals w

/-- each operation's step -/
def StepsC (P : Program) (ops : Array Oper) (a0 : Act) (qs : List (Option Value)) (ch : List Nat) (St : Nat → (Nat → Value) → World → Prop) : Nat → List Oper → Prop
  | _, [] => True
  | i, o :: l => (match qs.getD i none with
      | some x => ∀ k vals a w, k < ch.length → AtC ops a0 qs i vals a → St k vals w → opGives P ops o a w fun v w' => v = x ∧ St k vals w'
      | none => ∀ vals a w, AtC ops a0 qs i vals a → St (ch.idxOf i) vals w → opGives P ops o a w fun v w' => St (ch.idxOf i + 1) (updV vals i v) w') ∧ StepsC P ops a0 qs ch St (i + 1) l

theorem stepsC_at {a0 : Act} {qs : List (Option Value)} {ch : List Nat} {St : Nat → (Nat → Value) → World → Prop} : ∀ (l : List Oper) (i k : Nat) (o : Oper), StepsC P ops a0 qs ch St i l → l[k]? = some o →
    (∀ x, qs.getD (i + k) none = some x → ∀ p vals a w, p < ch.length → AtC ops a0 qs (i + k) vals a → St p vals w → opGives P ops o a w fun v w' => v = x ∧ St p vals w') ∧
    (qs.getD (i + k) none = none → ∀ vals a w, AtC ops a0 qs (i + k) vals a → St (ch.idxOf (i + k)) vals w → opGives P ops o a w fun v w' => St (ch.idxOf (i + k) + 1) (updV vals (i + k) v) w')
  | [], _, k, o, _, hk => by simp at hk
  | o0 :: l, i, 0, o, h, hk => by
    obtain rfl : o0 = o := by simpa using hk
    have h1 := h.1
    rw [Nat.add_zero]
    cases hq : qs.getD i none with
    | some y => rw [hq] at h1; exact ⟨fun x hx => (by cases hx; exact h1), fun hx => (by cases hx)⟩
    | none => rw [hq] at h1; exact ⟨fun x hx => (by cases hx), fun _ => h1⟩
  | o0 :: l, i, k + 1, o, h, hk => by
    have := stepsC_at l (i + 1) k o h.2 (by simpa using hk)
    rw [show i + 1 + k = i + (k + 1) by omega] at this
    exact this

theorem link_at : ∀ (ch : List Nat), linkB ops ch = true → ∀ m, m + 1 < ch.length → depB ops (ch.getD (m + 1) 0) (ch.getD m 0) = true
  | [], _, m, h => by simp at h
  | [_], _, m, h => by simp at h
  | i :: k :: l, hl, 0, _ => by
    rw [linkB, Bool.and_eq_true] at hl
    simpa using hl.1
  | i :: k :: l, hl, m + 1, h => by
    rw [linkB, Bool.and_eq_true] at hl
    have := link_at (k :: l) hl.2 m (by simpa using h)
    simpa using this
theorem idxOf_getD (ch : List Nat) (hn : ch.Nodup) (m : Nat) (hm : m < ch.length) : ch.idxOf (ch.getD m 0) = m := by
  have : ch.getD m 0 = ch[m] := by simp [List.getD, hm]
  rw [this]
  exact List.Nodup.idxOf_getElem hn m hm

theorem goodC_put {a0 a : Act} {w w' : World} {qs : List (Option Value)} {ch : List Nat} {St : Nat → (Nat → Value) → World → Prop} {n : Nat} (hap : apartB ops n = true) (hn : n = a0.tmps.size) {listed : Array Bool} (hls : listed.size = ops.size) {vals vals' : Nat → Value} {k k' : Nat}
    (g : GoodC ops a0 qs ch St listed a w vals k) {i : Nat} {o : Oper} (ho : ops[i]? = some o) (hi : i ∈ Region.ready .any ops listed) {v : Value} (hv : vals' i = v) (hoth : ∀ j, j ≠ i → vals' j = vals j) (hq : ∀ j x, qs.getD j none = some x → vals' j = x) (hle : k' ≤ ch.length)
    (hch : ∀ m, m < ch.length → ((listed.setIfInBounds i true).getD (ch.getD m 0) false = true ↔ m < k')) (hst : St k' vals' w') :
    GoodC ops a0 qs ch St (listed.setIfInBounds i true) (a.put o.dst v) w' vals' k' := by
  obtain ⟨hun, o', ho', hall⟩ := mem_ready.1 hi
  obtain rfl : o = o' := Option.some.inj (ho.symm.trans ho')
  have hil := (Array.getElem?_eq_some_iff.1 ho).1
  have hset : ∀ j, (listed.setIfInBounds i true).getD j false = true ↔ j = i ∨ listed.getD j false = true := by
    intro j
    by_cases hji : j = i
    · subst hji; simp [Array.getD_eq_getD_getElem?, hls, hil]
    · rw [getD_set_ne false (Ne.symm hji)]; simp [hji]
  refine ⟨?_, ?_, fun j oj hj hl e he hbd => ?_, fun s hs => ?_, fun j oj d hj hl hd => ?_, hq, hle, hch, hst⟩
  · rw [← g.defers]; cases o.dst <;> rfl
  · rw [← g.size]; cases o.dst <;> simp [Act.put]
  · rcases (hset j).1 hl with rfl | hl'
    · obtain rfl : o = oj := Option.some.inj (ho.symm.trans hj)
      exact (hset _).2 (.inr (hall e he hbd))
    · exact (hset _).2 (.inr (g.closed j oj hj hl' e he hbd))
  · rw [put_other s (hs i o ho ((hset i).2 (.inl rfl)))]
    exact g.old s fun j oj hj hl => hs j oj hj ((hset j).2 (.inr hl))
  · rcases (hset j).1 hl with rfl | hl'
    · obtain rfl : o = oj := Option.some.inj (ho.symm.trans hj)
      have hlt := apart_lt hap ho hd
      rw [hd, hv]
      simp [Act.put, g.size, ← hn, hlt]
    · have hji : j ≠ i := by
        rintro rfl
        have : listed.getD j false = false := by
          simpa [Array.getD_eq_getD_getElem?, hls, hil] using hun
        rw [this] at hl'; cases hl'
      rw [put_other d (apart_spec hap hj ho hd hji), hoth j hji]
      exact g.got j oj d hj hl' hd

theorem readyC_at {a0 a : Act} {w : World} {qs : List (Option Value)} {ch : List Nat} {St : Nat → (Nat → Value) → World → Prop} {listed : Array Bool} {vals : Nat → Value} {k : Nat} (g : GoodC ops a0 qs ch St listed a w vals k) {i : Nat} (hi : i ∈ Region.ready .any ops listed) : AtC ops a0 qs i vals a := by
  obtain ⟨hun, o, ho, hall⟩ := mem_ready.1 hi
  have hil := (Array.getElem?_eq_some_iff.1 ho).1
  have hunf : listed.getD i false = false := by
    by_cases h : i < listed.size
    · simpa [Array.getD_eq_getD_getElem?, h] using hun
    · simp [Array.getD_eq_getD_getElem?, h]
  have htmp : ∀ j d, gotB ops i j d = true → a.tmps[d]? = some (vals j) := fun j d hg => by
    unfold gotB at hg
    simp only [ho, Bool.and_eq_true, List.any_eq_true, beq_iff_eq] at hg
    obtain ⟨⟨e, he, hb, hon⟩, hd⟩ := hg
    have hl := hall e (by simpa using he) hb
    rw [hon] at hl
    obtain ⟨oj, hj, hdj⟩ := Option.bind_eq_some_iff.1 hd
    exact g.got j oj d hj hl hdj
  refine ⟨fun s hs => ?_, fun j d hg => ?_, htmp, g.quiet⟩
  · have := g.old s (fun j oj hj hl hd => by
      have hjl := (Array.getElem?_eq_some_iff.1 hj).1
      unfold oldB at hs
      rw [List.all_eq_true] at hs
      have h1 := hs j (by simpa using hjl)
      simp only [hj, hd, bne_self_eq_false, Bool.false_or, Bool.or_eq_true, beq_iff_eq, List.any_eq_true, Bool.and_eq_true] at h1
      rcases h1 with rfl | ⟨e, he, hb, hon⟩
      · rw [hunf] at hl; cases hl
      · have := g.closed j oj hj hl e (by simpa using he) hb
        rw [hon, hunf] at this; cases this)
    simp [Act.eval, Array.getD_eq_getD_getElem?, this]
  · simp [Act.eval, Array.getD_eq_getD_getElem?, htmp j d hg]

theorem goodC_all {a0 a : Act} {w : World} {qs : List (Option Value)} {ch : List Nat} {St : Nat → (Nat → Value) → World → Prop} {n : Nat} (hap : apartB ops n = true) (hn : n = a0.tmps.size) {listed : Array Bool} {vals : Nat → Value} {k : Nat} (g : GoodC ops a0 qs ch St listed a w vals k) (hall : ∀ i, i < ops.size → listed.getD i false = true) :
    a = putAll ops.toList vals 0 a0 := by
  have he : a.tmps = (putAll ops.toList vals 0 a0).tmps := by
    apply Array.ext_getElem?
    intro s
    by_cases hs : ∃ (j : Nat) (o : Oper), ops[j]? = some o ∧ o.dst = some s
    · obtain ⟨j, o, hj, hd⟩ := hs
      have hjl := (Array.getElem?_eq_some_iff.1 hj).1
      have hv := g.got j o s hj (hall j hjl) hd
      rw [putAll_at ops.toList _ 0 a0 s j o (by simpa using hj) hd (by rw [← hn]; exact apart_lt hap hj hd) (fun k' o' hk' hne => apart_spec hap hj (by simpa using hk') hd (Ne.symm hne))]
      rw [hv, Nat.zero_add]
    · rw [putAll_other _ _ _ _ _ (fun k (o : Oper) hk hd => hs ⟨k, o, by simpa using hk, hd⟩)]
      exact g.old s fun j (o : Oper) hj _ hd => hs ⟨j, o, hj, hd⟩
  have hd : a.defers = (putAll ops.toList vals 0 a0).defers := by rw [putAll_defers]; exact g.defers
  cases a
  simp only at he hd
  rw [Act.mk.injEq]
  exact ⟨he, hd⟩

theorem chain_any {a0 : Act} {qs : List (Option Value)} {ch : List Nat} {St : Nat → (Nat → Value) → World → Prop} {n : Nat} (hap : apartB ops n = true) (hn : n = a0.tmps.size) (hbk : backB ops = true) (hcb : chB ops qs ch = true)
    (steps : StepsC P ops a0 qs ch St 0 ops.toList)
    (fin : ∀ vals w, (∀ j x, qs.getD j none = some x → vals j = x) → St ch.length vals w → Q .normal (putAll ops.toList vals 0 a0) w) :
    ∀ (fuel : Nat) (listed : Array Bool) (a : Act) (w : World) (vals : Nat → Value) (k : Nat), listed.size = ops.size → cnt ops.size (fun i => !listed.getD i true) = fuel → GoodC ops a0 qs ch St listed a w vals k → wpAny P .any ops Q fuel listed a w := by
  unfold chB at hcb
  rw [Bool.and_eq_true, Bool.and_eq_true, Bool.and_eq_true, decide_eq_true_iff] at hcb
  obtain ⟨⟨⟨hlink, hnod⟩, hpart⟩, hlt⟩ := hcb
  have done : ∀ (listed : Array Bool) (a : Act) (w : World) (vals : Nat → Value) (k : Nat), listed.size = ops.size → (∀ i, i < ops.size → listed.getD i true = true) → GoodC ops a0 qs ch St listed a w vals k → Q .normal a w := by
    intro listed a w vals k hls hall g
    have hall' : ∀ i, i < ops.size → listed.getD i false = true := fun i hi => by
      have := hall i hi
      simpa [Array.getD_eq_getD_getElem?, hls, hi] using this
    have hk : k = ch.length := by
      rcases Nat.lt_or_ge k ch.length with h | h
      · have := (g.chain k h).1 (hall' _ (by
          have := List.all_eq_true.1 hlt (ch.getD k 0) (by simp only [List.getD, List.getElem?_eq_getElem h]; exact List.getElem_mem h)
          simpa using this))
        omega
      · have := g.le; omega
    rw [goodC_all hap hn g hall']
    exact fin vals w g.quiet (hk ▸ g.st)
  intro fuel
  induction fuel with
  | zero =>
    intro listed a w vals k hls hc g
    have hall : ∀ i, i < ops.size → listed.getD i true = true := fun i hi => by
      have := cnt_zero _ _ hc i hi
      simpa using this
    refine ⟨?_, done listed a w vals k hls hall g⟩
    apply List.eq_nil_iff_forall_not_mem.2
    intro i hi
    obtain ⟨hun, o, ho, _⟩ := mem_ready.1 hi
    have := hall i (Array.getElem?_eq_some_iff.1 ho).1
    rw [this] at hun; cases hun
  | succ fuel ih =>
    intro listed a w vals k hls hc g
    refine ⟨fun h => done listed a w vals k hls (fun i hi => ?_) g, fun i hi => ?_⟩
    · induction i using Nat.strongRecOn with
      | ind i ihi =>
        cases hl : listed.getD i true with
        | true => rfl
        | false =>
          exfalso
          have ho : ops[i]? = some ops[i] := Array.getElem?_eq_getElem hi
          have : i ∈ Region.ready .any ops listed := mem_ready.2 ⟨hl, _, ho, fun e he hb => by
            have hlt := back_spec hbk ho he hb
            have := ihi e.on hlt (by omega)
            simpa [Array.getD_eq_getD_getElem?, hls, show e.on < ops.size by omega] using this⟩
          rw [h] at this
          cases this
    · obtain ⟨hun, o, ho, hall⟩ := mem_ready.1 hi
      have hil := (Array.getElem?_eq_some_iff.1 ho).1
      have hat := readyC_at g hi
      have hs := stepsC_at ops.toList 0 i o steps (by simpa using ho)
      rw [Nat.zero_add] at hs
      have hcnt := cnt_less ops.size (fun i => !listed.getD i true) (fun j => !(listed.setIfInBounds i true).getD j true) i hil (by simp [hun]) (by simp [Array.getD_eq_getD_getElem?, hls, hil]) (fun j hj => by rw [getD_set_ne true (Ne.symm hj)])
      have hunf : listed.getD i false = false := by
        simpa [Array.getD_eq_getD_getElem?, hls, hil] using hun
      have hp := List.all_eq_true.1 hpart i (by simpa using hil)
      have hset : ∀ j, (listed.setIfInBounds i true).getD j false = true ↔ j = i ∨ listed.getD j false = true := by
        intro j
        by_cases hji : j = i
        · subst hji; simp [Array.getD_eq_getD_getElem?, hls, hil]
        · rw [getD_set_ne false (Ne.symm hji)]; simp [hji]
      cases hq : qs.getD i none with
      | some x =>
        rw [hq] at hp
        simp only [Bool.and_eq_true, decide_eq_true_iff] at hp
        obtain ⟨⟨hp1, hp2⟩, hp3⟩ := hp
        have hni : i ∉ ch := by simpa using hp1
        have hklt : k < ch.length := by
          rcases Nat.lt_or_ge k ch.length with h | h
          · exact h
          · exfalso
            have hl := (g.chain (ch.length - 1) (by omega)).2 (by omega)
            have hLs : ch.getD (ch.length - 1) 0 < ops.size := by
              have := List.all_eq_true.1 hlt (ch.getD (ch.length - 1) 0) (by simp only [List.getD, List.getElem?_eq_getElem (show ch.length - 1 < ch.length by omega)]; exact List.getElem_mem _)
              simpa using this
            have hoL : ops[ch.getD (ch.length - 1) 0]? = some ops[ch.getD (ch.length - 1) 0] := Array.getElem?_eq_getElem hLs
            unfold depB at hp3
            rw [Bool.and_eq_true] at hp3
            have := reach_listed g.closed (fun e he hb => g.closed _ _ hoL hl e he hb) hoL _ i (by simpa using hp3.1) (by
              have := hp3.2
              simp at this
              exact fun e => this e.symm)
            rw [hunf] at this; cases this
        refine wpOp_mono (fun a' w' hh => ?_) (wpOp_of_gives ho (hs.1 x hq k vals a w hklt hat g.st))
        obtain ⟨v, rfl, rfl, hst⟩ := hh
        refine ih _ _ _ vals k (by simpa using hls) (by omega) (goodC_put hap hn hls g ho hi (g.quiet i _ hq) (fun _ _ => rfl) g.quiet g.le (fun m hm => ?_) hst)
        rw [hset]
        refine ⟨fun h => ?_, fun h => .inr ((g.chain m hm).2 h)⟩
        rcases h with h | h
        · exact absurd (by rw [← h]; simp only [List.getD, List.getElem?_eq_getElem hm]; exact List.getElem_mem hm) hni
        · exact (g.chain m hm).1 h
      | none =>
        rw [hq] at hp
        have hmem : i ∈ ch := by simpa using hp
        have hpos : ch.idxOf i < ch.length := List.idxOf_lt_length_iff.2 hmem
        have hgi : ch.getD (ch.idxOf i) 0 = i := by simp only [List.getD, List.getElem?_eq_getElem hpos]; exact List.getElem_idxOf hpos
        have hk : ch.idxOf i = k := by
          have h1 : ¬ ch.idxOf i < k := fun h => by
            have := (g.chain _ hpos).2 h
            rw [hgi, hunf] at this; cases this
          rcases Nat.lt_or_ge k (ch.idxOf i) with h2 | h2
          · exfalso
            obtain ⟨m, hm⟩ : ∃ m, ch.idxOf i = m + 1 := ⟨ch.idxOf i - 1, by omega⟩
            have hd := link_at ch hlink m (by omega)
            rw [← hm, hgi] at hd
            unfold depB at hd
            rw [Bool.and_eq_true] at hd
            have hl := reach_listed g.closed hall ho i (ch.getD m 0) (by simpa using hd.1) (by
              have := hd.2
              simp at this
              exact fun e => this e.symm)
            have := (g.chain m (by omega)).1 hl
            omega
          · omega
        have hst := g.st
        rw [← hk] at hst
        refine wpOp_mono (fun a' w' hh => ?_) (wpOp_of_gives ho (hs.2 hq vals a w hat hst))
        obtain ⟨v, rfl, hst'⟩ := hh
        refine ih _ _ _ (updV vals i v) (ch.idxOf i + 1) (by simpa using hls) (by omega) (goodC_put hap hn hls g ho hi (updV_same _ _ _) (fun j hj => updV_other _ _ hj) (fun j x hx => ?_) (by omega) (fun m hm => ?_) hst')
        · rw [updV_other _ _ (fun e => by rw [e, hq] at hx; cases hx)]
          exact g.quiet j x hx
        · rw [hset]
          constructor
          · rintro (h | h)
            · have := idxOf_getD ch hnod m hm
              rw [h] at this
              omega
            · have := (g.chain m hm).1 h
              omega
          · intro h
            by_cases hmk : m = ch.idxOf i
            · subst hmk; exact .inl hgi
            · exact .inr ((g.chain m hm).2 (by omega))

/-- A REGION THAT DRAWS ITS ORDER, BY A CHAIN -/
theorem wp_region_chain {id : Nat} {l : List Oper} {a0 : Act} {w0 : World} (qs : List (Option Value)) (ch : List Nat) (St : Nat → (Nat → Value) → World → Prop) (n : Nat) (hm : P.follows .mixedOrders = true) (hap : apartB l.toArray n = true) (hbk : backB l.toArray = true) (hcb : chB l.toArray qs ch = true) (hn : n = a0.tmps.size)
    (h0 : ∀ vals, St 0 vals w0.drew)
    (steps : StepsC P l.toArray a0 qs ch St 0 l)
    (fin : ∀ vals w, (∀ j x, qs.getD j none = some x → vals j = x) → St ch.length vals w → Q .normal (putAll l vals 0 a0) w) :
    (Code.region id l.toArray true).wp P Q a0 w0 := by
  refine wp_region_any hm ?_
  refine chain_any (a0 := a0) (qs := qs) (ch := ch) (St := St) hap hn hbk hcb (by simpa using steps) (by simpa using fin) _ _ _ _ (fun j => (qs.getD j none).getD undef) 0 (by simp) ?_ ?_
  · have : ∀ k, k ≤ l.toArray.size → cnt k (fun i => !(Array.replicate l.toArray.size false).getD i true) = k := by
      intro k
      induction k with
      | zero => intro _; rfl
      | succ k ih =>
        intro hk
        have hk' : k < l.toArray.size := hk
        rw [cnt, ih (by omega), Array.getD_eq_getD_getElem?, Array.getElem?_replicate, if_pos hk']
        rfl
    exact this _ (Nat.le_refl _)
  · have hno : ∀ j, (Array.replicate l.toArray.size false).getD j false = true → False := fun j hl => by
      simp [Array.getD_eq_getD_getElem?, Array.getElem?_replicate] at hl
      split at hl <;> simp at hl
    exact ⟨rfl, rfl, fun i o _ hl => (hno i hl).elim, fun _ _ => rfl, fun j o d _ hl => (hno j hl).elim, fun j x hx => by simp only [hx, Option.getD_some], Nat.zero_le _, fun m _ => ⟨fun hl => (hno _ hl).elim, fun h => absurd h (Nat.not_lt_zero _)⟩, h0 _⟩

end
end Go.Proofs.YtimmfnjkknbofaaDoor
/- A region that draws its order, by what holds when certain operations are done, whatever the order: the others are quiet. No program. -/
namespace Go.Proofs.YtimmfnjkknbofaaDoor
set_option maxRecDepth 20000
open Go.RowKit
set_option linter.unusedVariables false
set_option maxRecDepth 100000

section
variable {P : Program} {ops : Array Oper} {Q : Exit → Act → World → Prop}

structure GoodE (ops : Array Oper) (a0 : Act) (qs : List (Option Value)) (ch : List Nat) (St : (Nat → Bool) → (Nat → Value) → World → Prop) (listed : Array Bool) (a : Act) (w : World) (vals : Nat → Value) : Prop where
  defers : a.defers = a0.defers
  size : a.tmps.size = a0.tmps.size
  closed : ∀ i o, ops[i]? = some o → listed.getD i false = true → ∀ e ∈ o.after, Region.binds .any e = true → listed.getD e.on false = true
  old : ∀ s, (∀ j o, ops[j]? = some o → listed.getD j false = true → o.dst ≠ some s) → a.tmps[s]? = a0.tmps[s]?
  got : ∀ j o d, ops[j]? = some o → listed.getD j false = true → o.dst = some d → a.tmps[d]? = some (vals j)
  quiet : ∀ j x, qs.getD j none = some x → vals j = x
  st : St (fun j => listed.getD j false) vals w

/-- operation i is up: what is done, what is not -/
structure UpE (ops : Array Oper) (i : Nat) (D : Nat → Bool) : Prop where
  self : D i = false
  done : ∀ j, depB ops i j = true → D j = true
  not : ∀ j, j < ops.size → depB ops j i = true → D j = false

/-- each operation's step -/
def StepsE (P : Program) (ops : Array Oper) (a0 : Act) (qs : List (Option Value)) (St : (Nat → Bool) → (Nat → Value) → World → Prop) : Nat → List Oper → Prop
  | _, [] => True
  | i, o :: l => (match qs.getD i none with
      | some x => ∀ D vals a w, UpE ops i D → AtC ops a0 qs i vals a → St D vals w → opGives P ops o a w fun v w' => v = x ∧ St D vals w'
      | none => ∀ D vals a w, UpE ops i D → AtC ops a0 qs i vals a → St D vals w → opGives P ops o a w fun v w' => St (fun j => if j = i then true else D j) (updV vals i v) w') ∧ StepsE P ops a0 qs St (i + 1) l

theorem stepsE_at {a0 : Act} {qs : List (Option Value)} {St : (Nat → Bool) → (Nat → Value) → World → Prop} : ∀ (l : List Oper) (i k : Nat) (o : Oper), StepsE P ops a0 qs St i l → l[k]? = some o →
    (∀ x, qs.getD (i + k) none = some x → ∀ D vals a w, UpE ops (i + k) D → AtC ops a0 qs (i + k) vals a → St D vals w → opGives P ops o a w fun v w' => v = x ∧ St D vals w') ∧
    (qs.getD (i + k) none = none → ∀ D vals a w, UpE ops (i + k) D → AtC ops a0 qs (i + k) vals a → St D vals w → opGives P ops o a w fun v w' => St (fun j => if j = i + k then true else D j) (updV vals (i + k) v) w')
  | [], _, k, o, _, hk => by simp at hk
  | o0 :: l, i, 0, o, h, hk => by
    obtain rfl : o0 = o := by simpa using hk
    have h1 := h.1
    rw [Nat.add_zero]
    cases hq : qs.getD i none with
    | some y => rw [hq] at h1; exact ⟨fun x hx => (by cases hx; exact h1), fun hx => (by cases hx)⟩
    | none => rw [hq] at h1; exact ⟨fun x hx => (by cases hx), fun _ => h1⟩
  | o0 :: l, i, k + 1, o, h, hk => by
    have := stepsE_at l (i + 1) k o h.2 (by simpa using hk)
    rw [show i + 1 + k = i + (k + 1) by omega] at this
    exact this

theorem goodE_put {a0 a : Act} {w w' : World} {qs : List (Option Value)} {ch : List Nat} {St : (Nat → Bool) → (Nat → Value) → World → Prop} {n : Nat} (hap : apartB ops n = true) (hn : n = a0.tmps.size) {listed : Array Bool} (hls : listed.size = ops.size) {vals vals' : Nat → Value}
    (g : GoodE ops a0 qs ch St listed a w vals) {i : Nat} {o : Oper} (ho : ops[i]? = some o) (hi : i ∈ Region.ready .any ops listed) {v : Value} (hv : vals' i = v) (hoth : ∀ j, j ≠ i → vals' j = vals j) (hq : ∀ j x, qs.getD j none = some x → vals' j = x) (hst : St (fun j => (listed.setIfInBounds i true).getD j false) vals' w') :
    GoodE ops a0 qs ch St (listed.setIfInBounds i true) (a.put o.dst v) w' vals' := by
  obtain ⟨hun, o', ho', hall⟩ := mem_ready.1 hi
  obtain rfl : o = o' := Option.some.inj (ho.symm.trans ho')
  have hil := (Array.getElem?_eq_some_iff.1 ho).1
  have hset : ∀ j, (listed.setIfInBounds i true).getD j false = true ↔ j = i ∨ listed.getD j false = true := by
    intro j
    by_cases hji : j = i
    · subst hji; simp [Array.getD_eq_getD_getElem?, hls, hil]
    · rw [getD_set_ne false (Ne.symm hji)]; simp [hji]
  refine ⟨?_, ?_, fun j oj hj hl e he hbd => ?_, fun s hs => ?_, fun j oj d hj hl hd => ?_, hq, hst⟩
  · rw [← g.defers]; cases o.dst <;> rfl
  · rw [← g.size]; cases o.dst <;> simp [Act.put]
  · rcases (hset j).1 hl with rfl | hl'
    · obtain rfl : o = oj := Option.some.inj (ho.symm.trans hj)
      exact (hset _).2 (.inr (hall e he hbd))
    · exact (hset _).2 (.inr (g.closed j oj hj hl' e he hbd))
  · rw [put_other s (hs i o ho ((hset i).2 (.inl rfl)))]
    exact g.old s fun j oj hj hl => hs j oj hj ((hset j).2 (.inr hl))
  · rcases (hset j).1 hl with rfl | hl'
    · obtain rfl : o = oj := Option.some.inj (ho.symm.trans hj)
      have hlt := apart_lt hap ho hd
      rw [hd, hv]
      simp [Act.put, g.size, ← hn, hlt]
    · have hji : j ≠ i := by
        rintro rfl
        have : listed.getD j false = false := by
          simpa [Array.getD_eq_getD_getElem?, hls, hil] using hun
        rw [this] at hl'; cases hl'
      rw [put_other d (apart_spec hap hj ho hd hji), hoth j hji]
      exact g.got j oj d hj hl' hd

theorem readyE_at {a0 a : Act} {w : World} {qs : List (Option Value)} {ch : List Nat} {St : (Nat → Bool) → (Nat → Value) → World → Prop} {listed : Array Bool} {vals : Nat → Value} (g : GoodE ops a0 qs ch St listed a w vals) {i : Nat} (hi : i ∈ Region.ready .any ops listed) : AtC ops a0 qs i vals a := by
  obtain ⟨hun, o, ho, hall⟩ := mem_ready.1 hi
  have hil := (Array.getElem?_eq_some_iff.1 ho).1
  have hunf : listed.getD i false = false := by
    by_cases h : i < listed.size
    · simpa [Array.getD_eq_getD_getElem?, h] using hun
    · simp [Array.getD_eq_getD_getElem?, h]
  have htmp : ∀ j d, gotB ops i j d = true → a.tmps[d]? = some (vals j) := fun j d hg => by
    unfold gotB at hg
    simp only [ho, Bool.and_eq_true, List.any_eq_true, beq_iff_eq] at hg
    obtain ⟨⟨e, he, hb, hon⟩, hd⟩ := hg
    have hl := hall e (by simpa using he) hb
    rw [hon] at hl
    obtain ⟨oj, hj, hdj⟩ := Option.bind_eq_some_iff.1 hd
    exact g.got j oj d hj hl hdj
  refine ⟨fun s hs => ?_, fun j d hg => ?_, htmp, g.quiet⟩
  · have := g.old s (fun j oj hj hl hd => by
      have hjl := (Array.getElem?_eq_some_iff.1 hj).1
      unfold oldB at hs
      rw [List.all_eq_true] at hs
      have h1 := hs j (by simpa using hjl)
      simp only [hj, hd, bne_self_eq_false, Bool.false_or, Bool.or_eq_true, beq_iff_eq, List.any_eq_true, Bool.and_eq_true] at h1
      rcases h1 with rfl | ⟨e, he, hb, hon⟩
      · rw [hunf] at hl; cases hl
      · have := g.closed j oj hj hl e (by simpa using he) hb
        rw [hon, hunf] at this; cases this)
    simp [Act.eval, Array.getD_eq_getD_getElem?, this]
  · simp [Act.eval, Array.getD_eq_getD_getElem?, htmp j d hg]

theorem goodE_all {a0 a : Act} {w : World} {qs : List (Option Value)} {ch : List Nat} {St : (Nat → Bool) → (Nat → Value) → World → Prop} {n : Nat} (hap : apartB ops n = true) (hn : n = a0.tmps.size) {listed : Array Bool} {vals : Nat → Value} (g : GoodE ops a0 qs ch St listed a w vals) (hall : ∀ i, i < ops.size → listed.getD i false = true) :
    a = putAll ops.toList vals 0 a0 := by
  have he : a.tmps = (putAll ops.toList vals 0 a0).tmps := by
    apply Array.ext_getElem?
    intro s
    by_cases hs : ∃ (j : Nat) (o : Oper), ops[j]? = some o ∧ o.dst = some s
    · obtain ⟨j, o, hj, hd⟩ := hs
      have hjl := (Array.getElem?_eq_some_iff.1 hj).1
      have hv := g.got j o s hj (hall j hjl) hd
      rw [putAll_at ops.toList _ 0 a0 s j o (by simpa using hj) hd (by rw [← hn]; exact apart_lt hap hj hd) (fun k' o' hk' hne => apart_spec hap hj (by simpa using hk') hd (Ne.symm hne))]
      rw [hv, Nat.zero_add]
    · rw [putAll_other _ _ _ _ _ (fun k (o : Oper) hk hd => hs ⟨k, o, by simpa using hk, hd⟩)]
      exact g.old s fun j (o : Oper) hj _ hd => hs ⟨j, o, hj, hd⟩
  have hd : a.defers = (putAll ops.toList vals 0 a0).defers := by rw [putAll_defers]; exact g.defers
  cases a
  simp only at he hd
  rw [Act.mk.injEq]
  exact ⟨he, hd⟩

theorem set_any_E {a0 : Act} {qs : List (Option Value)} {ch : List Nat} {St : (Nat → Bool) → (Nat → Value) → World → Prop} {n : Nat} (hap : apartB ops n = true) (hn : n = a0.tmps.size) (hbk : backB ops = true) (hch : ∀ j, j ∈ ch → qs.getD j none = none)
    (hind : ∀ D D' vals vals' w, (∀ j, j ∈ ch → D j = D' j ∧ vals j = vals' j) → St D vals w → St D' vals' w)
    (steps : StepsE P ops a0 qs St 0 ops.toList)
    (fin : ∀ D vals w, (∀ j x, qs.getD j none = some x → vals j = x) → (∀ j, j < ops.size → D j = true) → St D vals w → Q .normal (putAll ops.toList vals 0 a0) w) :
    ∀ (fuel : Nat) (listed : Array Bool) (a : Act) (w : World) (vals : Nat → Value), listed.size = ops.size → cnt ops.size (fun i => !listed.getD i true) = fuel → GoodE ops a0 qs ch St listed a w vals → wpAny P .any ops Q fuel listed a w := by
  have done : ∀ (listed : Array Bool) (a : Act) (w : World) (vals : Nat → Value), listed.size = ops.size → (∀ i, i < ops.size → listed.getD i true = true) → GoodE ops a0 qs ch St listed a w vals → Q .normal a w := by
    intro listed a w vals hls hall g
    have hall' : ∀ i, i < ops.size → listed.getD i false = true := fun i hi => by
      have := hall i hi
      simpa [Array.getD_eq_getD_getElem?, hls, hi] using this
    rw [goodE_all hap hn g hall']
    exact fin _ vals w g.quiet hall' g.st
  intro fuel
  induction fuel with
  | zero =>
    intro listed a w vals hls hc g
    have hall : ∀ i, i < ops.size → listed.getD i true = true := fun i hi => by
      have := cnt_zero _ _ hc i hi
      simpa using this
    refine ⟨?_, done listed a w vals hls hall g⟩
    apply List.eq_nil_iff_forall_not_mem.2
    intro i hi
    obtain ⟨hun, o, ho, _⟩ := mem_ready.1 hi
    have := hall i (Array.getElem?_eq_some_iff.1 ho).1
    rw [this] at hun; cases hun
  | succ fuel ih =>
    intro listed a w vals hls hc g
    refine ⟨fun h => done listed a w vals hls (fun i hi => ?_) g, fun i hi => ?_⟩
    · induction i using Nat.strongRecOn with
      | ind i ihi =>
        cases hl : listed.getD i true with
        | true => rfl
        | false =>
          exfalso
          have ho : ops[i]? = some ops[i] := Array.getElem?_eq_getElem hi
          have : i ∈ Region.ready .any ops listed := mem_ready.2 ⟨hl, _, ho, fun e he hb => by
            have hlt := back_spec hbk ho he hb
            have := ihi e.on hlt (by omega)
            simpa [Array.getD_eq_getD_getElem?, hls, show e.on < ops.size by omega] using this⟩
          rw [h] at this
          cases this
    · obtain ⟨hun, o, ho, hall⟩ := mem_ready.1 hi
      have hil := (Array.getElem?_eq_some_iff.1 ho).1
      have hat := readyE_at g hi
      have hs := stepsE_at ops.toList 0 i o steps (by simpa using ho)
      rw [Nat.zero_add] at hs
      have hcnt := cnt_less ops.size (fun i => !listed.getD i true) (fun j => !(listed.setIfInBounds i true).getD j true) i hil (by simp [hun]) (by simp [Array.getD_eq_getD_getElem?, hls, hil]) (fun j hj => by rw [getD_set_ne true (Ne.symm hj)])
      have hunf : listed.getD i false = false := by
        simpa [Array.getD_eq_getD_getElem?, hls, hil] using hun
      have hset : ∀ j, (listed.setIfInBounds i true).getD j false = if j = i then true else listed.getD j false := by
        intro j
        by_cases hji : j = i
        · subst hji; simp [Array.getD_eq_getD_getElem?, hls, hil]
        · rw [getD_set_ne false (Ne.symm hji)]; simp [hji]
      have hup : UpE ops i (fun j => listed.getD j false) := by
        refine ⟨hunf, fun j hd => ?_, fun j hjl hd => ?_⟩
        · unfold depB at hd
          rw [Bool.and_eq_true] at hd
          exact reach_listed g.closed hall ho i j (by simpa using hd.1) (by
            have := hd.2
            simp at this
            exact fun e => this e.symm)
        · cases hl : listed.getD j false with
          | false => rfl
          | true =>
            exfalso
            have hoj : ops[j]? = some ops[j] := Array.getElem?_eq_getElem hjl
            unfold depB at hd
            rw [Bool.and_eq_true] at hd
            have := reach_listed g.closed (fun e he hb => g.closed _ _ hoj hl e he hb) hoj _ i (by simpa using hd.1) (by
              have := hd.2
              simp at this
              exact fun e => this e.symm)
            rw [hunf] at this; cases this
      cases hq : qs.getD i none with
      | some x =>
        refine wpOp_mono (fun a' w' hh => ?_) (wpOp_of_gives ho (hs.1 x hq _ vals a w hup hat g.st))
        obtain ⟨v, rfl, rfl, hst⟩ := hh
        refine ih _ _ _ vals (by simpa using hls) (by omega) (goodE_put hap hn hls g ho hi (g.quiet i _ hq) (fun _ _ => rfl) g.quiet (hind _ _ _ _ _ (fun j hj => ⟨?_, rfl⟩) hst))
        have hji : j ≠ i := fun e => by have := hch j hj; rw [e, hq] at this; cases this
        rw [hset, if_neg hji]
      | none =>
        refine wpOp_mono (fun a' w' hh => ?_) (wpOp_of_gives ho (hs.2 hq _ vals a w hup hat g.st))
        obtain ⟨v, rfl, hst'⟩ := hh
        refine ih _ _ _ (updV vals i v) (by simpa using hls) (by omega) (goodE_put hap hn hls g ho hi (updV_same _ _ _) (fun j hj => updV_other _ _ hj) (fun j x hx => ?_) (hind _ _ _ _ _ (fun j hj => ⟨(hset j).symm, rfl⟩) hst'))
        rw [updV_other _ _ (fun e => by rw [e, hq] at hx; cases hx)]
        exact g.quiet j x hx

def loudB (qs : List (Option Value)) (ch : List Nat) : Bool := ch.all fun j => (qs.getD j none).isNone
/-- A REGION THAT DRAWS ITS ORDER, BY WHAT IS DONE -/
theorem wp_region_set {id : Nat} {l : List Oper} {a0 : Act} {w0 : World} (qs : List (Option Value)) (ch : List Nat) (St : (Nat → Bool) → (Nat → Value) → World → Prop) (n : Nat) (hm : P.follows .mixedOrders = true) (hap : apartB l.toArray n = true) (hbk : backB l.toArray = true) (hcb : loudB qs ch = true) (hn : n = a0.tmps.size)
    (h0 : ∀ vals, St (fun _ => false) vals w0.drew)
    (hind : ∀ D D' vals vals' w, (∀ j, j ∈ ch → D j = D' j ∧ vals j = vals' j) → St D vals w → St D' vals' w)
    (steps : StepsE P l.toArray a0 qs St 0 l)
    (fin : ∀ D vals w, (∀ j x, qs.getD j none = some x → vals j = x) → (∀ j, j < l.toArray.size → D j = true) → St D vals w → Q .normal (putAll l vals 0 a0) w) :
    (Code.region id l.toArray true).wp P Q a0 w0 := by
  refine wp_region_any hm ?_
  refine set_any_E (a0 := a0) (qs := qs) (ch := ch) (St := St) hap hn hbk (fun j hj => by have := List.all_eq_true.1 hcb j hj; simpa using this) hind (by simpa using steps) (by simpa using fin) _ _ _ _ (fun j => (qs.getD j none).getD undef) (by simp) ?_ ?_
  · have : ∀ k, k ≤ l.toArray.size → cnt k (fun i => !(Array.replicate l.toArray.size false).getD i true) = k := by
      intro k
      induction k with
      | zero => intro _; rfl
      | succ k ih =>
        intro hk
        have hk' : k < l.toArray.size := hk
        rw [cnt, ih (by omega), Array.getD_eq_getD_getElem?, Array.getElem?_replicate, if_pos hk']
        rfl
    exact this _ (Nat.le_refl _)
  · have hno : ∀ j, (Array.replicate l.toArray.size false).getD j false = false := fun j => by
      simp [Array.getD_eq_getD_getElem?, Array.getElem?_replicate]
      split <;> simp
    refine ⟨rfl, rfl, fun i o _ hl => ?_, fun _ _ => rfl, fun j o d _ hl => ?_, fun j x hx => by simp only [hx, Option.getD_some], hind _ _ _ _ _ (fun j _ => ⟨(hno j).symm, rfl⟩) (h0 _)⟩
    · rw [hno] at hl; cases hl
    · rw [hno] at hl; cases hl

end
end Go.Proofs.YtimmfnjkknbofaaDoor
