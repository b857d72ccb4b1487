/- Contract: package node's shelf, keep: bytes put behind bytes; what was kept stays. -/
import Derived.Test.YtoamdbjailpgdaaNNd
namespace Go.Proofs.Ytoamdbjailpgdaa
set_option maxRecDepth 20000
open Go.RowKit
set_option linter.unusedVariables false
set_option linter.unusedSimpArgs false
set_option maxRecDepth 100000

/-- all slices that are held stay -/
def Stays (base : Nat) (w w' : World) (v v' : Value) : Prop := ∀ x ys, Sl w x ys → Held w base v x → Sl w' x ys ∧ Held w' base v' x

theorem Stays.refl (base : Nat) (w : World) (v : Value) : Stays base w w v v := fun x ys h1 h2 => ⟨h1, h2⟩
theorem Stays.trans {base : Nat} {a b c : World} {u v t : Value} (h : Stays base a b u v) (k : Stays base b c v t) : Stays base a c u t := fun x ys h1 h2 => by
  obtain ⟨h3, h4⟩ := h x ys h1 h2
  exact k x ys h3 h4
/-- whatever is written in blocks that hold no bytes -/
theorem Stays.other {base : Nat} {w w' : World} {v : Value} {S : Nat → Prop} (ho : Only S w w') (hS : ∀ k, S k → ∀ cs, ¬ Blk w k 5 cs) : Stays base w w' v v := fun x ys h1 h2 => by
  have hk : ∀ k, x.ownBlock = some k → w'.heap[k]? = w.heap[k]? := fun k hk => by
    obtain ⟨_, ⟨cs, hB⟩, _⟩ := h2 k hk
    exact ho.block k hB.lt (fun hs => hS k hs cs hB)
  refine ⟨h1.keep fun k h _ => hk k h, fun b hb => ?_⟩
  obtain ⟨a1, ⟨cs, a2⟩, a3⟩ := h2 b hb
  exact ⟨a1, ⟨cs, (hk b hb).trans a2⟩, a3⟩
theorem Stays.below {base : Nat} {w w' : World} {v : Value} (hb : Below w.heap.size w w') : Stays base w w' v v := Stays.other (Only.of_below (fun _ => False) hb) (fun _ h => h.elim)
theorem Held.nil (w : World) (base : Nat) (v : Value) : Held w base v nilS := fun b hb => by cases hb

theorem append_tx {P : Program} (w : World) (t tx ty e e' : TypeId) (ht : P.underlying t = some (.slice e)) (hx : P.underlying tx = some (.slice e')) (a0 : Option Addr) (n0 c0 : Nat) (ao : Option Addr) (m c : Nat) :
    (Builtin.append_ #[t, tx] ty #[.slice a0 n0 c0, .slice ao m c]).run P w = (Builtin.append_ #[t, t] ty #[.slice a0 n0 c0, .slice ao m c]).run P w := by
  simp [Builtin.append_, run_underlying ht, run_underlying hx]
theorem slice_own {a : Option Addr} {n c j : Nat} (h : (Value.slice a n c).ownBlock = some j) : ∃ off sp, a = some ⟨j, off, sp⟩ := by
  cases a with
  | none => cases h
  | some x => obtain ⟨b, off, sp⟩ := x; cases h; exact ⟨off, sp, rfl⟩

theorem run_append_keep (w : World) (base : Nat) (v : Value) (XS : List Int) (ho : ownsB w base v XS) (ao : Option Addr) (m c : Nat) (zs : List Int) (S : Sl w (.slice ao m c) zs) (hl : XS.length + zs.length ≤ 1000000) (hbase : base ≤ w.heap.size) :
    ∃ v' w', (Builtin.append_ #[65, 34] 65 #[v, .slice ao m c]).run Try.prog w = .ok v' w' ∧ ownsB w' base v' (XS ++ zs) ∧ w.grownBy w' v.ownBlock ∧ (v'.ownBlock = v.ownBlock ∨ (Below w.heap.size w w' ∧ ∃ j, v'.ownBlock = some j ∧ w.heap.size ≤ j)) := by
  obtain ⟨i0, hi, hz0, hz1, hz2⟩ := info_parts infoU8
  have hn : m = zs.length := by obtain ⟨_, ao', cap', he, _⟩ := S; simp at he; exact he.2.1
  subst hn
  obtain ⟨va, vc, rfl⟩ := own_form' ho
  rw [append_tx w 65 34 65 5 5 Try.underlying65 Try.underlying34]
  unfold ownsB
  cases ao with
  | none =>
    obtain ⟨_, ao', cap', he, h1, _, h3, _⟩ := S
    simp only [Value.slice.injEq, true_and] at he
    obtain ⟨rfl, rfl⟩ := he
    obtain rfl := h3 rfl
    obtain rfl : zs = [] := List.eq_nil_of_length_eq_zero (by omega)
    exact ⟨_, w, run_append_owned_none w base 65 65 5 i0 1 Try.underlying65 hi _ XS.length _ ho, by simpa using ho, ⟨rfl, rfl, rfl, Nat.le_refl _, fun _ _ _ => rfl⟩, .inl rfl⟩
  | some a =>
    have hsrc : ∀ j u, (zs.map (Value.int .u8))[j]? = some u → w.cell? (a.add j) = some u := by
      intro j u hj
      have hjl : j < zs.length := by have := (List.getElem?_eq_some_iff.1 hj).1; simpa using this
      obtain ⟨ad, had, hs⟩ := S.src (by omega)
      obtain rfl := Option.some.inj had
      exact hs j u hj
    obtain ⟨v', w', hr, h1, h2, _, h4⟩ := run_append_own_at (P := Try.prog) w base 65 65 5 i0 (.int .u8 0) 1 1 Try.underlying65 hi hz0 hz1 hz2 rfl (by decide) _ XS.length _ ho a zs.length c (zs.map (Value.int .u8)) (by simp) hsrc (oneCell_bytes zs) (by unfold maxLen; omega) (by omega) hbase
    refine ⟨v', w', hr, by rw [List.length_append, List.map_append]; exact h1, h2, ?_⟩
    rcases h4 with h4 | h4
    · exact .inl h4
    · right
      refine ⟨?_, _, h4, Nat.le_refl _⟩
      rcases ho.2 with ⟨hv, _⟩ | ⟨g, cap, cur, hv, hbg, hg, hnc, hcm, hcs, htake⟩
      · simp only [Value.slice.injEq] at hv
        obtain ⟨rfl, h0, rfl⟩ := hv
        exact ⟨h2.os, h2.tape, h2.output, h2.size, fun k hk => h2.block k hk (by simp [Value.ownBlock])⟩
      · simp only [Value.slice.injEq, true_and] at hv
        obtain ⟨rfl, rfl⟩ := hv
        by_cases hroom : XS.length + zs.length ≤ vc
        · exfalso
          have hr2 := run_append_room (P := Try.prog) w 65 65 5 i0 Try.underlying65 hi g XS.length vc cur hg a zs.length c (zs.map (Value.int .u8)) (by simp [hz1]) hsrc (oneCell_bytes zs) hroom (by rw [hz1, hcs]; simp; omega)
          rw [hr] at hr2
          simp only [Result.ok.injEq] at hr2
          rw [hr2.1] at h4
          have hlt := (Array.getElem?_eq_some_iff.1 hg).1
          have : g = w.heap.size := by simpa [Value.ownBlock] using h4
          omega
        · have hr2 := run_append_grow (P := Try.prog) w 65 65 5 i0 (.int .u8 0) Try.underlying65 hi hz0 ⟨g, 0, none⟩ XS.length vc (XS.map (Value.int .u8)) (by simp [hz1]) (ho.cells (g := g) rfl) a zs.length c (zs.map (Value.int .u8)) (by simp [hz1]) hsrc (by omega) (by omega) (growslice_fits (by omega) (by rw [hz2]; omega))
          rw [hr] at hr2
          simp only [Result.ok.injEq] at hr2
          rw [hr2.2]
          exact (Below.refl w.heap.size w).drew.alloc (Nat.le_refl _) _

theorem wpList_append_run2 {P : Program} (w : World) {ops : Array Oper} {rest : List Oper} {o : Oper} {a : Act} {Q : Exit → Act → World → Prop} (hgd : o.guard = none) (s x : Operand) (t tx : TypeId)
    (ho : o.op = .call { callee := .builtin .append, args := #[s, x], argTypes := #[t, tx] }) (v y : Value) (hs : a.eval s = v) (hx : a.eval x = y) (v' : Value) (w' : World)
    (hr : (Builtin.append_ #[t, tx] o.type #[v, y]).run P w = .ok v' w') (h : wpList P ops Q rest (a.put o.dst v') w') : wpList P ops Q (o :: rest) a w := by
  refine wpList_plain hgd fun _ hK => ?_
  unfold Oper.wp execOp
  simp only [ho, resolve, invoke, builtin, Sem.run_bind, Sem.run_pure, Result.andThen_ok, List.map_toArray, List.map_cons, List.map_nil, hs, hx, hr]
  exact hK _ _ h

theorem shelfU : Try.prog.underlying 65 = some (.slice (Try.prog.elem 65)) := by kernel_rfl
theorem shelfE (wx : World) : (Go.sizeOf (Try.prog.elem 65)).run Try.prog wx = .ok 1 wx := by kernel_rfl
/-- what is cut out of the shelf's end -/
theorem kept_cut (w : World) (base : Nat) (va : Option Addr) (vc N M K : Nat) (XS zs : List Int) (hN : XS.length = N) (hM : zs.length = M) (hK : K = N + M) (ho : w.ownsRow base 5 1 (.slice va K vc) K ((XS ++ zs).map (Value.int .u8))) (hok : ByteOk zs) :
    ∃ ra, (∀ wx, (Instr.slice 65 (.slice va K vc) (some (.int .i64 (N : Int))) (some (.int .i64 (K : Int))) (some (.int .i64 (K : Int)))).run Try.prog wx = .ok (.slice ra M M) wx) ∧ Sl w (.slice ra M M) zs ∧ Held w base (.slice va K vc) (.slice ra M M) := by
  have hcap := own_len ho
  have hrun : ∀ wx, (Instr.slice 65 (.slice va K vc) (some (.int .i64 (N : Int))) (some (.int .i64 (K : Int))) (some (.int .i64 (K : Int)))).run Try.prog wx = .ok (.slice (if K = N then va else va.map (·.add N)) M M) wx := fun wx => by
    rw [run_slice_lhm wx 65 va K vc shelfU .i64 .i64 .i64 N K K (by omega) (by omega) (by omega) (by omega), shelfE]
    simp only [Result.andThen, sliced, Int.toNat_natCast, Nat.mul_one]
    rw [show K - N = M by omega]
  refine ⟨_, hrun, ?_, ?_⟩
  · refine ⟨hok, _, M, by rw [hM], by omega, by have := hcap.2; omega, fun hn => ?_, fun hne => ?_⟩
    · rcases ho.2 with ⟨hv, h0⟩ | ⟨g, cap, cur, hv, _⟩
      · omega
      · simp only [Value.slice.injEq, true_and] at hv
        obtain ⟨rfl, _⟩ := hv
        split at hn <;> simp at hn
    · have hpos : 0 < zs.length := List.length_pos_iff.2 hne
      obtain ⟨g, rfl⟩ : ∃ g, va = some ⟨g, 0, none⟩ := by
        rcases ho.2 with ⟨hv, h0⟩ | ⟨g, cap, cur, hv, _⟩
        · omega
        · simp only [Value.slice.injEq, true_and] at hv
          exact ⟨g, hv.1⟩
      rw [if_neg (by omega)]
      refine ⟨g, N, by rw [Option.map_some, Addr.add_mid, Nat.zero_add], fun i hi => ?_⟩
      rw [ho.cellAt (N + i) (by omega), List.map_append, List.getElem?_append_right (by simp; omega)]
      simp [hN, getD_lt zs hi, hi]
  · intro b hb
    rcases ho.2 with ⟨hv, h0⟩ | ⟨g, cap, cur, hv, hbg, hg, _⟩
    · simp only [Value.slice.injEq] at hv
      obtain ⟨rfl, _, _⟩ := hv
      exfalso
      have : (if K = N then (none : Option Addr) else Option.map (fun x : Addr => x.add N) none) = none := by split <;> rfl
      rw [this] at hb
      cases hb
    · simp only [Value.slice.injEq, true_and] at hv
      obtain ⟨rfl, rfl⟩ := hv
      have hcur : Blk w g 5 cur.toList := by simpa [Blk] using hg
      by_cases hKN : K = N
      · rw [if_pos hKN] at hb ⊢
        obtain rfl : g = b := by simpa [Value.ownBlock] using hb
        exact ⟨hbg, ⟨_, hcur⟩, fun _ => ⟨0, M, M, rfl, by show 0 + M ≤ K; omega⟩⟩
      · rw [if_neg hKN] at hb ⊢
        have e : Option.map (fun x => x.add N) (some (⟨g, 0, none⟩ : Addr)) = some ⟨g, N, none⟩ := by rw [Option.map_some, Addr.add_mid, Nat.zero_add]
        rw [e] at hb ⊢
        obtain rfl : g = b := by simpa [Value.ownBlock] using hb
        exact ⟨hbg, ⟨_, hcur⟩, fun _ => ⟨N, M, M, rfl, by show N + M ≤ K; omega⟩⟩
/-- what was kept stays when more bytes are put behind -/
theorem stays_append {w w' : World} {base : Nat} {v v' : Value} {XS zs : List Int} (ho : ownsB w base v XS) (ho' : ownsB w' base v' (XS ++ zs)) (hg : w.grownBy w' v.ownBlock) (hv : v'.ownBlock = v.ownBlock ∨ (Below w.heap.size w w' ∧ ∃ j, v'.ownBlock = some j ∧ w.heap.size ≤ j)) : Stays base w w' v v' := by
  intro x ys hx hh
  obtain ⟨va, vc, rfl⟩ := own_form' ho
  obtain ⟨va', vc', rfl⟩ := own_form' ho'
  have hblk : ∀ b, x.ownBlock = some b → ∃ cs, Blk w' b 5 cs := fun b hb => by
    obtain ⟨_, ⟨cs, hB⟩, _⟩ := hh b hb
    by_cases he : (Value.slice va XS.length vc).ownBlock = some b
    · rcases hv with hv | ⟨hbel, _⟩
      · rw [he] at hv
        rcases ho'.2 with ⟨h1, _⟩ | ⟨g, cap, cur, h1, _, h3, _⟩
        · simp only [Value.slice.injEq] at h1
          obtain ⟨rfl, _⟩ := h1
          cases hv
        · rw [h1] at hv
          obtain rfl : g = b := by simpa [Value.ownBlock] using hv
          exact ⟨cur.toList, by simpa [Blk] using h3⟩
      · exact ⟨cs, hB.below hbel hB.lt⟩
    · exact ⟨cs, (hg.block b hB.lt (fun e => he e.symm)).trans hB⟩
  refine ⟨?_, fun b hb => ?_⟩
  · obtain ⟨hbk, ao, cap, rfl, a1, a2, a3, a4⟩ := hx
    refine ⟨hbk, ao, cap, rfl, a1, a2, a3, fun hne => ?_⟩
    obtain ⟨b, off, rfl, hc⟩ := a4 hne
    refine ⟨b, off, rfl, fun i hi => ?_⟩
    rw [← hc i hi]
    obtain ⟨_, ⟨cs, hB⟩, hu⟩ := hh b rfl
    by_cases he : (Value.slice va XS.length vc).ownBlock = some b
    · rcases hv with hv | ⟨hbel, _⟩
      · obtain ⟨off', n', c', he', hle⟩ := hu he
        simp only [Value.slice.injEq, Option.some.injEq, Addr.mk.injEq, true_and, and_true] at he'
        obtain ⟨rfl, rfl, rfl⟩ := he'
        have hle' : off + ys.length ≤ XS.length := hle
        rw [he] at hv
        have f1 : ∃ cp, va = some ⟨b, 0, none⟩ ∧ vc = cp := by
          rcases ho.2 with ⟨h1, _⟩ | ⟨g, cap', cur, h1, _⟩
          · simp only [Value.slice.injEq] at h1
            obtain ⟨rfl, _⟩ := h1
            cases he
          · simp only [Value.slice.injEq, true_and] at h1
            obtain ⟨rfl, rfl⟩ := h1
            obtain rfl : g = b := by simpa [Value.ownBlock] using he
            exact ⟨_, rfl, rfl⟩
        have f2 : va' = some ⟨b, 0, none⟩ := by
          rcases ho'.2 with ⟨h1, _⟩ | ⟨g, cap', cur, h1, _⟩
          · simp only [Value.slice.injEq] at h1
            obtain ⟨rfl, _⟩ := h1
            cases hv
          · simp only [Value.slice.injEq, true_and] at h1
            obtain ⟨rfl, rfl⟩ := h1
            obtain rfl : g = b := by simpa [Value.ownBlock] using hv
            rfl
        obtain ⟨_, rfl, _⟩ := f1
        subst f2
        rw [World.ownsRow.cellAt ho (off + i) (by omega), World.ownsRow.cellAt ho' (off + i) (by rw [List.length_append]; omega), List.map_append, List.getElem?_append_left (by rw [List.length_map]; omega)]
      · exact World.cell?_of_block (hbel.block b hB.lt)
    · exact World.cell?_of_block (hg.block b hB.lt (fun e => he e.symm))
  · obtain ⟨h1, ⟨cs, hB⟩, hu⟩ := hh b hb
    refine ⟨h1, hblk b hb, fun he => ?_⟩
    rcases hv with hv | ⟨_, j, hj, hle⟩
    · rw [hv] at he
      obtain ⟨off, n, c, e, hl⟩ := hu he
      refine ⟨off, n, c, e, Nat.le_trans hl ?_⟩
      show XS.length ≤ (XS ++ zs).length
      rw [List.length_append]; omega
    · rw [hj] at he
      obtain rfl := Option.some.inj he
      have := hB.lt
      omega

set_option maxHeartbeats 1000000 in
theorem keep_any (w : World) (base sb : Nat) (v u : Value) (XS zs : List Int) (hb : Blk w sb 65 [v]) (ho : ownsB w base v XS) (hu : Sl w u zs) (hl : XS.length + zs.length ≤ 1000000) (hbase : base ≤ w.heap.size) :
    Calls Try.prog 48 #[.pointer (some ⟨sb, 0, none⟩), u] w fun e w' => ∃ v' r, e = .returned r ∧ Blk w' sb 65 [v'] ∧ ownsB w' base v' (XS ++ zs) ∧ Sl w' r zs ∧ Held w' base v' r ∧ Stays base w w' v v' ∧ Only (fun j => j = sb ∨ v.ownBlock = some j) w w' ∧ ∀ j, v'.ownBlock = some j → v.ownBlock = some j ∨ w.heap.size ≤ j := by
  obtain ⟨ua, uc, rfl⟩ := sl_form' hu
  obtain ⟨v', w1, hr, ho1, hg1, hv1⟩ := run_append_keep w base v XS ho ua zs.length uc zs hu (by omega) hbase
  have hst := stays_append ho ho1 hg1 hv1
  have hown : ∀ j, v'.ownBlock = some j → v.ownBlock = some j ∨ w.heap.size ≤ j := fun j hj => by
    rcases hv1 with h | ⟨_, k, h, hk⟩
    · exact .inl (h ▸ hj)
    · rw [h] at hj
      obtain rfl := Option.some.inj hj
      exact .inr hk
  obtain ⟨N, hN⟩ : ∃ N, XS.length = N := ⟨_, rfl⟩
  obtain ⟨M, hM⟩ : ∃ M, zs.length = M := ⟨_, rfl⟩
  obtain ⟨K, hK⟩ : ∃ K, K = N + M := ⟨_, rfl⟩
  have hlen : (XS ++ zs).length = K := by rw [List.length_append]; omega
  obtain ⟨va, vc, rfl⟩ := own_form' ho
  obtain ⟨va', vc', rfl⟩ := own_form' ho1
  have hnsb : ∀ cs, ¬ Blk w1 sb 5 cs := fun cs h => by
    by_cases he : (Value.slice va XS.length vc).ownBlock = some sb
    · rcases ho.2 with ⟨h1, _⟩ | ⟨g, cap, cur, h1, _, h3, _⟩
      · simp only [Value.slice.injEq] at h1
        obtain ⟨rfl, _⟩ := h1
        cases he
      · rw [h1] at he
        obtain rfl : g = sb := by simpa [Value.ownBlock] using he
        have := hb.symm.trans h3
        simp at this
    · have := ((hg1.block sb hb.lt (fun e => he e.symm)).trans hb).symm.trans h
      simp at this
  have hnown : (Value.slice va XS.length vc).ownBlock ≠ some sb := fun he => by
    rcases ho.2 with ⟨h1, _⟩ | ⟨g, cap, cur, h1, _, h3, _⟩
    · simp only [Value.slice.injEq] at h1
      obtain ⟨rfl, _⟩ := h1
      cases he
    · rw [h1] at he
      obtain rfl : g = sb := by simpa [Value.ownBlock] using he
      have := hb.symm.trans h3
      simp at this
  have hB1 : Blk w1 sb 65 [.slice va XS.length vc] := (hg1.block sb hb.lt (fun e => hnown e.symm)).trans hb
  have hoS : Only (· = sb) w1 (w1.setCell ⟨sb, 0, none⟩ (.slice va' (XS ++ zs).length vc')) := (Only.refl (· = sb) w1).setCell ⟨sb, 0, none⟩ _ (fun _ => rfl)
  have hst2 : Stays base w1 (w1.setCell ⟨sb, 0, none⟩ (.slice va' (XS ++ zs).length vc')) (.slice va' (XS ++ zs).length vc') (.slice va' (XS ++ zs).length vc') := Stays.other hoS (fun k hk cs => by rw [hk]; exact hnsb cs)
  have ho2 : ownsB (w1.setCell ⟨sb, 0, none⟩ (.slice va' (XS ++ zs).length vc')) base (.slice va' (XS ++ zs).length vc') (XS ++ zs) := ownsRow_only ho1 hoS (fun k hk e => by
    subst e
    rcases ho1.2 with ⟨h1, _⟩ | ⟨g, cap, cur, h1, _, h3, _⟩
    · simp only [Value.slice.injEq] at h1
      obtain ⟨rfl, _⟩ := h1
      cases hk
    · rw [h1] at hk
      obtain rfl : g = k := by simpa [Value.ownBlock] using hk
      exact hnsb cur.toList (by simpa [Blk] using h3))
  have hB2 : Blk (w1.setCell ⟨sb, 0, none⟩ (.slice va' (XS ++ zs).length vc')) sb 65 [.slice va' (XS ++ zs).length vc'] := hB1.set 0 _
  have hon : Only (fun j => j = sb ∨ (Value.slice va XS.length vc).ownBlock = some j) w (w1.setCell ⟨sb, 0, none⟩ (.slice va' (XS ++ zs).length vc')) := ((Only.refl _ w).grown hg1 (fun k hk _ => .inr hk)).trans hoS (fun i _ e => .inl e)
  unfold ownsB at ho2
  rw [hlen] at ho2 hst2 hB2 hon hr hst hown
  obtain ⟨ra, hcut, hsr, hhr⟩ := kept_cut _ base va' vc' N M K XS zs hN hM hK ho2 hu.bytes
  have c0 : w.cell? ⟨sb, 0, none⟩ = some (.slice va XS.length vc) := hb.cell 0
  have c1 : w1.cell? ⟨sb, 0, none⟩ = some (.slice va XS.length vc) := hB1.cell 0
  have f1 : w1.frozen? ⟨sb, 0, none⟩ = false := hB1.frozen 0
  have HR := hide hr
  have HO := hide ho2
  have HST := hide (hst.trans hst2)
  have HB2 := hide hB2
  have HON := hide hon
  have HSR := hide hsr
  have HHR := hide hhr
  have HLN := hide hlen
  have HOW := hide hown
  obtain ⟨W, hW⟩ : ∃ W, w1.setCell ⟨sb, 0, none⟩ (.slice va' K vc') = W := ⟨_, rfl⟩
  have c2 : W.cell? ⟨sb, 0, none⟩ = some (.slice va' K vc') := by rw [← hW]; exact hB2.cell 0
  rw [hW] at HO HST HB2 HON HSR HHR
  rw [hN] at c0 c1 HR HON HST HOW ⊢
  rw [hM] at HR ⊢
  clear hb ho hu hr ho1 hg1 hv1 hst hst2 ho2 hB2 hon hsr hhr hB1 hoS hnsb hnown hown hlen hl hK hN hM
  go_enter Try.func48, Try.ntmps48
  go_wp2_with (at_builtin; (with_reducible refine wpList_append_run2 _ rfl (.tmp 14) (.tmp 15) 65 34 rfl _ _ ?_ ?_ _ _ HR.out ?_); exact rfl; exact rfl)
  go_ret
  exact ⟨_, _, rfl, HB2.out, by show World.ownsRow _ _ _ _ _ (XS ++ zs).length _; rw [HLN.out]; exact HO.out, HSR.out, HHR.out, HST.out, HON.out, HOW.out⟩

end Go.Proofs.Ytoamdbjailpgdaa
