/- Bytes put behind a row of the call's own, and what that leaves of other rows; a region that draws its order and does so. -/
import Derived.Test.YtoamdbjailpgdaaNCl
import Derived.Test.YtoamdbjailpgdaaRegionM
namespace Go.Proofs.Ytoamdbjailpgdaa
set_option maxRecDepth 20000
open Go.RowKit
set_option linter.unusedVariables false

theorem ownsB.only {S : Nat → Prop} {w w' : World} {B : Nat} {v : Value} {xs : List Int} (h : ownsB w B v xs) (ho : Only S w w') (hn : ∀ k, v.ownBlock = some k → ¬ S k) : ownsB w' B v xs := ownsRow_only h ho hn
theorem own_sliceN {w : World} {B n : Nat} {u : Value} {xs : List Value} {e : TypeId} (h : w.ownsRow B e 1 u n xs) : ∃ a c, u = .slice a n c := by
  rcases h.2 with ⟨h1, h2⟩ | ⟨g, cap, cur, h1, _⟩
  · subst h2; exact ⟨_, _, h1⟩
  · exact ⟨_, _, h1⟩

/-- so much of a row is left by bytes that are put behind 'xs' in its block -/
theorem own_roomN {w : World} {B g c : Nat} {xs zs ys : List Int} {cur : Array Value} {v : Value} (hg : w.heap[g]? = some (.cells cur 5 (0, 0))) (hc : cur.size = c) (hx : cur.toList.take xs.length = xs.map (Value.int .u8)) (hroom : xs.length + zs.length ≤ c)
    (hv : ownsB w B v ys) (hy : ys.length ≤ xs.length ∨ ys <+: xs ++ zs ∨ xs ++ zs <+: ys) : ownsB (w.setRow g (cur.toList.take xs.length ++ zs.map (Value.int .u8) ++ cur.toList.drop (xs.length + zs.length)).toArray) B v ys := by
  obtain ⟨h1, h2⟩ := hv
  rcases h2 with h2 | ⟨g2, c2, cur2, rfl, hb, hg2, hn, hm, hs, ht⟩
  · exact ⟨h1, .inl h2⟩
  by_cases he : g2 = g
  · subst he
    rw [hg] at hg2
    simp only [Option.some.injEq, Obj.cells.injEq, and_true] at hg2
    subst hg2
    have hlx : (cur.toList.take xs.length).length = xs.length := by rw [hx]; simp
    refine ⟨h1, .inr ⟨g2, c2, _, rfl, hb, setRow_heap w g2 _ _ 5 _ hg, hn, hm, ?_, ?_⟩⟩
    · simp only [List.size_toArray, List.length_append, hlx, List.length_map, List.length_drop, Array.length_toList]
      omega
    · rw [Nat.mul_one] at ht ⊢
      show (cur.toList.take xs.length ++ zs.map (Value.int .u8) ++ cur.toList.drop (xs.length + zs.length)).take ys.length = _
      rcases hy with hy | hy | hy
      · rw [List.append_assoc, List.take_append_of_le_length (by omega), List.take_take, Nat.min_eq_left hy]
        exact ht
      · have hyl := hy.length_le
        rw [List.length_append] at hyl
        rw [List.take_append_of_le_length (by simp only [List.length_append, hlx, List.length_map]; omega)]
        rw [hx, ← List.map_append, ← List.map_take]
        congr 1
        exact (List.prefix_iff_eq_take.1 hy).symm
      · have hyl := hy.length_le
        rw [List.length_append] at hyl
        have e1 : cur.toList.take (xs.length + zs.length) = (xs ++ zs).map (Value.int .u8) := by
          have : cur.toList.take (xs.length + zs.length) = (cur.toList.take ys.length).take (xs.length + zs.length) := by rw [List.take_take, Nat.min_eq_left hyl]
          rw [this, ht, ← List.map_take]
          congr 1
          rw [← List.length_append]
          exact (List.prefix_iff_eq_take.1 hy).symm
        rw [hx, ← List.map_append, ← e1, List.take_append_drop]
        exact ht
  · exact ⟨h1, .inr ⟨g2, c2, cur2, rfl, hb, (setRow_other w g g2 _ he).trans hg2, hn, hm, hs, ht⟩⟩

theorem append_keepN (w : World) (B : Nat) (a : Option Addr) (n c : Nat) (xs zs : List Int) (hown : ownsB w B (.slice a n c) xs) (ao : Option Addr) (m cap : Nat) (S : Sl w (.slice ao m cap) zs) (hl : xs.length + zs.length ≤ 100000) (hB : B ≤ w.heap.size) :
    ∃ v' w', (Builtin.append_ #[34, 34] 34 #[.slice a n c, .slice ao m cap]).run Try.prog w = .ok v' w' ∧ ownsB w' B v' (xs ++ zs) ∧ w.grownBy w' (Value.slice a n c).ownBlock ∧
      ∀ v ys, (ys.length ≤ xs.length ∨ ys <+: xs ++ zs ∨ xs ++ zs <+: ys) → ownsB w B v ys → ownsB w' B v ys := by
  obtain ⟨i0, hi, hz0, hz1, hz2⟩ := info_parts infoU8
  obtain ⟨v', w', hr, h1, h2, _⟩ := run_append_sl (P := Try.prog) w B 34 34 5 i0 Try.underlying34 hi hz0 hz1 hz2 _ xs.length _ hown ao m cap zs S (by omega) hB
  have h1' : ownsB w' B v' (xs ++ zs) := by
    unfold ownsB
    rw [List.length_append, List.map_append]
    exact h1
  refine ⟨v', w', hr, h1', h2, fun v ys hy hv => ?_⟩
  have hm : m = zs.length := (sl_cap S).1
  subst hm
  have quiet : (∀ k, k < w.heap.size → w'.heap[k]? = w.heap[k]?) → ownsB w' B v ys := fun hq =>
    hv.only (S := fun _ => False) ⟨h2.os, h2.tape, h2.output, h2.size, fun k hk _ => hq k hk⟩ (fun _ _ h => h)
  cases ha : a with
  | none =>
    subst ha
    exact quiet (fun k hk => h2.block k hk (by simp [Value.ownBlock]))
  | some ad =>
    subst ha
    obtain ⟨hx1, hx2⟩ := hown
    rcases hx2 with ⟨hx, _⟩ | ⟨g, cp, cur, hx, hb, hg, hn, hmx, hs, ht⟩
    · simp at hx
    simp only [Value.slice.injEq, Option.some.injEq] at hx
    obtain ⟨rfl, rfl, rfl⟩ := hx
    rw [Nat.mul_one] at hs ht
    cases ho : ao with
    | none =>
      subst ho
      have hz : zs = [] := by
        obtain ⟨_, ao', cap', he, h1, _, h3, _⟩ := S
        simp only [Value.slice.injEq, true_and] at he
        obtain ⟨rfl, rfl⟩ := he
        have := h3 rfl
        exact List.eq_nil_of_length_eq_zero (by omega)
      subst hz
      have hr2 := run_append_owned_none (P := Try.prog) w B 34 34 5 i0 1 Try.underlying34 hi (.slice (some ⟨g, 0, none⟩) xs.length c) xs.length (xs.map (Value.int .u8)) ⟨hx1, .inr ⟨g, c, cur, rfl, hb, hg, hn, hmx, by rw [Nat.mul_one]; exact hs, by rw [Nat.mul_one]; exact ht⟩⟩
      have : cap = 0 := by
        obtain ⟨_, ao', cap', he, h1, _, h3, _⟩ := S
        simp only [Value.slice.injEq, true_and] at he
        obtain ⟨rfl, rfl⟩ := he
        exact h3 rfl
      subst this
      rw [List.length_nil] at hr
      rw [hr] at hr2
      simp only [Result.ok.injEq] at hr2
      obtain ⟨_, rfl⟩ := hr2
      exact hv
    | some ap =>
      subst ho
      have hsrc : ∀ j u, (zs.map (Value.int .u8))[j]? = some u → w.cell? (ap.add j) = some u := by
        intro j u hj
        have hjl : j < zs.length := by have := (List.getElem?_eq_some_iff.1 hj).1; simpa using this
        obtain ⟨ad', had, hs'⟩ := S.src (by omega)
        obtain rfl := Option.some.inj had
        exact hs' j u hj
      by_cases hroom : xs.length + zs.length ≤ c
      · have hr2 := run_append_room (P := Try.prog) w 34 34 5 i0 Try.underlying34 hi g xs.length c cur hg ap zs.length cap (zs.map (Value.int .u8)) (by rw [hz1, List.length_map, Nat.mul_one]) hsrc (oneCell_bytes zs) hroom (by rw [hz1, Nat.mul_one, List.length_map, hs]; exact hroom)
        rw [hr] at hr2
        simp only [Result.ok.injEq] at hr2
        obtain ⟨_, rfl⟩ := hr2
        rw [hz1, Nat.mul_one, List.length_map]
        exact own_roomN hg hs ht hroom hv hy
      · have hcap : Builtin.nextslicecap (xs.length + zs.length) c * i0.bytes ≤ 281474976710656 := by
          rw [hz2, Nat.mul_one]
          have := nextslicecap_le (need := xs.length + zs.length) (old := c) (by omega)
          omega
        have hold : ∀ j u, (xs.map (Value.int .u8))[j]? = some u → w.cell? ((⟨g, 0, none⟩ : Addr).add j) = some u := by
          intro j u hj
          have hjl : j < xs.length := by have := (List.getElem?_eq_some_iff.1 hj).1; simpa using this
          have e : (⟨g, 0, none⟩ : Addr).add j = ⟨g, 0 + j, none⟩ := by unfold Addr.add; split <;> simp_all
          rw [e, cell_of_row w g (0 + j) cur 5 (0, 0) hg, Nat.zero_add]
          rw [← ht, List.getElem?_take, if_pos hjl] at hj
          simpa using hj
        have hr2 := run_append_grow (P := Try.prog) w 34 34 5 i0 (.int .u8 0) Try.underlying34 hi hz0 ⟨g, 0, none⟩ xs.length c (xs.map (Value.int .u8)) (by rw [hz1, List.length_map, Nat.mul_one]) hold ap zs.length cap (zs.map (Value.int .u8)) (by rw [hz1, List.length_map, Nat.mul_one]) hsrc (by omega) (by omega) hcap
        rw [hr] at hr2
        simp only [Result.ok.injEq] at hr2
        obtain ⟨_, rfl⟩ := hr2
        exact quiet (fun k hk => Below.heap_alloc w.drew _ k hk)

/-- but for blocks from B on all stays; so do rows of the call's own that hold the beginning of 'XS', or one byte -/
structure Kn (B t : Nat) (XS : List Int) (w w' : World) : Prop where
  only : Only (fun k => B ≤ k) w w'
  keep : ∀ v ys, (ys.length ≤ t ∨ ys <+: XS) → ownsB w B v ys → ownsB w' B v ys
  kept : ∀ b e cs, e ≠ 5 → Blk w b e cs → Blk w' b e cs
theorem Kn.of_quiet {B t : Nat} {XS : List Int} {w w' : World} (h : Only (fun _ => False) w w') : Kn B t XS w w' := ⟨h.mono (fun _ _ h => h.elim), fun v ys _ hv => hv.only h (fun _ _ h => h), fun b e cs _ hb => hb.only h (fun h => h)⟩
theorem Kn.of_below {B t : Nat} {XS : List Int} {w w' : World} (h : Below w.heap.size w w') : Kn B t XS w w' := Kn.of_quiet (Only.of_below _ h)
theorem Kn.refl (B t : Nat) (XS : List Int) (w : World) : Kn B t XS w w := Kn.of_quiet (Only.refl _ w)
theorem Kn.trans {B t : Nat} {XS : List Int} {a b c : World} (h : Kn B t XS a b) (k : Kn B t XS b c) : Kn B t XS a c := ⟨h.only.trans k.only (fun _ _ h => h), fun v ys hy hv => k.keep v ys hy (h.keep v ys hy hv), fun b e cs he hb => k.kept b e cs he (h.kept b e cs he hb)⟩
/-- bytes put behind a row that holds a beginning of 'XS' -/
theorem append_kn (w : World) (B t : Nat) (XS : List Int) (a : Option Addr) (n c : Nat) (xs zs : List Int) (hown : ownsB w B (.slice a n c) xs) (hx : t ≤ xs.length) (hp : xs ++ zs <+: XS) (ao : Option Addr) (m cap : Nat) (S : Sl w (.slice ao m cap) zs) (hl : XS.length ≤ 100000) (hB : B ≤ w.heap.size) :
    ∃ a' n' c' w', (Builtin.append_ #[34, 34] 34 #[.slice a n c, .slice ao m cap]).run Try.prog w = .ok (.slice a' n' c') w' ∧ ownsB w' B (.slice a' n' c') (xs ++ zs) ∧ Kn B t XS w w' := by
  obtain ⟨v', w', hr, h1, h2, h3⟩ := append_keepN w B a n c xs zs hown ao m cap S (by have := hp.length_le; rw [List.length_append] at this; omega) hB
  obtain ⟨a', c', rfl⟩ := own_sliceN h1
  refine ⟨a', _, c', w', hr, h1, (Only.refl _ w).grown h2 (fun k hk _ => (hown.lt k hk).1), fun v ys hy hv => h3 v ys ?_ hv, fun b e cs he hb => hb.only ((Only.refl (fun k => (Value.slice a n c).ownBlock = some k) w).grown h2 (fun k hk _ => hk)) (fun hk => by
    obtain ⟨_, cs', hB'⟩ := row_blk hown hk
    exact (hb.ne hB' he) rfl)⟩
  rcases hy with hy | hy
  · exact .inl (by omega)
  · exact .inr (List.prefix_or_prefix_of_prefix hy hp)

/-- A REGION THAT DRAWS ITS ORDER AND PUTS BYTES BEHIND BYTES -/
def AllKn (B t : Nat) (XS : List Int) : List (Value → World → Prop) → Prop
  | [] => True
  | p :: l => (∀ v w w', Kn B t XS w w' → p v w → p v w') ∧ AllKn B t XS l
theorem allKn_at {B t : Nat} {XS : List Int} : ∀ (l : List (Value → World → Prop)), AllKn B t XS l → ∀ i v w w', Kn B t XS w w' → FL l i v w → FL l i v w'
  | [], _, _, _, _, _, _, _ => by simp [FL]
  | p :: l, hs, 0, v, w, w', hb, h => hs.1 v w w' hb h
  | p :: l, hs, i + 1, v, w, w', hb, h => allKn_at l hs.2 i v w w' hb h
theorem wp_region_kn {P : Program} {Q : Exit → Act → World → Prop} {id : Nat} {l : List Oper} {a0 : Act} {w0 : World} (B t : Nat) (XS : List Int) (fs : List (Value → World → Prop)) (n L : Nat) (hm : P.follows .mixedOrders = true) (hap : apartB l.toArray n = true) (hbk : backB l.toArray = true) (hL : lastB l.toArray L = true) (hn : n = a0.tmps.size)
    (hst : AllKn B t XS fs) (steps : StepsM P l.toArray a0 w0 (FL fs) (Kn B t XS) (fun _ => Kn B t XS) (fun _ => Kn B t XS) 0 l.dropLast)
    (fin : ∀ oL, l.toArray[L]? = some oL → ∀ vals w, Kn B t XS w0 w → (∀ j d, j < L → (l.toArray[j]?).bind (·.dst) = some d → FL fs j (vals j) w) → opGives P l.toArray oL (putAll l.dropLast vals 0 a0) w (fun v w' => Q .normal ((putAll l.dropLast vals 0 a0).put oL.dst v) w')) :
    (Code.region id l.toArray true).wp P Q a0 w0 :=
  wp_region_lastM (FL fs) (Kn B t XS) (fun _ => Kn B t XS) (fun _ => Kn B t XS) n L hm hap hbk hL hn (fun _ _ _ h => h) (fun _ _ _ _ h k => h.trans k) (fun _ _ _ h k => h.trans k) (fun _ _ _ _ _ h => h) (Kn.of_quiet (Only.refl _ w0).drew) (fun _ => Kn.of_quiet (Only.refl _ w0).drew)
    (fun _ j v w w' _ hb h => allKn_at fs hst j v w w' hb h) steps fin
def isRn (B : Nat) (xs : List Int) : Value → World → Prop := fun v w => ∃ a n c, v = .slice a n c ∧ ownsB w B (.slice a n c) xs
theorem allKn_isV {B t : Nat} {XS : List Int} {x : Value} {l : List (Value → World → Prop)} (h : AllKn B t XS l) : AllKn B t XS (isV x :: l) := ⟨fun _ _ _ _ h => h, h⟩
theorem allKn_isRn {B t : Nat} {XS xs : List Int} {l : List (Value → World → Prop)} (hx : xs.length ≤ t ∨ xs <+: XS) (h : AllKn B t XS l) : AllKn B t XS (isRn B xs :: l) := ⟨fun _ _ _ hk ⟨a, n, c, h1, h2⟩ => ⟨a, n, c, h1, hk.keep _ _ hx h2⟩, h⟩
theorem lit_rowN (w : World) (B : Nat) (xs : List Int) (hB : B ≤ w.heap.size) (hl : xs.length ≤ 1000) : ownsB (w.alloc (.cells (xs.map (Value.int .u8)).toArray 5)) B (.slice (some ⟨w.heap.size, 0, none⟩) xs.length xs.length) xs :=
  heap_own (heap_alloc_new w _) hB (by simp) (by unfold maxLen; omega)

end Go.Proofs.Ytoamdbjailpgdaa
