/- Bytes put behind a row of the call's own, and what that leaves of other rows; a region that draws its order and does so. -/
import Derived.Test.YtoamdbjailpgdaaNCl
import Derived.Test.YtoamdbjailpgdaaRegionM
import Derived.Test.YtoamdbjailpgdaaNClone
namespace Go.Proofs.Ytoamdbjailpgdaa
set_option maxRecDepth 20000
open Go.RowKit
set_option linter.unusedVariables false

theorem ownsB.only {S : Nat → Prop} {w w' : World} {B : Nat} {v : Value} {xs : List Int} (h : ownsB w B v xs) (ho : Only S w w') (hn : ∀ k, v.ownBlock = some k → ¬ S k) : ownsB w' B v xs := ownsRow_only h ho hn
theorem own_sliceN {w : World} {B n : Nat} {u : Value} {xs : List Value} {e : TypeId} (h : w.ownsRow B e 1 u n xs) : ∃ a c, u = .slice a n c := by
  rcases h.2 with ⟨h1, h2⟩ | ⟨g, cap, cur, h1, _⟩
  · subst h2; exact ⟨_, _, h1⟩
  · exact ⟨_, _, h1⟩

/-- so much of a row is left by bytes that are put behind 'xs' in its block -/
theorem own_roomN {w : World} {B g c : Nat} {xs zs ys : List Int} {cur : Array Value} {v : Value} (hg : w.heap[g]? = some (.cells cur 5 (0, 0))) (hc : cur.size = c) (hx : cur.toList.take xs.length = xs.map (Value.int .u8)) (hroom : xs.length + zs.length ≤ c)
    (hv : ownsB w B v ys) (hy : ys.length ≤ xs.length ∨ ys <+: xs ++ zs ∨ xs ++ zs <+: ys) : ownsB (w.setRow g (cur.toList.take xs.length ++ zs.map (Value.int .u8) ++ cur.toList.drop (xs.length + zs.length)).toArray) B v ys := by
  obtain ⟨h1, h2⟩ := hv
  rcases h2 with h2 | ⟨g2, c2, cur2, rfl, hb, hg2, hn, hm, hs, ht⟩
  · exact ⟨h1, .inl h2⟩
  by_cases he : g2 = g
  · subst he
    rw [hg] at hg2
    simp only [Option.some.injEq, Obj.cells.injEq, and_true] at hg2
    subst hg2
    have hlx : (cur.toList.take xs.length).length = xs.length := by rw [hx]; simp
    refine ⟨h1, .inr ⟨g2, c2, _, rfl, hb, setRow_heap w g2 _ _ 5 _ hg, hn, hm, ?_, ?_⟩⟩
    · simp only [List.size_toArray, List.length_append, hlx, List.length_map, List.length_drop, Array.length_toList]
      omega
    · rw [Nat.mul_one] at ht ⊢
      show (cur.toList.take xs.length ++ zs.map (Value.int .u8) ++ cur.toList.drop (xs.length + zs.length)).take ys.length = _
      rcases hy with hy | hy | hy
      · rw [List.append_assoc, List.take_append_of_le_length (by omega), List.take_take, Nat.min_eq_left hy]
        exact ht
      · have hyl := hy.length_le
        rw [List.length_append] at hyl
        rw [List.take_append_of_le_length (by simp only [List.length_append, hlx, List.length_map]; omega)]
        rw [hx, ← List.map_append, ← List.map_take]
        congr 1
        exact (List.prefix_iff_eq_take.1 hy).symm
      · have hyl := hy.length_le
        rw [List.length_append] at hyl
        have e1 : cur.toList.take (xs.length + zs.length) = (xs ++ zs).map (Value.int .u8) := by
          have : cur.toList.take (xs.length + zs.length) = (cur.toList.take ys.length).take (xs.length + zs.length) := by rw [List.take_take, Nat.min_eq_left hyl]
          rw [this, ht, ← List.map_take]
          congr 1
          rw [← List.length_append]
          exact (List.prefix_iff_eq_take.1 hy).symm
        rw [hx, ← List.map_append, ← e1, List.take_append_drop]
        exact ht
  · exact ⟨h1, .inr ⟨g2, c2, cur2, rfl, hb, (setRow_other w g g2 _ he).trans hg2, hn, hm, hs, ht⟩⟩

theorem append_keepN (w : World) (B : Nat) (a : Option Addr) (n c : Nat) (xs zs : List Int) (hown : ownsB w B (.slice a n c) xs) (ao : Option Addr) (m cap : Nat) (S : Sl w (.slice ao m cap) zs) (hl : xs.length + zs.length ≤ 100000) (hB : B ≤ w.heap.size) :
    ∃ v' w', (Builtin.append_ #[34, 34] 34 #[.slice a n c, .slice ao m cap]).run Try.prog w = .ok v' w' ∧ ownsB w' B v' (xs ++ zs) ∧ w.grownBy w' (Value.slice a n c).ownBlock ∧
      ∀ v ys, (ys.length ≤ xs.length ∨ ys <+: xs ++ zs ∨ xs ++ zs <+: ys) → ownsB w B v ys → ownsB w' B v ys := by
  obtain ⟨i0, hi, hz0, hz1, hz2⟩ := info_parts infoU8
  obtain ⟨v', w', hr, h1, h2, _⟩ := run_append_sl (P := Try.prog) w B 34 34 5 i0 Try.underlying34 hi hz0 hz1 hz2 _ xs.length _ hown ao m cap zs S (by omega) hB
  have h1' : ownsB w' B v' (xs ++ zs) := by
    unfold ownsB
    rw [List.length_append, List.map_append]
    exact h1
  refine ⟨v', w', hr, h1', h2, fun v ys hy hv => ?_⟩
  have hm : m = zs.length := (sl_cap S).1
  subst hm
  have quiet : (∀ k, k < w.heap.size → w'.heap[k]? = w.heap[k]?) → ownsB w' B v ys := fun hq =>
    hv.only (S := fun _ => False) ⟨h2.os, h2.tape, h2.output, h2.size, fun k hk _ => hq k hk⟩ (fun _ _ h => h)
  cases ha : a with
  | none =>
    subst ha
    exact quiet (fun k hk => h2.block k hk (by simp [Value.ownBlock]))
  | some ad =>
    subst ha
    obtain ⟨hx1, hx2⟩ := hown
    rcases hx2 with ⟨hx, _⟩ | ⟨g, cp, cur, hx, hb, hg, hn, hmx, hs, ht⟩
    · simp at hx
    simp only [Value.slice.injEq, Option.some.injEq] at hx
    obtain ⟨rfl, rfl, rfl⟩ := hx
    rw [Nat.mul_one] at hs ht
    cases ho : ao with
    | none =>
      subst ho
      have hz : zs = [] := by
        obtain ⟨_, ao', cap', he, h1, _, h3, _⟩ := S
        simp only [Value.slice.injEq, true_and] at he
        obtain ⟨rfl, rfl⟩ := he
        have := h3 rfl
        exact List.eq_nil_of_length_eq_zero (by omega)
      subst hz
      have hr2 := run_append_owned_none (P := Try.prog) w B 34 34 5 i0 1 Try.underlying34 hi (.slice (some ⟨g, 0, none⟩) xs.length c) xs.length (xs.map (Value.int .u8)) ⟨hx1, .inr ⟨g, c, cur, rfl, hb, hg, hn, hmx, by rw [Nat.mul_one]; exact hs, by rw [Nat.mul_one]; exact ht⟩⟩
      have : cap = 0 := by
        obtain ⟨_, ao', cap', he, h1, _, h3, _⟩ := S
        simp only [Value.slice.injEq, true_and] at he
        obtain ⟨rfl, rfl⟩ := he
        exact h3 rfl
      subst this
      rw [List.length_nil] at hr
      rw [hr] at hr2
      simp only [Result.ok.injEq] at hr2
      obtain ⟨_, rfl⟩ := hr2
      exact hv
    | some ap =>
      subst ho
      have hsrc : ∀ j u, (zs.map (Value.int .u8))[j]? = some u → w.cell? (ap.add j) = some u := by
        intro j u hj
        have hjl : j < zs.length := by have := (List.getElem?_eq_some_iff.1 hj).1; simpa using this
        obtain ⟨ad', had, hs'⟩ := S.src (by omega)
        obtain rfl := Option.some.inj had
        exact hs' j u hj
      by_cases hroom : xs.length + zs.length ≤ c
      · have hr2 := run_append_room (P := Try.prog) w 34 34 5 i0 Try.underlying34 hi g xs.length c cur hg ap zs.length cap (zs.map (Value.int .u8)) (by rw [hz1, List.length_map, Nat.mul_one]) hsrc (oneCell_bytes zs) hroom (by rw [hz1, Nat.mul_one, List.length_map, hs]; exact hroom)
        rw [hr] at hr2
        simp only [Result.ok.injEq] at hr2
        obtain ⟨_, rfl⟩ := hr2
        rw [hz1, Nat.mul_one, List.length_map]
        exact own_roomN hg hs ht hroom hv hy
      · have hcap : Builtin.nextslicecap (xs.length + zs.length) c * i0.bytes ≤ 281474976710656 := by
          rw [hz2, Nat.mul_one]
          have := nextslicecap_le (need := xs.length + zs.length) (old := c) (by omega)
          omega
        have hold : ∀ j u, (xs.map (Value.int .u8))[j]? = some u → w.cell? ((⟨g, 0, none⟩ : Addr).add j) = some u := by
          intro j u hj
          have hjl : j < xs.length := by have := (List.getElem?_eq_some_iff.1 hj).1; simpa using this
          have e : (⟨g, 0, none⟩ : Addr).add j = ⟨g, 0 + j, none⟩ := by unfold Addr.add; split <;> simp_all
          rw [e, cell_of_row w g (0 + j) cur 5 (0, 0) hg, Nat.zero_add]
          rw [← ht, List.getElem?_take, if_pos hjl] at hj
          simpa using hj
        have hr2 := run_append_grow (P := Try.prog) w 34 34 5 i0 (.int .u8 0) Try.underlying34 hi hz0 ⟨g, 0, none⟩ xs.length c (xs.map (Value.int .u8)) (by rw [hz1, List.length_map, Nat.mul_one]) hold ap zs.length cap (zs.map (Value.int .u8)) (by rw [hz1, List.length_map, Nat.mul_one]) hsrc (by omega) (by omega) hcap
        rw [hr] at hr2
        simp only [Result.ok.injEq] at hr2
        obtain ⟨_, rfl⟩ := hr2
        exact quiet (fun k hk => Below.heap_alloc w.drew _ k hk)

/-- but for blocks from B on all stays; so do rows of the call's own that hold the beginning of 'XS', or one byte -/
structure Kn (B t : Nat) (XS : List Int) (w w' : World) : Prop where
  only : Only (fun k => B ≤ k) w w'
  keep : ∀ v ys, (ys.length ≤ t ∨ ys <+: XS) → ownsB w B v ys → ownsB w' B v ys
  kept : ∀ b e cs, e ≠ 5 → Blk w b e cs → Blk w' b e cs
theorem Kn.of_quiet {B t : Nat} {XS : List Int} {w w' : World} (h : Only (fun _ => False) w w') : Kn B t XS w w' := ⟨h.mono (fun _ _ h => h.elim), fun v ys _ hv => hv.only h (fun _ _ h => h), fun b e cs _ hb => hb.only h (fun h => h)⟩
theorem Kn.of_below {B t : Nat} {XS : List Int} {w w' : World} (h : Below w.heap.size w w') : Kn B t XS w w' := Kn.of_quiet (Only.of_below _ h)
theorem Kn.refl (B t : Nat) (XS : List Int) (w : World) : Kn B t XS w w := Kn.of_quiet (Only.refl _ w)
theorem Kn.trans {B t : Nat} {XS : List Int} {a b c : World} (h : Kn B t XS a b) (k : Kn B t XS b c) : Kn B t XS a c := ⟨h.only.trans k.only (fun _ _ h => h), fun v ys hy hv => k.keep v ys hy (h.keep v ys hy hv), fun b e cs he hb => k.kept b e cs he (h.kept b e cs he hb)⟩
/-- bytes put behind a row that holds a beginning of 'XS' -/
theorem append_kn (w : World) (B t : Nat) (XS : List Int) (a : Option Addr) (n c : Nat) (xs zs : List Int) (hown : ownsB w B (.slice a n c) xs) (hx : t ≤ xs.length) (hp : xs ++ zs <+: XS) (ao : Option Addr) (m cap : Nat) (S : Sl w (.slice ao m cap) zs) (hl : XS.length ≤ 100000) (hB : B ≤ w.heap.size) :
    ∃ a' n' c' w', (Builtin.append_ #[34, 34] 34 #[.slice a n c, .slice ao m cap]).run Try.prog w = .ok (.slice a' n' c') w' ∧ ownsB w' B (.slice a' n' c') (xs ++ zs) ∧ Kn B t XS w w' := by
  obtain ⟨v', w', hr, h1, h2, h3⟩ := append_keepN w B a n c xs zs hown ao m cap S (by have := hp.length_le; rw [List.length_append] at this; omega) hB
  obtain ⟨a', c', rfl⟩ := own_sliceN h1
  refine ⟨a', _, c', w', hr, h1, (Only.refl _ w).grown h2 (fun k hk _ => (hown.lt k hk).1), fun v ys hy hv => h3 v ys ?_ hv, fun b e cs he hb => hb.only ((Only.refl (fun k => (Value.slice a n c).ownBlock = some k) w).grown h2 (fun k hk _ => hk)) (fun hk => by
    obtain ⟨_, cs', hB'⟩ := row_blk hown hk
    exact (hb.ne hB' he) rfl)⟩
  rcases hy with hy | hy
  · exact .inl (by omega)
  · exact .inr (List.prefix_or_prefix_of_prefix hy hp)

/-- A REGION THAT DRAWS ITS ORDER AND PUTS BYTES BEHIND BYTES -/
def AllKn (B t : Nat) (XS : List Int) : List (Value → World → Prop) → Prop
  | [] => True
  | p :: l => (∀ v w w', Kn B t XS w w' → p v w → p v w') ∧ AllKn B t XS l
theorem allKn_at {B t : Nat} {XS : List Int} : ∀ (l : List (Value → World → Prop)), AllKn B t XS l → ∀ i v w w', Kn B t XS w w' → FL l i v w → FL l i v w'
  | [], _, _, _, _, _, _, _ => by simp [FL]
  | p :: l, hs, 0, v, w, w', hb, h => hs.1 v w w' hb h
  | p :: l, hs, i + 1, v, w, w', hb, h => allKn_at l hs.2 i v w w' hb h
theorem wp_region_kn {P : Program} {Q : Exit → Act → World → Prop} {id : Nat} {l : List Oper} {a0 : Act} {w0 : World} (B t : Nat) (XS : List Int) (fs : List (Value → World → Prop)) (n L : Nat) (hm : P.follows .mixedOrders = true) (hap : apartB l.toArray n = true) (hbk : backB l.toArray = true) (hL : lastB l.toArray L = true) (hn : n = a0.tmps.size)
    (hst : AllKn B t XS fs) (steps : StepsM P l.toArray a0 w0 (FL fs) (Kn B t XS) (fun _ => Kn B t XS) (fun _ => Kn B t XS) 0 l.dropLast)
    (fin : ∀ oL, l.toArray[L]? = some oL → ∀ vals w, Kn B t XS w0 w → (∀ j d, j < L → (l.toArray[j]?).bind (·.dst) = some d → FL fs j (vals j) w) → opGives P l.toArray oL (putAll l.dropLast vals 0 a0) w (fun v w' => Q .normal ((putAll l.dropLast vals 0 a0).put oL.dst v) w')) :
    (Code.region id l.toArray true).wp P Q a0 w0 :=
  wp_region_lastM (FL fs) (Kn B t XS) (fun _ => Kn B t XS) (fun _ => Kn B t XS) n L hm hap hbk hL hn (fun _ _ _ h => h) (fun _ _ _ _ h k => h.trans k) (fun _ _ _ h k => h.trans k) (fun _ _ _ _ _ h => h) (Kn.of_quiet (Only.refl _ w0).drew) (fun _ => Kn.of_quiet (Only.refl _ w0).drew)
    (fun _ j v w w' _ hb h => allKn_at fs hst j v w w' hb h) steps fin
def isRn (B : Nat) (xs : List Int) : Value → World → Prop := fun v w => ∃ a n c, v = .slice a n c ∧ ownsB w B (.slice a n c) xs
theorem allKn_isV {B t : Nat} {XS : List Int} {x : Value} {l : List (Value → World → Prop)} (h : AllKn B t XS l) : AllKn B t XS (isV x :: l) := ⟨fun _ _ _ _ h => h, h⟩
theorem allKn_isRn {B t : Nat} {XS xs : List Int} {l : List (Value → World → Prop)} (hx : xs.length ≤ t ∨ xs <+: XS) (h : AllKn B t XS l) : AllKn B t XS (isRn B xs :: l) := ⟨fun _ _ _ hk ⟨a, n, c, h1, h2⟩ => ⟨a, n, c, h1, hk.keep _ _ hx h2⟩, h⟩
theorem lit_rowN (w : World) (B : Nat) (xs : List Int) (hB : B ≤ w.heap.size) (hl : xs.length ≤ 1000) : ownsB (w.alloc (.cells (xs.map (Value.int .u8)).toArray 5)) B (.slice (some ⟨w.heap.size, 0, none⟩) xs.length xs.length) xs :=
  heap_own (heap_alloc_new w _) hB (by simp) (by unfold maxLen; omega)

end Go.Proofs.Ytoamdbjailpgdaa
/- The document's copy of a node: what it holds while it is made (incipitref10.own, and rows that grow). -/
namespace Go.Proofs.Ytoamdbjailpgdaa
set_option maxRecDepth 20000
open Go.RowKit Go.Shelf
set_option linter.unusedVariables false
set_option linter.unusedSimpArgs false
set_option maxRecDepth 100000
attribute [local go_sem] Oper.semAt_some

theorem own_any (w : World) (u : Value) (zs : List Int) (h : Sl w u zs) (hl : zs.length ≤ 1000) :
    Calls Try.prog 45 #[u] w fun e w' => ∃ r, e = .returned r ∧ ownsB w' w.heap.size r zs ∧ Below w.heap.size w w' := by
  obtain ⟨a, n, c, rfl⟩ := sl_form h
  obtain ⟨v', w', hr, h1, h2, _⟩ := append_keepN w w.heap.size none 0 0 [] zs (World.ownsRow_nil _ _ _ _) a n c h (by simp; omega) (Nat.le_refl _)
  rw [List.nil_append] at h1
  have HR := hide hr
  have H1 := hide h1
  have H2 : Hid (Below w.heap.size w w') := (Below.refl _ w).grown h2 (Nat.le_refl _) (fun k hk => by cases hk)
  clear hr h1 h2 h
  go_enter Try.func45, Try.ntmps45
  go_wp2_with (at_builtin; refine wpList_append_run _ rfl _ _ 34 rfl _ _ rfl rfl _ _ HR.out ?_)
  go_ret
  exact ⟨_, rfl, H1.out, H2.out⟩

/-- how far the copy is: what was, the boxes, the rows, the texts that were put into memory of their own -/
structure Rc (w : World) (bx : List Value) (cb : Nat) (lf : Bool) (pb kb cv : Value) (cs : List Int) (p k : Value) (xs : List (Value × Value)) (ys : List Value) (ex : List (Value × List Int)) (W : World) : Prop where
  ex : ∀ q ∈ ex, ownsB W w.heap.size q.1 q.2
  cbox : Blk W cb 26 [.bool lf, pb, kb, cv]
  prow : W.ownsRow w.heap.size 36 2 p xs.length (flatP xs)
  krow : W.ownsRow w.heap.size 34 1 k ys.length ys
  ints : Ints W w.heap.size cv cs
  b0 : Blk W w.heap.size 26 bx
  b1 : Blk W (w.heap.size + 1) 26 [.bool false, .slice none 0 0, .slice none 0 0, .slice none 0 0]
  cbt : w.heap.size + 2 ≤ cb
  below : Below w.heap.size w W
section
variable {w : World} {bx : List Value} {cb : Nat} {lf : Bool} {pb kb cv : Value} {cs : List Int} {p k : Value} {xs : List (Value × Value)} {ys : List Value} {ex : List (Value × List Int)} {W W' : World}

theorem Rc.size (h : Rc w bx cb lf pb kb cv cs p k xs ys ex W) : w.heap.size < W.heap.size := h.b0.lt
theorem Rc.keep (h : Rc w bx cb lf pb kb cv cs p k xs ys ex W) (hb : Below W.heap.size W W') : Rc w bx cb lf pb kb cv cs p k xs ys ex W' := by
  have ho := Only.of_below (fun _ => False) hb
  exact ⟨fun q hq => (h.ex q hq).only ho (fun _ _ h => h), h.cbox.only ho (fun h => h), ownsRow_only h.prow ho (fun _ _ h => h), ownsRow_only h.krow ho (fun _ _ h => h), h.ints.below hb, h.b0.only ho (fun h => h), h.b1.only ho (fun h => h), h.cbt, h.below.trans (hb.mono h.below.size)⟩
theorem Rc.own (h : Rc w bx cb lf pb kb cv cs p k xs ys ex W) (u : Value) (zs : List Int) (hu : Sl w u zs) (hl : zs.length ≤ 1000) :
    Calls Try.prog 45 #[u] W fun e w' => ∃ r, e = .returned r ∧ Rc w bx cb lf pb kb cv cs p k xs ys (ex ++ [(r, zs)]) w' := by
  refine (own_any W u zs (hu.below h.below) hl).mono ?_
  rintro e w' ⟨r, rfl, ho, hb⟩
  have hk := h.keep hb
  refine ⟨r, rfl, { hk with ex := fun q hq => ?_ }⟩
  rcases List.mem_append.1 hq with hq | hq
  · exact hk.ex q hq
  · obtain rfl : q = (r, zs) := by simpa using hq
    exact own_le' ho (Nat.le_of_lt h.size)

theorem Rc.pushP (h : Rc w bx cb lf pb kb cv cs p k xs ys ex W) (g : Nat) (a1 a2 : Option Addr) (n1 n2 c1 c2 : Nat) (hg : Blk W g 36 [.slice a1 n1 c1, .slice a2 n2 c2]) (hl : xs.length ≤ 1000) :
    ∃ p' w', (Builtin.append_ #[22, 22] 22 #[p, .slice (some ⟨g, 0, none⟩) 1 1]).run Try.prog W = .ok p' w' ∧ Rc w bx cb lf pb kb cv cs p' k (xs ++ [(.slice a1 n1 c1, .slice a2 n2 c2)]) ys ex w' ∧ ∃ a c, p' = .slice a (xs.length + 1) c := by
  obtain ⟨i0, hi, hz0, hz1, hz2⟩ := info_parts infoPair
  obtain ⟨p', w', hr, h1, h2, _, h4⟩ := run_append_own_at (P := Try.prog) W w.heap.size 22 22 36 i0 _ 2 48 Try.underlying22 hi hz0 hz1 hz2 rfl (by decide) p xs.length (flatP xs) h.prow ⟨g, 0, none⟩ 1 1 [.slice a1 n1 c1, .slice a2 n2 c2] rfl
    (fun j u hj => by
      have hj2 : j < 2 := (List.getElem?_eq_some_iff.1 hj).1
      rw [Addr.add_mid, Nat.zero_add, hg.cell]
      exact hj) (by intro u hu; simp at hu; rcases hu with rfl | rfl <;> rfl) (by unfold maxLen; omega) (by omega) (Nat.le_of_lt h.size)
  have ho : Only (fun j => p.ownBlock = some j) W w' := (Only.refl _ W).grown h2 (fun j hj _ => hj)
  refine ⟨p', w', hr, ⟨fun q hq => (h.ex q hq).only ho (fun j hj e => rows_ne (h.ex q hq) h.prow (by decide) hj e), h.cbox.only ho (row_not_blk h.prow h.cbox (by decide)), ?_, ownsRow_only h.krow ho (fun j hj e => rows_ne h.krow h.prow (by decide) hj e), h.ints.only ho (fun j hj e => rows_ne h.ints h.prow (by decide) hj e), h.b0.only ho (row_not_blk h.prow h.b0 (by decide)), h.b1.only ho (row_not_blk h.prow h.b1 (by decide)), h.cbt, h.below.trans (ho.below (Nat.le_of_lt h.size) (fun j hj e => by have := (row_blk h.prow e).1; omega))⟩, own_form' h1⟩
  rw [flatP_snoc, List.length_append]
  exact h1
theorem Rc.pushK (h : Rc w bx cb lf pb kb cv cs p k xs ys ex W) (g : Nat) (a1 : Option Addr) (n1 c1 : Nat) (hg : Blk W g 34 [.slice a1 n1 c1]) (hl : ys.length ≤ 1000) :
    ∃ k' w', (Builtin.append_ #[23, 23] 23 #[k, .slice (some ⟨g, 0, none⟩) 1 1]).run Try.prog W = .ok k' w' ∧ Rc w bx cb lf pb kb cv cs p k' xs (ys ++ [.slice a1 n1 c1]) ex w' ∧ ∃ a c, k' = .slice a (ys.length + 1) c := by
  obtain ⟨i0, hi, hz0, hz1, hz2⟩ := info_parts infoRow
  obtain ⟨k', w', hr, h1, h2, _, h4⟩ := run_append_own_at (P := Try.prog) W w.heap.size 23 23 34 i0 _ 1 24 Try.underlying23 hi hz0 hz1 hz2 rfl (by decide) k ys.length ys h.krow ⟨g, 0, none⟩ 1 1 [.slice a1 n1 c1] rfl
    (fun j u hj => by
      have hj2 : j < 1 := (List.getElem?_eq_some_iff.1 hj).1
      rw [Addr.add_mid, Nat.zero_add, hg.cell]
      exact hj) (by intro u hu; simp at hu; subst hu; rfl) (by unfold maxLen; omega) (by omega) (Nat.le_of_lt h.size)
  have ho : Only (fun j => k.ownBlock = some j) W w' := (Only.refl _ W).grown h2 (fun j hj _ => hj)
  refine ⟨k', w', hr, ⟨fun q hq => (h.ex q hq).only ho (fun j hj e => rows_ne (h.ex q hq) h.krow (by decide) hj e), h.cbox.only ho (row_not_blk h.krow h.cbox (by decide)), ownsRow_only h.prow ho (fun j hj e => rows_ne h.prow h.krow (by decide) hj e), ?_, h.ints.only ho (fun j hj e => rows_ne h.ints h.krow (by decide) hj e), h.b0.only ho (row_not_blk h.krow h.b0 (by decide)), h.b1.only ho (row_not_blk h.krow h.b1 (by decide)), h.cbt, h.below.trans (ho.below (Nat.le_of_lt h.size) (fun j hj e => by have := (row_blk h.krow e).1; omega))⟩, own_form' h1⟩
  rw [List.length_append]
  exact h1
theorem Rc.put (h : Rc w bx cb lf pb kb cv cs p k xs ys ex W) (i : Nat) (u pb' kb' : Value) (hc : [.bool lf, pb, kb, cv].set i u = [.bool lf, pb', kb', cv]) : Rc w bx cb lf pb' kb' cv cs p k xs ys ex (W.setCell ⟨cb, i, none⟩ u) := by
  have ho : Only (· = cb) W (W.setCell ⟨cb, i, none⟩ u) := (Only.refl (· = cb) W).setCell ⟨cb, i, none⟩ _ (fun _ => rfl)
  have hcb := h.cbt
  refine ⟨fun q hq => (h.ex q hq).only ho (fun j hj e => row_not_blk (h.ex q hq) h.cbox (by decide) (e ▸ hj)), ?_, ownsRow_only h.prow ho (fun j hj e => row_not_blk h.prow h.cbox (by decide) (e ▸ hj)), ownsRow_only h.krow ho (fun j hj e => row_not_blk h.krow h.cbox (by decide) (e ▸ hj)), h.ints.only ho (fun j hj e => row_not_blk h.ints h.cbox (by decide) (e ▸ hj)), h.b0.only ho (by omega), h.b1.only ho (by omega), h.cbt, h.below.trans (ho.below (Nat.le_of_lt h.size) (fun j hj e => by omega))⟩
  have := h.cbox.set i u
  rwa [hc] at this
end

/-- numbers put behind nothing -/
theorem append_ints (w : World) (B : Nat) (a : Option Addr) (n c : Nat) (cs : List Int) (h : Is w (.slice a n c) cs) (hl : cs.length ≤ 1000) (hB : B ≤ w.heap.size) :
    ∃ v' w', (Builtin.append_ #[24, 24] 24 #[.slice none 0 0, .slice a n c]).run Try.prog w = .ok v' w' ∧ Ints w' B v' cs ∧ Below w.heap.size w w' := by
  obtain ⟨i0, hi, hz0, hz1, hz2⟩ := info_parts infoInt
  obtain ⟨ao, cap, he, hc, hm, hcell⟩ := h
  simp only [Value.slice.injEq] at he
  obtain ⟨rfl, rfl, rfl⟩ := he
  cases a with
  | none =>
    have h0 : cs = [] := by
      by_cases h0 : cs = []
      · exact h0
      · obtain ⟨_, _, he, _⟩ := hcell h0
        cases he
    subst h0
    exact ⟨.slice none 0 0, w, by simp [Builtin.append_, run_underlying Try.underlying24, sizeOf, typeInfo, hi, Builtin.lenOf, Builtin.firstCells], Ints.nil _ _, Below.refl _ _⟩
  | some ad =>
    obtain ⟨v', w', hr, h1, h2, _, _⟩ := run_append_own_at (P := Try.prog) w B 24 24 3 i0 _ 1 8 Try.underlying24 hi hz0 hz1 hz2 rfl (by decide) (.slice none 0 0) 0 [] (World.ownsRow_nil _ _ _ _) ad cs.length c (iv cs) (by simp [iv])
      (fun j u hj => by
        have hj2 : j < cs.length := by have := (List.getElem?_eq_some_iff.1 hj).1; simpa [iv] using this
        obtain ⟨b, off, he, hx⟩ := hcell (by intro e; rw [e] at hj2; simp at hj2)
        simp only [Option.some.injEq] at he
        subst he
        rw [Addr.add_mid, hx j hj2, ← hj]
        simp [iv, List.getD, hj2]) (by intro u hu; simp [iv] at hu; obtain ⟨z, _, rfl⟩ := hu; rfl) (by unfold maxLen; omega) (by omega) hB
    refine ⟨v', w', hr, ?_, (Below.refl _ w).grown h2 (Nat.le_refl _) (fun k hk => by cases hk)⟩
    unfold Ints
    rw [Nat.zero_add, List.nil_append] at h1
    exact h1

end Go.Proofs.Ytoamdbjailpgdaa
/- Contract: the document's copy of a node (incipitref10.Clone). -/
namespace Go.Proofs.Ytoamdbjailpgdaa
set_option maxRecDepth 20000
open Go.RowKit Go.Shelf
set_option linter.unusedVariables false
set_option linter.unusedSimpArgs false
set_option maxRecDepth 100000
attribute [local go_sem] Oper.semAt_some

/-! ### a pair more -/
def RcS (w : World) (bx : List Value) (cb : Nat) (lf : Bool) (cv : Value) (cs : List Int) (p0 : Value) (xs : List (Value × Value)) (ex : List (Value × List Int)) (q1 q2 : List Int) : Nat → (Nat → Value) → World → Prop := fun i vals W => match i with
  | 0 => Rc w bx cb lf p0 nilS cv cs p0 nilS xs [] ex W
  | 1 => Rc w bx cb lf p0 nilS cv cs p0 nilS xs [] (ex ++ [(vals 8, q1)]) W
  | 2 => Rc w bx cb lf p0 nilS cv cs p0 nilS xs [] (ex ++ [(vals 8, q1)] ++ [(vals 15, q2)]) W
  | 3 => Rc w bx cb lf p0 nilS cv cs p0 nilS xs [] (ex ++ [(vals 8, q1)] ++ [(vals 15, q2)]) W ∧ vals 16 = .agg #[vals 8, vals 15]
  | 4 => Rc w bx cb lf p0 nilS cv cs p0 nilS xs [] (ex ++ [(vals 8, q1)] ++ [(vals 15, q2)]) W ∧ ∃ g, vals 17 = .slice (some ⟨g, 0, none⟩) 1 1 ∧ Blk W g 36 [vals 8, vals 15]
  | 5 => Rc w bx cb lf p0 nilS cv cs (vals 18) nilS (xs ++ [(vals 8, vals 15)]) [] (ex ++ [(vals 8, q1)] ++ [(vals 15, q2)]) W ∧ ∃ a n c, vals 18 = .slice a n c
  | _ => Rc w bx cb lf (vals 18) nilS cv cs (vals 18) nilS (xs ++ [(vals 8, vals 15)]) [] (ex ++ [(vals 8, q1)] ++ [(vals 15, q2)]) W
theorem RcS.any {w : World} {bx : List Value} {cb : Nat} {lf : Bool} {cv : Value} {cs : List Int} {p0 : Value} {xs : List (Value × Value)} {ex : List (Value × List Int)} {q1 q2 : List Int} {i : Nat} {vals : Nat → Value} {W : World} (h : RcS w bx cb lf cv cs p0 xs ex q1 q2 i vals W) (hi : i < 6) : ∃ p xs' ex', Rc w bx cb lf p0 nilS cv cs p nilS xs' [] ex' W := by
  match i, hi, h with
  | 0, _, h => exact ⟨_, _, _, h⟩
  | 1, _, h => exact ⟨_, _, _, h⟩
  | 2, _, h => exact ⟨_, _, _, h⟩
  | 3, _, ⟨h, _⟩ => exact ⟨_, _, _, h⟩
  | 4, _, ⟨h, _⟩ => exact ⟨_, _, _, h⟩
  | 5, _, ⟨h, _⟩ => exact ⟨_, _, _, h⟩
/-! ### a key more -/
def RkS (w : World) (bx : List Value) (cb : Nat) (lf : Bool) (cv : Value) (cs : List Int) (p k0 : Value) (xs : List (Value × Value)) (ys : List Value) (ex : List (Value × List Int)) (q : List Int) : Nat → (Nat → Value) → World → Prop := fun i vals W => match i with
  | 0 => Rc w bx cb lf p k0 cv cs p k0 xs ys ex W
  | 1 => Rc w bx cb lf p k0 cv cs p k0 xs ys (ex ++ [(vals 7, q)]) W
  | 2 => Rc w bx cb lf p k0 cv cs p k0 xs ys (ex ++ [(vals 7, q)]) W ∧ ∃ g, vals 8 = .slice (some ⟨g, 0, none⟩) 1 1 ∧ Blk W g 34 [vals 7]
  | 3 => Rc w bx cb lf p k0 cv cs p (vals 9) xs (ys ++ [vals 7]) (ex ++ [(vals 7, q)]) W ∧ ∃ a n c, vals 9 = .slice a n c
  | _ => Rc w bx cb lf p (vals 9) cv cs p (vals 9) xs (ys ++ [vals 7]) (ex ++ [(vals 7, q)]) W
theorem RkS.any {w : World} {bx : List Value} {cb : Nat} {lf : Bool} {cv : Value} {cs : List Int} {p k0 : Value} {xs : List (Value × Value)} {ys : List Value} {ex : List (Value × List Int)} {q : List Int} {i : Nat} {vals : Nat → Value} {W : World} (h : RkS w bx cb lf cv cs p k0 xs ys ex q i vals W) (hi : i < 4) : ∃ k ys' ex', Rc w bx cb lf p k0 cv cs p k xs ys' ex' W := by
  match i, hi, h with
  | 0, _, h => exact ⟨_, _, _, h⟩
  | 1, _, h => exact ⟨_, _, _, h⟩
  | 2, _, ⟨h, _⟩ => exact ⟨_, _, _, h⟩
  | 3, _, ⟨h, _⟩ => exact ⟨_, _, _, h⟩

set_option maxHeartbeats 8000000 in
theorem refClone_any (w : World) (v : Value) (n : Nd) (h : NdV w v n) (hf : few1 n = true) :
    Calls Try.prog 10 #[v] w fun e w' => ∃ u, e = .returned u ∧ NdN w' w.heap.size u n ∧ Below w.heap.size w w' := by
  simp only [few1, Bool.and_eq_true, decide_eq_true_iff, List.all_eq_true] at hf
  obtain ⟨⟨⟨⟨m1, m2⟩, m3⟩, m4⟩, m5⟩ := hf
  obtain ⟨pa, pc, ka, kc, ca, cc, xs, ys, rfl, hp1, hk1, hc1, hp2, hk2, hc2, hP, hK, hC⟩ := h.open
  obtain ⟨lf, ps, ks, cs⟩ := n
  simp only at hp1 hk1 hc1 hp2 hk2 hc2 hP hK hC m1 m2 m3 m4 m5 ⊢
  have HBP : Hid (∀ i, i < ps.length → ByteOk (ps.getD i ([], [])).1 ∧ ByteOk (ps.getD i ([], [])).2) := fun i hi => by obtain ⟨_, _, _, _, h1, h2⟩ := hP.at i hi; exact ⟨h1.bytes, h2.bytes⟩
  have HBK : Hid (∀ i, i < ks.length → ByteOk (ks.getD i [])) := fun i hi => by obtain ⟨_, _, _, _, h1⟩ := hK.at i hi; exact h1.bytes
  have HP := hide hP
  have HK := hide hK
  have HC := hide hC
  have HM4 := hide m4
  have HM5 := hide m5
  clear hP hK hC h m4 m5
  unfold ndv
  obtain ⟨np, hnp⟩ : ∃ m, ps.length = m := ⟨_, rfl⟩
  obtain ⟨nk, hnk⟩ : ∃ m, ks.length = m := ⟨_, rfl⟩
  obtain ⟨nc, hnc⟩ : ∃ m, cs.length = m := ⟨_, rfl⟩
  have HNP := hide hnp
  have HNK := hide hnk
  have HNC := hide hnc
  rw [hnp] at hp1 HP m1 ⊢
  rw [hnk] at hk1 HK m2 ⊢
  rw [hnc] at hc1 HC m3 ⊢
  clear hnp hnk hnc
  obtain ⟨bx, hbx⟩ : ∃ bx : List Value, bx = [.bool lf, .slice pa np pc, .slice ka nk kc, .slice ca nc cc] := ⟨_, rfl⟩
  obtain ⟨w1, hw1⟩ : ∃ w1, (w.alloc (.cells #[.bool lf, .slice pa np pc, .slice ka nk kc, .slice ca nc cc] 26)).alloc (.cells #[.bool false, .slice none 0 0, .slice none 0 0, .slice none 0 0] 26) = w1 := ⟨_, rfl⟩
  have hs1 : w1.heap.size = w.heap.size + 2 := by rw [← hw1]; simp
  have hA : Blk w1 w.heap.size 26 bx := by rw [← hw1, hbx]; exact (Blk.new w _ _).alloc _
  have hB : Blk w1 (w.heap.size + 1) 26 [.bool false, .slice none 0 0, .slice none 0 0, .slice none 0 0] := by
    rw [← hw1]
    have := Blk.new (w.alloc (.cells #[.bool lf, .slice pa np pc, .slice ka nk kc, .slice ca nc cc] 26)) 26 [.bool false, .slice none 0 0, .slice none 0 0, .slice none 0 0]
    rw [World.size_alloc] at this
    exact this
  have hb1 : Below w.heap.size w w1 := by rw [← hw1]; exact ((Below.refl _ w).alloc (Nat.le_refl _) _).alloc (by simp) _
  have HA := hide hA
  have HB := hide hB
  have HB1 := hide hb1
  have HBX := hide hbx
  have HS1 := hide hs1
  clear hA hB hb1 hbx hs1
  go_enter Try.func10, Try.ntmps10
  go_wp2
  clear hw1
  refine wp_region_only (fun _ => False) [isV (.pointer (some ⟨w.heap.size, 0, none⟩)), isV (.bool lf), isV (.pointer (some ⟨w.heap.size, 3, none⟩)), isV (.slice ca nc cc), isIn w.heap.size cs, isAg w.heap.size lf cs, isGN w1.heap.size] 99 58 7 (by kernel_rfl) (by kernel_rfl) (by kernel_rfl) (by kernel_rfl) rfl ?_ ?_ ?_
  · repeat (first | exact trivial | refine allStL_isV ?_ | refine ⟨stS_isIn _ _, fun _ => stS_isIn _ _, ?_⟩ | refine ⟨stS_isAg _ _ _, fun _ => stS_isAg _ _ _, ?_⟩ | refine ⟨stS_isGN _, fun _ => stS_isGN _, ?_⟩)
  · refine ⟨?_, ?_, ?_, ?_, ?_, ?_, ?_, trivial⟩
    · intro act wx h
      have e1 : act.eval (.tmp 1) = .pointer (some ⟨w.heap.size, 0, none⟩) := h.old 1 (by kernel_rfl)
      have hrel := h.rel
      clear h
      refine gives_by rfl act.eval rfl ?_
      generalize act.eval = ρ at *
      intro hf hc
      go_simp
      exact ⟨relM_quiet (by decide) (Only.refl _ _), rfl⟩
    · intro act wx h
      obtain ⟨v6, e6, f6⟩ := h.val 0 6 (by kernel_rfl)
      obtain rfl : v6 = .pointer (some ⟨w.heap.size, 0, none⟩) := f6
      have hrel := h.rel
      clear h
      have hx := HA.out.only hrel (fun h => h)
      have cx0 : wx.cell? ⟨w.heap.size, 0, none⟩ = some (.bool lf) := by rw [hx.cell 0, HBX.out]; rfl
      have cx3 : wx.cell? ⟨w.heap.size, 3, none⟩ = some (.slice ca nc cc) := by rw [hx.cell 3, HBX.out]; rfl
      refine gives_by rfl act.eval rfl ?_
      generalize act.eval = ρ at *
      intro hf hc
      go_simp
      exact ⟨relM_quiet (by decide) (Only.refl _ _), rfl⟩
    · intro act wx h
      have e1 : act.eval (.tmp 1) = .pointer (some ⟨w.heap.size, 0, none⟩) := h.old 1 (by kernel_rfl)
      have hrel := h.rel
      clear h
      refine gives_by rfl act.eval rfl ?_
      generalize act.eval = ρ at *
      intro hf hc
      go_simp
      exact ⟨relM_quiet (by decide) (Only.refl _ _), rfl⟩
    · intro act wx h
      obtain ⟨v8, e8, f8⟩ := h.val 2 8 (by kernel_rfl)
      obtain rfl : v8 = .pointer (some ⟨w.heap.size, 3, none⟩) := f8
      have hrel := h.rel
      clear h
      have hx := HA.out.only hrel (fun h => h)
      have cx0 : wx.cell? ⟨w.heap.size, 0, none⟩ = some (.bool lf) := by rw [hx.cell 0, HBX.out]; rfl
      have cx3 : wx.cell? ⟨w.heap.size, 3, none⟩ = some (.slice ca nc cc) := by rw [hx.cell 3, HBX.out]; rfl
      refine gives_by rfl act.eval rfl ?_
      generalize act.eval = ρ at *
      intro hf hc
      go_simp
      exact ⟨relM_quiet (by decide) (Only.refl _ _), rfl⟩
    · intro act wx h
      obtain ⟨v9, e9, f9⟩ := h.val 3 9 (by kernel_rfl)
      obtain rfl : v9 = .slice ca nc cc := f9
      have hrel := h.rel
      clear h
      obtain ⟨v', wy, r9, o9, b9⟩ := append_ints wx w.heap.size ca nc cc cs ((HC.out.below HB1.out).below (hrel.below (Nat.le_refl _) (fun _ _ h => h))) (by have := HNC.out; omega) (by have := HB1.out.size; have := hrel.size; omega)
      obtain ⟨a', c', rfl⟩ := o9.shape
      exact gives_of_run rfl (exec_append (.const (.slice none 0 0)) (.tmp 9) 24 rfl (.slice none 0 0) _ rfl e9 _ r9) ⟨relM_quiet (by decide) (Only.of_below _ b9), a', _, c', rfl, o9⟩
    · intro act wx h
      obtain ⟨v7, e7, f7⟩ := h.val 1 7 (by kernel_rfl)
      obtain rfl : v7 = .bool lf := f7
      obtain ⟨v10, e10, f10⟩ := h.val 4 10 (by kernel_rfl)
      obtain ⟨a10, n10, c10, rfl, O10⟩ := f10
      have hrel := h.rel
      clear h
      refine gives_by rfl act.eval rfl ?_
      generalize act.eval = ρ at *
      intro hf hc
      go_simp
      exact ⟨relM_quiet (by decide) (Only.refl _ _), a10, n10, c10, rfl, O10⟩
    · intro act wx h
      have hrel := h.rel
      clear h
      refine gives_by rfl act.eval rfl ?_
      generalize act.eval = ρ at *
      intro hf hc
      go_simp
      exact ⟨relM_quiet (by decide) ((Only.refl _ wx).alloc _), _, rfl, hrel.size, Blk.new wx _ [.bool false, .slice none 0 0, .slice none 0 0, .slice none 0 0]⟩
  · intro oL hoL vals w3 ho3 hv
    simp only [List.getElem?_toArray, List.getElem?_cons_succ, List.getElem?_cons_zero, Option.some.injEq] at hoL
    subst hoL
    have hG1 : isAg w.heap.size lf cs (vals 5) w3 := hv 5 11 (by decide) (by kernel_rfl)
    have hG2 : isGN w1.heap.size (vals 6) w3 := hv 6 3 (by decide) (by kernel_rfl)
    clear hv
    generalize hact : putAll _ vals 0 _ = act
    obtain ⟨va, vn, vcp, hv5, hcv⟩ := hG1
    obtain ⟨cb, hv6, hcb, hbk⟩ := hG2
    have hth := hbk.there 0 4 (by simp)
    have hb4 := store_node (x0 := .bool lf) (x1 := .slice none 0 0) (x2 := .slice none 0 0) (x3 := .slice va vn vcp) hbk
    have on4 := Only.setCells cb [.bool lf, .slice none 0 0, .slice none 0 0, .slice va vn vcp] 0 w3 (S := fun k => k = cb) (Only.refl _ w3) (fun _ => rfl)
    have hcv4 : Ints (w3.setCells cb 0 [.bool lf, .slice none 0 0, .slice none 0 0, .slice va vn vcp]) w.heap.size (.slice va vn vcp) cs := hcv.only on4 (fun j hj e => row_not_blk hcv hbk (by decide) (e ▸ hj))
    have hs1 := HS1.out
    have hA4 := (HA.out.only ho3 (fun h => h)).only on4 (by omega)
    have hB4 := (HB.out.only ho3 (fun h => h)).only on4 (by omega)
    have hbl4 : Below w.heap.size w _ := (HB1.out.trans (ho3.below (by omega) (fun _ _ h => h))).trans (on4.below (by have := ho3.size; omega) (fun j hj e => by omega))
    obtain ⟨W3, hW3⟩ : ∃ W, W = w3.setCells cb 0 [.bool lf, .slice none 0 0, .slice none 0 0, .slice va vn vcp] := ⟨_, rfl⟩
    rw [← hW3] at hb4 on4 hcv4 hA4 hB4 hbl4
    have HRC : Hid (Rc w bx cb lf nilS nilS (.slice va vn vcp) cs nilS nilS [] [] [] W3) := ⟨fun q hq => (by simp at hq), hb4, World.ownsRow_nil _ _ _ _, World.ownsRow_nil _ _ _ _, hcv4, hA4, hB4, by omega, hbl4⟩
    have z1 : W3.cell? ⟨w.heap.size, 1, none⟩ = some (.slice pa np pc) := by rw [hA4.cell 1, HBX.out]; rfl
    subst hact
    simp only [List.dropLast, putAll, Act.put, List.setIfInBounds_toArray, List.set_cons_zero, List.set_cons_succ, hv5, hv6, Nat.zero_add, Nat.reduceAdd]
    refine gives_of_skip (w' := W3) rfl (by rw [hW3]; exact exec_store_mid 26 (.tmp 3) (.tmp 11) rfl cb 0 #[.bool lf, .slice none 0 0, .slice none 0 0, .slice va vn vcp] rfl rfl hth sizeNode (by simp [Value.oneCell'])) ?_
    clear hv5 hv6 hth hW3 hb4 on4 hcv4 hA4 hB4 hbl4 hcv hbk ho3 HA HB HB1 hs1 HS1
    go_wp2
    go_loopg [4] np (fun g i wr => ∃ (m : Nat) (p : Value) (zs : List (Value × Value)) (ex : List (Value × List Int)), g + m = np ∧ i = .int .i64 m ∧ Rc w bx cb lf p nilS (.slice va vn vcp) cs p nilS zs [] ex wr ∧ zs.length = m ∧ ∀ i, i < m → ((zs.getD i nil2).1, (ps.getD i ([], [])).1) ∈ ex ∧ ((zs.getD i nil2).2, (ps.getD i ([], [])).2) ∈ ex)
    case atStart => exact ⟨0, nilS, [], [], by omega, rfl, HRC.out, rfl, fun i hi => by omega⟩
    case round =>
      obtain ⟨m, p0, zs, ex, hgm, rfl, hrc, hzl, hex⟩ := hrel
      obtain ⟨W, rfl⟩ : ∃ x, x = wr := ⟨_, rfl⟩
      have x1 : W.cell? ⟨w.heap.size, 1, none⟩ = some (.slice pa np pc) := by rw [hrc.b0.cell 1, HBX.out]; rfl
      have x2 : W.cell? ⟨w.heap.size, 2, none⟩ = some (.slice ka nk kc) := by rw [hrc.b0.cell 2, HBX.out]; rfl
      have HRM := hide hrc
      have HEX := hide hex
      have HZL := hide hzl
      clear HRC z1 hex
      by_cases hm : m < np
      · have hmi : (m : Int) < (np : Int) := by omega
        have hml : m < ps.length := by rw [HNP.out]; exact hm
        obtain ⟨ba0, oa0, he0, r0, g1, g2⟩ := HP.out.at m hml
        clear he0 r0
        have hle := HM4.out (ps.getD m ([], [])) (by simp only [List.getD, List.getElem?_eq_getElem hml]; exact List.getElem_mem hml)
        have HSC : Hid (∀ wx, Below w.heap.size w wx → ∃ b off, pa = some ⟨b, off, none⟩ ∧ wx.cell? ⟨b, off + m * 2, none⟩ = some (xs.getD m nil2).1 ∧ wx.cell? ⟨b, off + m * 2 + 1, none⟩ = some (xs.getD m nil2).2) := fun wx hb => by
          obtain ⟨b, off, he, r1, _, _⟩ := (HP.out.below hb).at m hml
          exact ⟨b, off, he, r1 0 _ rfl, r1 1 _ rfl⟩
        generalize hxm : xs.getD m nil2 = x at *
        obtain ⟨p, hpm⟩ : ∃ p, ps.getD m ([], []) = p := ⟨_, rfl⟩
        rw [hpm] at g1 g2 hle
        have HPM := hide hpm
        obtain ⟨u1, u2⟩ := x
        obtain ⟨q1, q2⟩ := p
        simp only [fewP, Bool.and_eq_true, decide_eq_true_iff] at g1 g2 hle HSC
        obtain ⟨hq1, hq2⟩ := hle
        have HS1 := hide g1
        have HS2 := hide g2
        obtain ⟨a1, n1, d1, rfl⟩ := sl_form g1
        obtain ⟨a2, n2, d2, rfl⟩ := sl_form g2
        obtain ⟨ba, oa, rfl, _, _⟩ := HSC.out W hrc.below
        have HCX : Hid (∀ wx, Below w.heap.size w wx → wx.cell? ⟨ba, oa + m * 2, none⟩ = some (.slice a1 n1 d1) ∧ wx.cell? ⟨ba, oa + m * 2 + 1, none⟩ = some (.slice a2 n2 d2)) := fun wx hb => by
          obtain ⟨b, off, he, h1, h2⟩ := HSC.out wx hb
          obtain ⟨rfl, rfl⟩ : ba = b ∧ oa = off := by simpa using he
          exact ⟨h1, h2⟩
        obtain ⟨pa0, pc0, hpf⟩ := own_form' hrc.prow
        rw [hzl] at hpf
        subst hpf
        have hz1 : zs.length ≤ 1000 := by omega
        clear g1 g2 hxm hpm hrc HSC hzl
        go_wp2
        refine wp_region_chain [some (.pointer (some ⟨cb, 1, none⟩)), some (.slice pa0 m pc0), some (.pointer (some ⟨w.heap.size, 1, none⟩)), some (.slice (some ⟨ba, oa, none⟩) np pc), some (.int .i64 (m : Int)), some (.pointer (some ⟨ba, oa + m * 2, none⟩)), some (.pointer (some ⟨ba, oa + m * 2, none⟩)), some (.slice a1 n1 d1), none, some (.pointer (some ⟨w.heap.size, 1, none⟩)), some (.slice (some ⟨ba, oa, none⟩) np pc), some (.int .i64 (m : Int)), some (.pointer (some ⟨ba, oa + m * 2, none⟩)), some (.pointer (some ⟨ba, oa + m * 2 + 1, none⟩)), some (.slice a2 n2 d2), none, none, none, none, some (.pointer (some ⟨cb, 1, none⟩)), none] [8, 15, 16, 17, 18, 20] (RcS w bx cb lf (.slice va vn vcp) cs (.slice pa0 m pc0) zs ex q1 q2) 58 (by kernel_rfl) (by kernel_rfl) (by kernel_rfl) (by kernel_rfl) rfl ?_ ?_ ?_
        · intro vals0
          exact (HRM.out.keep ((Below.refl _ W).drew) : Rc w bx cb lf (.slice pa0 m pc0) nilS (.slice va vn vcp) cs (.slice pa0 m pc0) nilS zs [] ex W.drew)
        · refine ⟨?_, ?_, ?_, ?_, ?_, ?_, ?_, ?_, ?_, ?_, ?_, ?_, ?_, ?_, ?_, ?_, ?_, ?_, ?_, ?_, ?_, trivial⟩
          · intro k vals act wx hk h hs
            have e3 : act.eval (.tmp 3) = .pointer (some ⟨cb, 0, none⟩) := h.old 3 (by kernel_rfl)
            clear h
            refine gives_by rfl act.eval rfl ?_
            generalize act.eval = ρ at *
            intro hf hc
            go_simp
            exact ⟨rfl, hs⟩
          · intro k vals act wx hk h hs
            have e19 : act.eval (.tmp 19) = .pointer (some ⟨cb, 1, none⟩) := h.q 0 19 (by kernel_rfl) rfl
            clear h
            obtain ⟨_, _, _, hrc⟩ := hs.any hk
            have cx := hrc.cbox.cell 1
            have cy : wx.cell? ⟨w.heap.size, 1, none⟩ = some (.slice (some ⟨ba, oa, none⟩) np pc) := by rw [hrc.b0.cell 1, HBX.out]; rfl
            obtain ⟨cz1, cz2⟩ := HCX.out wx hrc.below
            refine gives_by rfl act.eval rfl ?_
            generalize act.eval = ρ at *
            intro hf hc
            go_simp
            exact ⟨rfl, hs⟩
          · intro k vals act wx hk h hs
            have e1 : act.eval (.tmp 1) = .pointer (some ⟨w.heap.size, 0, none⟩) := h.old 1 (by kernel_rfl)
            clear h
            refine gives_by rfl act.eval rfl ?_
            generalize act.eval = ρ at *
            intro hf hc
            go_simp
            exact ⟨rfl, hs⟩
          · intro k vals act wx hk h hs
            have e21 : act.eval (.tmp 21) = .pointer (some ⟨w.heap.size, 1, none⟩) := h.q 2 21 (by kernel_rfl) rfl
            clear h
            obtain ⟨_, _, _, hrc⟩ := hs.any hk
            have cx := hrc.cbox.cell 1
            have cy : wx.cell? ⟨w.heap.size, 1, none⟩ = some (.slice (some ⟨ba, oa, none⟩) np pc) := by rw [hrc.b0.cell 1, HBX.out]; rfl
            obtain ⟨cz1, cz2⟩ := HCX.out wx hrc.below
            refine gives_by rfl act.eval rfl ?_
            generalize act.eval = ρ at *
            intro hf hc
            go_simp
            exact ⟨rfl, hs⟩
          · intro k vals act wx hk h hs
            have e4 : act.eval (.tmp 4) = .int .i64 (m : Int) := h.old 4 (by kernel_rfl)
            clear h
            refine gives_by rfl act.eval rfl ?_
            generalize act.eval = ρ at *
            intro hf hc
            go_simp
            exact ⟨rfl, hs⟩
          · intro k vals act wx hk h hs
            have e22 : act.eval (.tmp 22) = .slice (some ⟨ba, oa, none⟩) np pc := h.q 3 22 (by kernel_rfl) rfl
            have e23 : act.eval (.tmp 23) = .int .i64 (m : Int) := h.q 4 23 (by kernel_rfl) rfl
            clear h
            refine gives_by rfl act.eval rfl ?_
            generalize act.eval = ρ at *
            intro hf hc
            go_simp
            exact ⟨rfl, hs⟩
          · intro k vals act wx hk h hs
            have e24 : act.eval (.tmp 24) = .pointer (some ⟨ba, oa + m * 2, none⟩) := h.q 5 24 (by kernel_rfl) rfl
            clear h
            refine gives_by rfl act.eval rfl ?_
            generalize act.eval = ρ at *
            intro hf hc
            go_simp
            exact ⟨rfl, hs⟩
          · intro k vals act wx hk h hs
            have e25 : act.eval (.tmp 25) = .pointer (some ⟨ba, oa + m * 2, none⟩) := h.q 6 25 (by kernel_rfl) rfl
            clear h
            obtain ⟨_, _, _, hrc⟩ := hs.any hk
            have cx := hrc.cbox.cell 1
            have cy : wx.cell? ⟨w.heap.size, 1, none⟩ = some (.slice (some ⟨ba, oa, none⟩) np pc) := by rw [hrc.b0.cell 1, HBX.out]; rfl
            obtain ⟨cz1, cz2⟩ := HCX.out wx hrc.below
            refine gives_by rfl act.eval rfl ?_
            generalize act.eval = ρ at *
            intro hf hc
            go_simp
            exact ⟨rfl, hs⟩
          · intro vals act wx h hs
            have e26 : act.eval (.tmp 26) = .slice a1 n1 d1 := h.q 7 26 (by kernel_rfl) rfl
            clear h
            have hrc : Rc w bx cb lf (.slice pa0 m pc0) nilS (.slice va vn vcp) cs (.slice pa0 m pc0) nilS (zs) [] (ex) wx := hs
            refine gives_by rfl act.eval rfl ?_
            generalize act.eval = ρ at *
            intro hf hc
            go_simp
            refine (hrc.own (.slice a1 n1 d1) q1 HS1.out (by omega)).mono ?_
            rintro e w' ⟨r, he, hc'⟩
            exact ⟨r, he, (hc' : Rc w bx cb lf (.slice pa0 m pc0) nilS (.slice va vn vcp) cs (.slice pa0 m pc0) nilS (zs) [] (ex ++ [(r, q1)]) w')⟩
          · intro k vals act wx hk h hs
            have e1 : act.eval (.tmp 1) = .pointer (some ⟨w.heap.size, 0, none⟩) := h.old 1 (by kernel_rfl)
            clear h
            refine gives_by rfl act.eval rfl ?_
            generalize act.eval = ρ at *
            intro hf hc
            go_simp
            exact ⟨rfl, hs⟩
          · intro k vals act wx hk h hs
            have e28 : act.eval (.tmp 28) = .pointer (some ⟨w.heap.size, 1, none⟩) := h.q 9 28 (by kernel_rfl) rfl
            clear h
            obtain ⟨_, _, _, hrc⟩ := hs.any hk
            have cx := hrc.cbox.cell 1
            have cy : wx.cell? ⟨w.heap.size, 1, none⟩ = some (.slice (some ⟨ba, oa, none⟩) np pc) := by rw [hrc.b0.cell 1, HBX.out]; rfl
            obtain ⟨cz1, cz2⟩ := HCX.out wx hrc.below
            refine gives_by rfl act.eval rfl ?_
            generalize act.eval = ρ at *
            intro hf hc
            go_simp
            exact ⟨rfl, hs⟩
          · intro k vals act wx hk h hs
            have e4 : act.eval (.tmp 4) = .int .i64 (m : Int) := h.old 4 (by kernel_rfl)
            clear h
            refine gives_by rfl act.eval rfl ?_
            generalize act.eval = ρ at *
            intro hf hc
            go_simp
            exact ⟨rfl, hs⟩
          · intro k vals act wx hk h hs
            have e29 : act.eval (.tmp 29) = .slice (some ⟨ba, oa, none⟩) np pc := h.q 10 29 (by kernel_rfl) rfl
            have e30 : act.eval (.tmp 30) = .int .i64 (m : Int) := h.q 11 30 (by kernel_rfl) rfl
            clear h
            refine gives_by rfl act.eval rfl ?_
            generalize act.eval = ρ at *
            intro hf hc
            go_simp
            exact ⟨rfl, hs⟩
          · intro k vals act wx hk h hs
            have e31 : act.eval (.tmp 31) = .pointer (some ⟨ba, oa + m * 2, none⟩) := h.q 12 31 (by kernel_rfl) rfl
            clear h
            refine gives_by rfl act.eval rfl ?_
            generalize act.eval = ρ at *
            intro hf hc
            go_simp
            exact ⟨rfl, hs⟩
          · intro k vals act wx hk h hs
            have e32 : act.eval (.tmp 32) = .pointer (some ⟨ba, oa + m * 2 + 1, none⟩) := h.q 13 32 (by kernel_rfl) rfl
            clear h
            obtain ⟨_, _, _, hrc⟩ := hs.any hk
            have cx := hrc.cbox.cell 1
            have cy : wx.cell? ⟨w.heap.size, 1, none⟩ = some (.slice (some ⟨ba, oa, none⟩) np pc) := by rw [hrc.b0.cell 1, HBX.out]; rfl
            obtain ⟨cz1, cz2⟩ := HCX.out wx hrc.below
            refine gives_by rfl act.eval rfl ?_
            generalize act.eval = ρ at *
            intro hf hc
            go_simp
            exact ⟨rfl, hs⟩
          · intro vals act wx h hs
            have e33 : act.eval (.tmp 33) = .slice a2 n2 d2 := h.q 14 33 (by kernel_rfl) rfl
            clear h
            have hrc : Rc w bx cb lf (.slice pa0 m pc0) nilS (.slice va vn vcp) cs (.slice pa0 m pc0) nilS (zs) [] (ex ++ [(vals 8, q1)]) wx := hs
            refine gives_by rfl act.eval rfl ?_
            generalize act.eval = ρ at *
            intro hf hc
            go_simp
            refine (hrc.own (.slice a2 n2 d2) q2 HS2.out (by omega)).mono ?_
            rintro e w' ⟨r, he, hc'⟩
            exact ⟨r, he, (hc' : Rc w bx cb lf (.slice pa0 m pc0) nilS (.slice va vn vcp) cs (.slice pa0 m pc0) nilS (zs) [] (ex ++ [(vals 8, q1)] ++ [(r, q2)]) w')⟩
          · intro vals act wx h hs
            have e27 : act.eval (.tmp 27) = vals 8 := h.val 8 27 (by kernel_rfl)
            have e34 : act.eval (.tmp 34) = vals 15 := h.val 15 34 (by kernel_rfl)
            clear h
            have hrc : Rc w bx cb lf (.slice pa0 m pc0) nilS (.slice va vn vcp) cs (.slice pa0 m pc0) nilS (zs) [] (ex ++ [(vals 8, q1)] ++ [(vals 15, q2)]) wx := hs
            obtain ⟨b1, d1', hf1⟩ := own_form' (hrc.ex (vals 8, q1) (by simp))
            obtain ⟨b2, d2', hf2⟩ := own_form' (hrc.ex (vals 15, q2) (by simp))
            simp only at hf1 hf2
            rw [hf1] at e27
            rw [hf2] at e34
            refine gives_by rfl act.eval rfl ?_
            generalize act.eval = ρ at *
            intro hf hc
            go_simp
            exact (⟨hrc, by rw [hf1, hf2]⟩ : Rc w bx cb lf (.slice pa0 m pc0) nilS (.slice va vn vcp) cs (.slice pa0 m pc0) nilS (zs) [] (ex ++ [(vals 8, q1)] ++ [(vals 15, q2)]) wx ∧ (.agg #[.slice b1 q1.length d1', .slice b2 q2.length d2'] : Value) = .agg #[vals 8, vals 15])
          · intro vals act wx h hs
            have e35 : act.eval (.tmp 35) = vals 16 := h.val 16 35 (by kernel_rfl)
            clear h
            obtain ⟨hrc, h6⟩ : Rc w bx cb lf (.slice pa0 m pc0) nilS (.slice va vn vcp) cs (.slice pa0 m pc0) nilS (zs) [] (ex ++ [(vals 8, q1)] ++ [(vals 15, q2)]) wx ∧ vals 16 = .agg #[vals 8, vals 15] := hs
            rw [h6] at e35
            obtain ⟨i0, hi, hz0, hz1, hz2⟩ := info_parts infoPair
            have hr := run_build_one (P := Try.prog) wx 22 36 i0 _ [vals 8, vals 15] Try.underlying22 hi hz0 hz1 (by simp) (by simp)
            refine gives_of_run rfl (exec_buildSlice1 22 1 (.tmp 35) rfl _ _ e35 hr) ?_
            have hbn : Below wx.heap.size wx (wx.alloc (.cells [vals 8, vals 15].toArray 36)) := (Below.refl _ wx).alloc (Nat.le_refl _) _
            exact (⟨hrc.keep hbn, wx.heap.size, rfl, Blk.new wx _ [vals 8, vals 15]⟩ : Rc w bx cb lf (.slice pa0 m pc0) nilS (.slice va vn vcp) cs (.slice pa0 m pc0) nilS (zs) [] (ex ++ [(vals 8, q1)] ++ [(vals 15, q2)]) (wx.alloc (.cells [vals 8, vals 15].toArray 36)) ∧ ∃ g, (.slice (some ⟨wx.heap.size, 0, none⟩) 1 1 : Value) = .slice (some ⟨g, 0, none⟩) 1 1 ∧ Blk (wx.alloc (.cells [vals 8, vals 15].toArray 36)) g 36 [vals 8, vals 15])
          · intro vals act wx h hs
            have e20 : act.eval (.tmp 20) = .slice pa0 m pc0 := h.q 1 20 (by kernel_rfl) rfl
            have e36 : act.eval (.tmp 36) = vals 17 := h.val 17 36 (by kernel_rfl)
            clear h
            obtain ⟨hrc, g, h7, hg⟩ : Rc w bx cb lf (.slice pa0 m pc0) nilS (.slice va vn vcp) cs (.slice pa0 m pc0) nilS (zs) [] (ex ++ [(vals 8, q1)] ++ [(vals 15, q2)]) wx ∧ ∃ g, vals 17 = .slice (some ⟨g, 0, none⟩) 1 1 ∧ Blk wx g 36 [vals 8, vals 15] := hs
            rw [h7] at e36
            obtain ⟨b1, d1', hf1⟩ := own_form' (hrc.ex (vals 8, q1) (by simp))
            obtain ⟨b2, d2', hf2⟩ := own_form' (hrc.ex (vals 15, q2) (by simp))
            simp only at hf1 hf2
            rw [hf1, hf2] at hg
            obtain ⟨p', w', hr, hc', a', c', hp'⟩ := hrc.pushP g b1 b2 _ _ d1' d2' hg hz1
            rw [← hf1, ← hf2] at hc'
            refine gives_of_run rfl (exec_append (.tmp 20) (.tmp 36) 22 rfl _ _ e20 e36 _ hr) ?_
            exact (⟨hc', a', _, c', hp'⟩ : Rc w bx cb lf (.slice pa0 m pc0) nilS (.slice va vn vcp) cs (p') nilS (zs ++ [(vals 8, vals 15)]) [] (ex ++ [(vals 8, q1)] ++ [(vals 15, q2)]) w' ∧ ∃ a n c, p' = .slice a n c)
          · intro k vals act wx hk h hs
            have e3 : act.eval (.tmp 3) = .pointer (some ⟨cb, 0, none⟩) := h.old 3 (by kernel_rfl)
            clear h
            refine gives_by rfl act.eval rfl ?_
            generalize act.eval = ρ at *
            intro hf hc
            go_simp
            exact ⟨rfl, hs⟩
          · intro vals act wx h hs
            have e38 : act.eval (.tmp 38) = .pointer (some ⟨cb, 1, none⟩) := h.q 19 38 (by kernel_rfl) rfl
            have e37 : act.eval (.tmp 37) = vals 18 := h.val 18 37 (by kernel_rfl)
            clear h
            obtain ⟨hrc, a', n', c', h8⟩ : Rc w bx cb lf (.slice pa0 m pc0) nilS (.slice va vn vcp) cs (vals 18) nilS (zs ++ [(vals 8, vals 15)]) [] (ex ++ [(vals 8, q1)] ++ [(vals 15, q2)]) wx ∧ ∃ a n c, vals 18 = .slice a n c := hs
            rw [h8] at e37
            have c0 : wx.cell? ⟨cb, 1, none⟩ = some (.slice pa0 m pc0) := hrc.cbox.cell 1
            have f0 : wx.frozen? ⟨cb, 1, none⟩ = false := hrc.cbox.frozen 1
            have hfin : Rc w bx cb lf (vals 18) nilS (.slice va vn vcp) cs (vals 18) nilS (zs ++ [(vals 8, vals 15)]) [] (ex ++ [(vals 8, q1)] ++ [(vals 15, q2)]) (wx.setCell ⟨cb, 1, none⟩ (.slice a' n' c')) := by have := hrc.put 1 (.slice a' n' c') (.slice a' n' c') nilS rfl; rw [h8] at this ⊢; exact this
            clear hrc h8
            refine gives_by rfl act.eval rfl ?_
            generalize act.eval = ρ at *
            intro hf hc
            go_simp
            exact hfin
        · intro vals1 w' hq hs
          have hfin : Rc w bx cb lf (vals1 18) nilS (.slice va vn vcp) cs (vals1 18) nilS (zs ++ [(vals1 8, vals1 15)]) [] (ex ++ [(vals1 8, q1)] ++ [(vals1 15, q2)]) w' := hs
          have HNX : Hid (∀ i, i < m + 1 → (((zs ++ [(vals1 8, vals1 15)]).getD i nil2).1, (ps.getD i ([], [])).1) ∈ ex ++ [(vals1 8, q1)] ++ [(vals1 15, q2)] ∧ (((zs ++ [(vals1 8, vals1 15)]).getD i nil2).2, (ps.getD i ([], [])).2) ∈ ex ++ [(vals1 8, q1)] ++ [(vals1 15, q2)]) := fun i hi => by
            have hzl := HZL.out
            by_cases him : i < m
            · have e1 : (zs ++ [(vals1 8, vals1 15)]).getD i nil2 = zs.getD i nil2 := by simp [List.getD, List.getElem?_append_left (show i < zs.length by omega)]
              rw [e1]
              exact ⟨List.mem_append_left _ (List.mem_append_left _ (HEX.out i him).1), List.mem_append_left _ (List.mem_append_left _ (HEX.out i him).2)⟩
            · obtain rfl : i = m := by omega
              have e1 : (zs ++ [(vals1 8, vals1 15)]).getD i nil2 = (vals1 8, vals1 15) := by rw [← hzl]; simp [List.getD]
              rw [e1, HPM.out]
              simp
          have HF := hide hfin
          clear hq hs hfin
          simp only [putAll, Act.put, List.setIfInBounds_toArray, List.set_cons_zero, List.set_cons_succ, Nat.zero_add, Nat.reduceAdd]
          go_wp2
          go_roundg (gk - 1)
          case measure => omega
          case rel => exact ⟨m + 1, vals1 18, _, _, by omega, by go_num, HF.out, by rw [List.length_append, HZL.out]; rfl, HNX.out⟩
      · obtain rfl : m = np := by omega
        clear hrc hm
        go_wp2
        go_loopg [5] nk (fun g i wr => ∃ (j : Nat) (k : Value) (us : List Value) (ex : List (Value × List Int)), g + j = nk ∧ i = .int .i64 j ∧ Rc w bx cb lf p0 k (.slice va vn vcp) cs p0 k zs us ex wr ∧ us.length = j ∧ (∀ i, i < m → ((zs.getD i nil2).1, (ps.getD i ([], [])).1) ∈ ex ∧ ((zs.getD i nil2).2, (ps.getD i ([], [])).2) ∈ ex) ∧ ∀ i, i < j → (us.getD i nilS, ks.getD i []) ∈ ex)
        case atStart => exact ⟨0, nilS, [], ex, by omega, rfl, HRM.out, rfl, HEX.out, fun i hi => by omega⟩
        case round =>
          obtain ⟨j, k0, us, ex2, hgj, rfl, hrc, hul, hex2, hky⟩ := hrel
          obtain ⟨W2, rfl⟩ : ∃ x, x = wr := ⟨_, rfl⟩
          clear x1 x2
          have x2 : W2.cell? ⟨w.heap.size, 2, none⟩ = some (.slice ka nk kc) := by rw [hrc.b0.cell 2, HBX.out]; rfl
          have HEX2 := hide hex2
          have HKY := hide hky
          have HUL := hide hul
          have HRK := hide hrc
          clear hex2 hky HRM HEX
          by_cases hj : j < nk
          · have hji : (j : Int) < (nk : Int) := by omega
            have hjl : j < ks.length := by rw [HNK.out]; exact hj
            have hle := HM5.out (ks.getD j []) (by simp only [List.getD, List.getElem?_eq_getElem hjl]; exact List.getElem_mem hjl)
            have HSC : Hid (∀ wx, Below w.heap.size w wx → ∃ b off, ka = some ⟨b, off, none⟩ ∧ wx.cell? ⟨b, off + j, none⟩ = some (ys.getD j nilS)) := fun wx hb => by
              obtain ⟨b, off, he, r1, _⟩ := (HK.out.below hb).at j hjl
              exact ⟨b, off, he, r1⟩
            obtain ⟨kb0, ko0, he0, r0, g1⟩ := HK.out.at j hjl
            clear he0 r0
            obtain ⟨qm, hqm⟩ : ∃ qm, ks.getD j [] = qm := ⟨_, rfl⟩
            have HQM := hide hqm
            rw [hqm] at g1 hle
            generalize ys.getD j nilS = u at *
            simp only [fewK, decide_eq_true_iff] at hle
            have HSW := hide g1
            obtain ⟨a1, n1, d1, rfl⟩ := sl_form g1
            obtain ⟨kb, koff, rfl, _⟩ := HSC.out W2 hrc.below
            have HCX : Hid (∀ wx, Below w.heap.size w wx → wx.cell? ⟨kb, koff + j, none⟩ = some (.slice a1 n1 d1)) := fun wx hb => by
              obtain ⟨b, off, he, h1⟩ := HSC.out wx hb
              obtain ⟨rfl, rfl⟩ : kb = b ∧ koff = off := by simpa using he
              exact h1
            obtain ⟨ka0, kc0, hkf⟩ := own_form' hrc.krow
            rw [hul] at hkf
            subst hkf
            have hu1 : us.length ≤ 1000 := by omega
            clear g1 hqm hrc HSC hul
            go_wp2
            refine wp_region_chain [some (.pointer (some ⟨cb, 2, none⟩)), some (.slice ka0 j kc0), some (.pointer (some ⟨w.heap.size, 2, none⟩)), some (.slice (some ⟨kb, koff, none⟩) nk kc), some (.int .i64 (j : Int)), some (.pointer (some ⟨kb, koff + j, none⟩)), some (.slice a1 n1 d1), none, none, none, some (.pointer (some ⟨cb, 2, none⟩)), none] [7, 8, 9, 11] (RkS w bx cb lf (.slice va vn vcp) cs p0 (.slice ka0 j kc0) zs us ex2 qm) 58 (by kernel_rfl) (by kernel_rfl) (by kernel_rfl) (by kernel_rfl) rfl ?_ ?_ ?_
            · intro vals0
              exact (HRK.out.keep ((Below.refl _ W2).drew) : Rc w bx cb lf p0 (.slice ka0 j kc0) (.slice va vn vcp) cs p0 (.slice ka0 j kc0) zs us ex2 W2.drew)
            · refine ⟨?_, ?_, ?_, ?_, ?_, ?_, ?_, ?_, ?_, ?_, ?_, ?_, trivial⟩
              · intro k vals act wx hk h hs
                have e3 : act.eval (.tmp 3) = .pointer (some ⟨cb, 0, none⟩) := h.old 3 (by kernel_rfl)
                clear h
                refine gives_by rfl act.eval rfl ?_
                generalize act.eval = ρ at *
                intro hf hc
                go_simp
                exact ⟨rfl, hs⟩
              · intro k vals act wx hk h hs
                have e46 : act.eval (.tmp 46) = .pointer (some ⟨cb, 2, none⟩) := h.q 0 46 (by kernel_rfl) rfl
                clear h
                obtain ⟨_, _, _, hrc⟩ := hs.any hk
                have cx := hrc.cbox.cell 2
                have cy : wx.cell? ⟨w.heap.size, 2, none⟩ = some (.slice (some ⟨kb, koff, none⟩) nk kc) := by rw [hrc.b0.cell 2, HBX.out]; rfl
                have cz := HCX.out wx hrc.below
                refine gives_by rfl act.eval rfl ?_
                generalize act.eval = ρ at *
                intro hf hc
                go_simp
                exact ⟨rfl, hs⟩
              · intro k vals act wx hk h hs
                have e1 : act.eval (.tmp 1) = .pointer (some ⟨w.heap.size, 0, none⟩) := h.old 1 (by kernel_rfl)
                clear h
                refine gives_by rfl act.eval rfl ?_
                generalize act.eval = ρ at *
                intro hf hc
                go_simp
                exact ⟨rfl, hs⟩
              · intro k vals act wx hk h hs
                have e48 : act.eval (.tmp 48) = .pointer (some ⟨w.heap.size, 2, none⟩) := h.q 2 48 (by kernel_rfl) rfl
                clear h
                obtain ⟨_, _, _, hrc⟩ := hs.any hk
                have cx := hrc.cbox.cell 2
                have cy : wx.cell? ⟨w.heap.size, 2, none⟩ = some (.slice (some ⟨kb, koff, none⟩) nk kc) := by rw [hrc.b0.cell 2, HBX.out]; rfl
                have cz := HCX.out wx hrc.below
                refine gives_by rfl act.eval rfl ?_
                generalize act.eval = ρ at *
                intro hf hc
                go_simp
                exact ⟨rfl, hs⟩
              · intro k vals act wx hk h hs
                have e5 : act.eval (.tmp 5) = .int .i64 (j : Int) := h.old 5 (by kernel_rfl)
                clear h
                refine gives_by rfl act.eval rfl ?_
                generalize act.eval = ρ at *
                intro hf hc
                go_simp
                exact ⟨rfl, hs⟩
              · intro k vals act wx hk h hs
                have e49 : act.eval (.tmp 49) = .slice (some ⟨kb, koff, none⟩) nk kc := h.q 3 49 (by kernel_rfl) rfl
                have e50 : act.eval (.tmp 50) = .int .i64 (j : Int) := h.q 4 50 (by kernel_rfl) rfl
                clear h
                refine gives_by rfl act.eval rfl ?_
                generalize act.eval = ρ at *
                intro hf hc
                go_simp
                exact ⟨rfl, hs⟩
              · intro k vals act wx hk h hs
                have e51 : act.eval (.tmp 51) = .pointer (some ⟨kb, koff + j, none⟩) := h.q 5 51 (by kernel_rfl) rfl
                clear h
                obtain ⟨_, _, _, hrc⟩ := hs.any hk
                have cx := hrc.cbox.cell 2
                have cy : wx.cell? ⟨w.heap.size, 2, none⟩ = some (.slice (some ⟨kb, koff, none⟩) nk kc) := by rw [hrc.b0.cell 2, HBX.out]; rfl
                have cz := HCX.out wx hrc.below
                refine gives_by rfl act.eval rfl ?_
                generalize act.eval = ρ at *
                intro hf hc
                go_simp
                exact ⟨rfl, hs⟩
              · intro vals act wx h hs
                have e52 : act.eval (.tmp 52) = .slice a1 n1 d1 := h.q 6 52 (by kernel_rfl) rfl
                clear h
                have hrc : Rc w bx cb lf p0 (.slice ka0 j kc0) (.slice va vn vcp) cs p0 (.slice ka0 j kc0) zs (us) (ex2) wx := hs
                refine gives_by rfl act.eval rfl ?_
                generalize act.eval = ρ at *
                intro hf hc
                go_simp
                refine (hrc.own (.slice a1 n1 d1) qm HSW.out (by omega)).mono ?_
                rintro e w' ⟨r, he, hc'⟩
                exact ⟨r, he, (hc' : Rc w bx cb lf p0 (.slice ka0 j kc0) (.slice va vn vcp) cs p0 (.slice ka0 j kc0) zs (us) (ex2 ++ [(r, qm)]) w')⟩
              · intro vals act wx h hs
                have e53 : act.eval (.tmp 53) = vals 7 := h.val 7 53 (by kernel_rfl)
                clear h
                have hrc : Rc w bx cb lf p0 (.slice ka0 j kc0) (.slice va vn vcp) cs p0 (.slice ka0 j kc0) zs (us) (ex2 ++ [(vals 7, qm)]) wx := hs
                obtain ⟨b1, d1', hf1⟩ := own_form' (hrc.ex (vals 7, qm) (by simp))
                simp only at hf1
                rw [hf1] at e53
                refine gives_of_run rfl (exec_buildSlice1 23 1 (.tmp 53) rfl _ _ e53 (build_row wx b1 qm.length d1')) ?_
                have hbn : Below wx.heap.size wx (wx.alloc (.cells #[.slice b1 qm.length d1'] 34)) := (Below.refl _ wx).alloc (Nat.le_refl _) _
                exact (⟨hrc.keep hbn, wx.heap.size, rfl, by rw [hf1]; exact Blk.new wx _ [.slice b1 qm.length d1']⟩ : Rc w bx cb lf p0 (.slice ka0 j kc0) (.slice va vn vcp) cs p0 (.slice ka0 j kc0) zs (us) (ex2 ++ [(vals 7, qm)]) (wx.alloc (.cells #[.slice b1 qm.length d1'] 34)) ∧ ∃ g, (.slice (some ⟨wx.heap.size, 0, none⟩) 1 1 : Value) = .slice (some ⟨g, 0, none⟩) 1 1 ∧ Blk (wx.alloc (.cells #[.slice b1 qm.length d1'] 34)) g 34 [vals 7])
              · intro vals act wx h hs
                have e47 : act.eval (.tmp 47) = .slice ka0 j kc0 := h.q 1 47 (by kernel_rfl) rfl
                have e54 : act.eval (.tmp 54) = vals 8 := h.val 8 54 (by kernel_rfl)
                clear h
                obtain ⟨hrc, g, h7, hg⟩ : Rc w bx cb lf p0 (.slice ka0 j kc0) (.slice va vn vcp) cs p0 (.slice ka0 j kc0) zs (us) (ex2 ++ [(vals 7, qm)]) wx ∧ ∃ g, vals 8 = .slice (some ⟨g, 0, none⟩) 1 1 ∧ Blk wx g 34 [vals 7] := hs
                rw [h7] at e54
                obtain ⟨b1, d1', hf1⟩ := own_form' (hrc.ex (vals 7, qm) (by simp))
                simp only at hf1
                rw [hf1] at hg
                obtain ⟨p', w', hr, hc', a', c', hp'⟩ := hrc.pushK g b1 _ d1' hg hu1
                rw [← hf1] at hc'
                refine gives_of_run rfl (exec_append (.tmp 47) (.tmp 54) 23 rfl _ _ e47 e54 _ hr) ?_
                exact (⟨hc', a', _, c', hp'⟩ : Rc w bx cb lf p0 (.slice ka0 j kc0) (.slice va vn vcp) cs p0 (p') zs (us ++ [vals 7]) (ex2 ++ [(vals 7, qm)]) w' ∧ ∃ a n c, p' = .slice a n c)
              · intro k vals act wx hk h hs
                have e3 : act.eval (.tmp 3) = .pointer (some ⟨cb, 0, none⟩) := h.old 3 (by kernel_rfl)
                clear h
                refine gives_by rfl act.eval rfl ?_
                generalize act.eval = ρ at *
                intro hf hc
                go_simp
                exact ⟨rfl, hs⟩
              · intro vals act wx h hs
                have e56 : act.eval (.tmp 56) = .pointer (some ⟨cb, 2, none⟩) := h.q 10 56 (by kernel_rfl) rfl
                have e55 : act.eval (.tmp 55) = vals 9 := h.val 9 55 (by kernel_rfl)
                clear h
                obtain ⟨hrc, a', n', c', h8⟩ : Rc w bx cb lf p0 (.slice ka0 j kc0) (.slice va vn vcp) cs p0 (vals 9) zs (us ++ [vals 7]) (ex2 ++ [(vals 7, qm)]) wx ∧ ∃ a n c, vals 9 = .slice a n c := hs
                rw [h8] at e55
                have c0 : wx.cell? ⟨cb, 2, none⟩ = some (.slice ka0 j kc0) := hrc.cbox.cell 2
                have f0 : wx.frozen? ⟨cb, 2, none⟩ = false := hrc.cbox.frozen 2
                have hfin : Rc w bx cb lf p0 (vals 9) (.slice va vn vcp) cs p0 (vals 9) zs (us ++ [vals 7]) (ex2 ++ [(vals 7, qm)]) (wx.setCell ⟨cb, 2, none⟩ (.slice a' n' c')) := by have := hrc.put 2 (.slice a' n' c') p0 (.slice a' n' c') rfl; rw [h8] at this ⊢; exact this
                clear hrc h8
                refine gives_by rfl act.eval rfl ?_
                generalize act.eval = ρ at *
                intro hf hc
                go_simp
                exact hfin
            · intro vals1 w' hq hs
              have hfin : Rc w bx cb lf p0 (vals1 9) (.slice va vn vcp) cs p0 (vals1 9) zs (us ++ [vals1 7]) (ex2 ++ [(vals1 7, qm)]) w' := hs
              have HNX : Hid (∀ i, i < j + 1 → ((us ++ [vals1 7]).getD i nilS, ks.getD i []) ∈ ex2 ++ [(vals1 7, qm)]) := fun i hi => by
                have hul := HUL.out
                by_cases him : i < j
                · have e1 : (us ++ [vals1 7]).getD i nilS = us.getD i nilS := by simp [List.getD, List.getElem?_append_left (show i < us.length by omega)]
                  rw [e1]
                  exact List.mem_append_left _ (HKY.out i him)
                · obtain rfl : i = j := by omega
                  have e1 : (us ++ [vals1 7]).getD i nilS = vals1 7 := by rw [← hul]; simp [List.getD]
                  rw [e1, HQM.out]
                  simp
              have HF := hide hfin
              clear hq hs hfin
              simp only [putAll, Act.put, List.setIfInBounds_toArray, List.set_cons_zero, List.set_cons_succ, Nat.zero_add, Nat.reduceAdd]
              go_wp2
              go_roundg (gk - 1)
              case measure => omega
              case rel => exact ⟨j + 1, vals1 9, _, _, by omega, by go_num, HF.out, by rw [List.length_append, HUL.out]; rfl, fun i hi => ⟨List.mem_append_left _ (HEX2.out i hi).1, List.mem_append_left _ (HEX2.out i hi).2⟩, HNX.out⟩
          · obtain rfl : j = nk := by omega
            have t0 : W2.cell? ⟨cb, 0, none⟩ = some (.bool lf) := hrc.cbox.cell 0
            have t1 : W2.cell? ⟨cb, 1, none⟩ = some p0 := hrc.cbox.cell 1
            have t2 : W2.cell? ⟨cb, 2, none⟩ = some k0 := hrc.cbox.cell 2
            have t3 : W2.cell? ⟨cb, 3, none⟩ = some (.slice va vn vcp) := hrc.cbox.cell 3
            obtain ⟨pa0, pc0, hp0f⟩ := own_form' hrc.prow
            obtain ⟨ka0, kc0, hk0f⟩ := own_form' hrc.krow
            rw [hul] at hk0f
            rw [HZL.out] at hp0f
            subst hk0f
            subst hp0f
            have r0 : W2.cell? ⟨w.heap.size + 1, 0, none⟩ = some (.bool false) := hrc.b1.cell 0
            have r1 : W2.cell? ⟨w.heap.size + 1, 1, none⟩ = some (.slice none 0 0) := hrc.b1.cell 1
            have r2 : W2.cell? ⟨w.heap.size + 1, 2, none⟩ = some (.slice none 0 0) := hrc.b1.cell 2
            have r3 : W2.cell? ⟨w.heap.size + 1, 3, none⟩ = some (.slice none 0 0) := hrc.b1.cell 3
            have f0 : W2.frozen? ⟨w.heap.size + 1, 0, none⟩ = false := hrc.b1.frozen 0
            have f1 : W2.frozen? ⟨w.heap.size + 1, 1, none⟩ = false := hrc.b1.frozen 1
            have f2 : W2.frozen? ⟨w.heap.size + 1, 2, none⟩ = false := hrc.b1.frozen 2
            have f3 : W2.frozen? ⟨w.heap.size + 1, 3, none⟩ = false := hrc.b1.frozen 3
            clear hrc hul
            go_wp2
            clear t0 t1 t2 t3 r0 r1 r2 r3 f0 f1 f2 f3
            have hB1 := (((HRK.out.b1.set 0 (.bool lf)).set 1 (.slice pa0 m pc0)).set 2 (.slice ka0 j kc0)).set 3 (.slice va vn vcp)
            have hoR : Only (· = w.heap.size + 1) W2 ((((W2.setCell ⟨w.heap.size + 1, 0, none⟩ (.bool lf)).setCell ⟨w.heap.size + 1, 1, none⟩ (.slice pa0 m pc0)).setCell ⟨w.heap.size + 1, 2, none⟩ (.slice ka0 j kc0)).setCell ⟨w.heap.size + 1, 3, none⟩ (.slice va vn vcp)) :=
              ((((Only.refl (· = w.heap.size + 1) W2).setCell ⟨w.heap.size + 1, 0, none⟩ _ (fun _ => rfl)).setCell ⟨w.heap.size + 1, 1, none⟩ _ (fun _ => rfl)).setCell ⟨w.heap.size + 1, 2, none⟩ _ (fun _ => rfl)).setCell ⟨w.heap.size + 1, 3, none⟩ _ (fun _ => rfl)
            generalize (((W2.setCell ⟨w.heap.size + 1, 0, none⟩ (.bool lf)).setCell ⟨w.heap.size + 1, 1, none⟩ (.slice pa0 m pc0)).setCell ⟨w.heap.size + 1, 2, none⟩ (.slice ka0 j kc0)).setCell ⟨w.heap.size + 1, 3, none⟩ (.slice va vn vcp) = R at *
            have hr := HRK.out
            refine bodyPost_ret (results_cell_row rfl _ _ (w.heap.size + 1) 26 #[.bool lf, .slice pa0 m pc0, .slice ka0 j kc0, .slice va vn vcp] (0, 0) _ rfl hB1 Try.underlying26 rfl sizeNode) rfl ?_
            refine ⟨_, rfl, ?_, hr.below.trans (hoR.below hr.below.size (fun i hi e => by omega))⟩
            refine rc_val (ex := ex2) (xs := zs) (ys := us) (fun q hq => (hr.ex q hq).only hoR (fun i hi e => row_not_blk (hr.ex q hq) hr.b1 (by decide) (e ▸ hi))) (ownsRow_only hr.prow hoR (fun i hi e => row_not_blk hr.prow hr.b1 (by decide) (e ▸ hi))) (ownsRow_only hr.krow hoR (fun i hi e => row_not_blk hr.krow hr.b1 (by decide) (e ▸ hi))) (hr.ints.only hoR (fun i hi e => row_not_blk hr.ints hr.b1 (by decide) (e ▸ hi))) (HZL.out.trans HNP.out.symm) (HUL.out.trans HNK.out.symm) (fun i hi => HEX2.out i (by rw [← HNP.out]; exact hi)) (fun i hi => HKY.out i (by rw [← HNK.out]; exact hi)) HBP.out HBK.out

end Go.Proofs.Ytoamdbjailpgdaa
