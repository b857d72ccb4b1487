/- Folding twice (pure); a string as bytes. -/
import Derived.Test.YtimmfnjkknbofaaDoorJFU8
import Derived.Test.YtimmfnjkknbofaaDoorJFBui
import Derived.Laws.IdiomStrings
namespace Go.Proofs.YtimmfnjkknbofaaDoor
set_option maxRecDepth 20000
open Go.RowKit
set_option linter.unusedVariables false
set_option linter.unusedSimpArgs false
set_option maxRecDepth 100000

theorem useL_twice (xs : List Fd) : ∀ x ∈ useL xs, noB x = false ∧ ∀ y ∈ useL xs, meetB x y = false := by
  unfold useL
  split
  · rename_i h
    unfold tblB at h
    simp only [Bool.and_eq_true, Bool.not_eq_true'] at h
    intro x hx
    have h1 := h.1.1.2
    rw [List.any_eq_false] at h1
    refine ⟨by simpa using h1 x hx, fun y hy => ?_⟩
    have h2 := h.2
    unfold twiceB at h2
    rw [List.any_eq_false] at h2
    have h3 : twoB x xs = false := by simpa using h2 x hx
    unfold twoB at h3
    rw [List.any_eq_false] at h3
    simpa using h3 y hy
  · intro x hx; cases hx

theorem foldL_in : ∀ (us : List Fd) (r : Int), foldL us r = r ∨ ∃ x ∈ us, (x.1 ≤ r ∧ r ≤ x.1 + x.2.2 - 1) ∧ foldL us r = x.2.1 + (r - x.1)
  | [], r => .inl rfl
  | x :: us, r => by
    unfold foldL
    by_cases h : x.1 ≤ r ∧ r ≤ x.1 + x.2.2 - 1
    · rw [if_pos h]
      exact .inr ⟨x, List.mem_cons_self .., h, rfl⟩
    · rw [if_neg h]
      rcases foldL_in us r with e | ⟨y, hy, h1, h2⟩
      · exact .inl e
      · exact .inr ⟨y, List.mem_cons_of_mem _ hy, h1, h2⟩
theorem foldL_out : ∀ (us : List Fd) (r : Int), (∀ y ∈ us, ¬ (y.1 ≤ r ∧ r ≤ y.1 + y.2.2 - 1)) → foldL us r = r
  | [], r, _ => rfl
  | x :: us, r, h => by
    unfold foldL
    rw [if_neg (h x (List.mem_cons_self ..))]
    exact foldL_out us r (fun y hy => h y (List.mem_cons_of_mem _ hy))
theorem lets_at {a b r : Int} (h : letsB a b = true) (h1 : a ≤ r) (h2 : r ≤ b) : letB r = true := by
  unfold letB
  simp only [letsB, letRows, List.any_cons, List.any_nil, Bool.or_false, Bool.or_eq_true, Bool.and_eq_true, decide_eq_true_iff] at h ⊢
  omega
theorem no_lets {x : Fd} (h : noB x = false) : NOk x.2.2 ∧ letsB x.1 (x.1 + x.2.2 - 1) = true ∧ letsB x.2.1 (x.2.1 + x.2.2 - 1) = true := by
  unfold noB at h
  simp only [Bool.or_eq_false_iff, decide_eq_false_iff_not, Bool.not_eq_false'] at h
  exact ⟨⟨by omega, by omega⟩, h.1.2, h.2⟩
theorem fold_twice (xs : List Fd) (r : Int) : foldL (useL xs) (foldL (useL xs) r) = foldL (useL xs) r := by
  rcases foldL_in (useL xs) r with e | ⟨x, hx, h1, h2⟩
  · rw [e, e]
  · obtain ⟨hn, hm⟩ := useL_twice xs x hx
    rw [h2]
    apply foldL_out
    intro y hy hr
    have := hm y hy
    obtain ⟨⟨n1, n2⟩, _, _⟩ := no_lets hn
    simp only [meetB, Bool.and_eq_false_iff, decide_eq_false_iff_not] at this
    omega
theorem fold_letter (xs : List Fd) (r : Int) : letB (foldL (useL xs) r) = letB r := by
  rcases foldL_in (useL xs) r with e | ⟨x, hx, h1, h2⟩
  · rw [e]
  · obtain ⟨hn, hm⟩ := useL_twice xs x hx
    obtain ⟨⟨n1, n2⟩, l1, l2⟩ := no_lets hn
    rw [h2, lets_at l1 h1.1 h1.2, lets_at l2 (by omega) (by omega)]
theorem fold_rune (xs : List Fd) (r : Int) (hr : runeB r = true) : runeB (foldL (useL xs) r) = true := by
  rcases foldL_in (useL xs) r with e | ⟨x, hx, h1, h2⟩
  · rw [e]; exact hr
  · obtain ⟨⟨n1, n2⟩, b1, b2, b3, b4⟩ := useL_ok xs x hx
    rw [h2]
    exact runeB_yes (by omega) (by omega) (by omega)
theorem enc_form (r : Int) (hr : runeB r = true) : Lib.encodeRuneZ r = formL r := by
  have hrr := hr
  unfold runeB at hrr
  simp only [Bool.and_eq_true, decide_eq_true_iff, Bool.not_eq_true', Bool.and_eq_false_iff, decide_eq_false_iff_not] at hrr
  by_cases c1 : r < 128
  · rw [formL_1 hr c1, Lib.encodeRuneZ_one (by omega) (by omega)]
  · by_cases c2 : r < 2048
    · rw [formL_2 hr c1 c2, Lib.encodeRuneZ_two (by omega) (by omega)]
    · by_cases c3 : r < 65536
      · rw [formL_3 hr c2 c3, Lib.encodeRuneZ_three (by omega)]
      · rw [formL_4 hr c3, Lib.encodeRuneZ_four (by omega) (by omega)]

theorem rnL_valid : ∀ (f p : Nat) (b : List Int), ByteOk b → ∀ x ∈ rnL f p b, runeB (x.2 : Int) = true
  | 0, _, _, _ => by intro x hx; simp [rnL] at hx
  | f + 1, p, b, hb => by
    by_cases h : b = []
    · subst h; intro x hx; simp [rnL] at hx
    · rw [rnL_on f p h]
      intro x hx
      rcases List.mem_cons.1 hx with rfl | hx
      · rcases dec_is hb h with ⟨r, h1, _, h3⟩ | ⟨h3, _⟩
        · rw [h3]; exact h1
        · rw [h3]; exact (by decide : runeB ((65533 : Nat) : Int) = true)
      · exact rnL_valid f _ _ (hb.drop _) x hx
theorem runesN_valid {b : List Int} (hb : ByteOk b) : ∀ x ∈ runesN b, runeB (x.2 : Int) = true := rnL_valid _ _ _ hb
theorem form_ok (r : Int) : ByteOk (formL r) := by
  intro z hz
  cases hr : runeB r with
  | false => rw [formL_none hr] at hz; cases hz
  | true =>
    rw [← enc_form r hr] at hz
    have := Lib.encodeRuneZ_byte r z hz
    omega
/-- the runes of forms -/
theorem runes_forms : ∀ (rs : List Nat) (f p : Nat), (∀ r ∈ rs, runeB (r : Int) = true) → (rs.flatMap fun r : Nat => formL (r : Int)).length ≤ f → (rnL f p (rs.flatMap fun r : Nat => formL (r : Int))).map (·.2) = rs
  | [], f, p, _, _ => by rw [List.flatMap_nil, rnL_nil]; rfl
  | r :: rs, f, p, hv, hf => by
    have hr := hv r (List.mem_cons_self ..)
    have hp := form_pos hr
    rw [List.flatMap_cons] at hf ⊢
    simp only [List.length_append] at hf
    obtain ⟨f, rfl⟩ : ∃ g, f = g + 1 := ⟨f - 1, by omega⟩
    have hok : ByteOk (formL (r : Int) ++ rs.flatMap fun r : Nat => formL (r : Int)) := ByteOk.append' (form_ok _) (fun z hz => by
      obtain ⟨q, _, hq⟩ := List.mem_flatMap.1 hz
      exact form_ok _ z hq)
    have hd := dec_form hok hr (List.prefix_append _ _)
    rw [rnL_on f p (by intro e; have h0 := (List.append_eq_nil_iff.1 e).1; rw [h0] at hp; simp at hp), hd, List.map_cons]
    simp only [List.drop_left]
    rw [runes_forms rs f _ (fun q hq => hv q (List.mem_cons_of_mem _ hq)) (by omega)]

def foldR (us : List Fd) (l : List (Nat × Nat)) : List Nat := l.map fun p => (foldL us (p.2 : Int)).toNat
theorem foldR_at (xs : List Fd) (r : Nat) (hr : runeB (r : Int) = true) : (((foldL (useL xs) (r : Int)).toNat : Nat) : Int) = foldL (useL xs) (r : Int) := by
  have := fold_rune xs r hr
  unfold runeB at this
  simp only [Bool.and_eq_true, decide_eq_true_iff] at this
  omega
theorem foldZ_forms (xs : List Fd) : ∀ (l : List (Nat × Nat)), (∀ x ∈ l, runeB (x.2 : Int) = true) → foldZ (useL xs) l = (foldR (useL xs) l).flatMap fun r : Nat => formL (r : Int)
  | [], _ => rfl
  | p :: l, h => by
    have hr := h p (List.mem_cons_self ..)
    have ih := foldZ_forms xs l (fun x hx => h x (List.mem_cons_of_mem _ hx))
    unfold foldZ foldR at ih ⊢
    rw [List.flatMap_cons, List.map_cons, List.flatMap_cons, ih, foldR_at xs p.2 hr, enc_form _ (fold_rune xs _ hr)]
theorem foldR_valid (xs : List Fd) (l : List (Nat × Nat)) (h : ∀ x ∈ l, runeB (x.2 : Int) = true) : ∀ r ∈ foldR (useL xs) l, runeB (r : Int) = true := by
  intro r hr
  obtain ⟨p, hp, rfl⟩ := List.mem_map.1 hr
  rw [foldR_at xs p.2 (h p hp)]
  exact fold_rune xs _ (h p hp)
theorem foldZ_ok (xs : List Fd) (l : List (Nat × Nat)) : ByteOk (foldZ (useL xs) l) := by
  intro z hz
  obtain ⟨p, _, hp⟩ := List.mem_flatMap.1 hz
  have := Lib.encodeRuneZ_byte _ z hp
  omega
theorem foldZ_len (xs : List Fd) : ∀ l : List (Nat × Nat), (foldZ (useL xs) l).length ≤ 4 * l.length
  | [] => by simp [foldZ]
  | p :: l => by
    have h1 := foldZ_len xs l
    have h2 := Lib.encodeRuneZ_length (foldL (useL xs) (p.2 : Int))
    simp only [foldZ, List.flatMap_cons, List.length_append, List.length_cons] at h1 ⊢
    omega
/-- the runes of a text that was folded -/
theorem runes_folded (xs : List Fd) {b : List Int} (hb : ByteOk b) : (runesN (foldZ (useL xs) (runesN b))).map (·.2) = foldR (useL xs) (runesN b) := by
  have hv := runesN_valid hb
  rw [foldZ_forms xs _ hv]
  exact runes_forms _ _ 0 (foldR_valid xs _ hv) (Nat.le_refl _)
theorem count_folded (xs : List Fd) {b : List Int} (hb : ByteOk b) : (runesN (foldZ (useL xs) (runesN b))).length = (runesN b).length := by
  have := congrArg List.length (runes_folded xs hb)
  simpa [foldR] using this
theorem foldR_snd (us : List Fd) (l : List (Nat × Nat)) : foldR us l = (l.map (·.2)).map fun r : Nat => (foldL us (r : Int)).toNat := by
  unfold foldR
  rw [List.map_map]
  rfl
theorem text_twice (xs : List Fd) {b : List Int} (hb : ByteOk b) : foldZ (useL xs) (runesN (foldZ (useL xs) (runesN b))) = foldZ (useL xs) (runesN b) := by
  have hv := runesN_valid hb
  have hv2 := runesN_valid (foldZ_ok xs (runesN b))
  have hid : (foldR (useL xs) (runesN b)).map (fun r : Nat => (foldL (useL xs) (r : Int)).toNat) = foldR (useL xs) (runesN b) := by
    unfold foldR
    rw [List.map_map]
    apply List.map_congr_left
    intro p hp
    simp only [Function.comp]
    rw [foldR_at xs p.2 (hv p hp), fold_twice]
  rw [foldZ_forms xs _ hv2, foldR_snd, runes_folded xs hb, hid, foldZ_forms xs _ hv]

/-- '[]byte(s)' -/
theorem conv_sl (w : World) (zs : List Int) (hb : ByteOk zs) (hl : zs.length ≤ 1000000) : ∃ c w', (convert 9 26 (.string (strOfNums zs))).run Tryd.prog w = .ok (.slice (some ⟨w.heap.size, 0, none⟩) zs.length c) w' ∧ Sl w' (.slice (some ⟨w.heap.size, 0, none⟩) zs.length c) zs ∧ Below w.heap.size w w' := by
  have hr := run_bytes_of_string (P := Tryd.prog) w 9 26 5 (strOfNums zs) Tryd.underlying9 Tryd.underlying26 Tryd.underlying5
  rw [strOfNums_size] at hr
  have hge := grownCap_ge w zs.length 0 5
  have hcm := grownCap_le_maxLen w zs.length 0 5 (by unfold maxLen; omega)
  generalize grownCap w zs.length 0 5 = C at *
  refine ⟨C, _, hr, ⟨hb, _, C, rfl, hge, hcm, (fun h => by cases h), fun _ => ⟨w.heap.size, 0, rfl, fun i hi => ?_⟩⟩, ((Below.refl _ w).drew).alloc (Nat.le_refl _) _⟩
  have h1 : (strOfNums zs).data.size = zs.length := by simp [strOfNums]
  have h2 := bytesRow_at (strOfNums zs) C i (by omega)
  have hs : w.heap.size = w.drew.heap.size := rfl
  rw [hs, World.cell?_alloc_mark, Nat.zero_add, h2, getD_lt zs hi]
  have hz := hb zs[i] (List.getElem_mem hi)
  have h3 : (strOfNums zs).data[i]'(by omega) = UInt8.ofNat zs[i].toNat := by simp [strOfNums]
  rw [h3]
  congr 2
  have : (UInt8.ofNat zs[i].toNat).toNat = zs[i].toNat := by simp; omega
  omega

end Go.Proofs.YtimmfnjkknbofaaDoor
/- Contract: which range folds a rune, by the document (incipitref13.folds). Pure: what the document asks of a table is what the code asks. -/
namespace Go.Proofs.YtimmfnjkknbofaaDoor
set_option maxRecDepth 20000
open Go.RowKit
set_option linter.unusedVariables false
set_option linter.unusedSimpArgs false
set_option maxRecDepth 100000

/-- where the first range stands that folds r -/
def atL : List Fd → Int → Nat → Int
  | [], _, _ => -1
  | x :: xs, r, j => if x.1 ≤ r ∧ r - x.1 < x.2.2 then (j : Int) else atL xs r (j + 1)
theorem atL_yes {x : Fd} {xs : List Fd} {r : Int} {j : Nat} (h : x.1 ≤ r ∧ r - x.1 < x.2.2) : atL (x :: xs) r j = (j : Int) := if_pos h
theorem atL_no {x : Fd} {xs : List Fd} {r : Int} {j : Nat} (h : ¬ (x.1 ≤ r ∧ r - x.1 < x.2.2)) : atL (x :: xs) r j = atL xs r (j + 1) := if_neg h
theorem below_drewG {B : Nat} {a w : World} (h : Below B a w) (n : Nat) : Below B a (w.drewN n) := ⟨h.os, h.tape, h.output, h.size, h.block⟩

set_option maxHeartbeats 1000000 in
theorem refFolds_any (w : World) (v : Value) (xs : List Fd) (r : Int) (hT : Tbl w v xs) (hr : I32 r) :
    Calls Tryd.prog 64 #[v, .int .i32 r] w fun e w' => e = .returned (.int .i64 (atL xs r 0)) ∧ Below w.heap.size w w' := by
  obtain ⟨ao, cap, rfl⟩ := hT.len
  have hmx := hT.max
  have HT := hide hT
  obtain ⟨n, hn⟩ : ∃ n, xs.length = n := ⟨_, rfl⟩
  have HL := hide hn
  rw [hn] at HT hmx ⊢
  have hrw : IntKind.i64.wrap r = r := IntWalk.i64_in _ ⟨by have := hr.1; omega, by have := hr.2; omega⟩
  obtain ⟨hr1, hr2⟩ := hr
  clear hT hn
  go_enter Tryd.func64, Tryd.ntmps64
  go_wp2
  go_loopg [5] n (fun k i wr => ∃ j : Nat, k + j = n ∧ i = .int .i64 (j : Int) ∧ atL (xs.drop j) r j = atL xs r 0 ∧ Below w.heap.size w wr)
  case atStart => exact ⟨0, rfl, rfl, rfl, Below.refl _ w⟩
  case round =>
    obtain ⟨j, hk, rfl, hs, hbw⟩ := hrel
    have HS := hide hs
    have HB := hide hbw
    clear hs hbw
    cases gk with
    | zero =>
      obtain rfl : j = n := by omega
      have hlt : ¬ (j : Int) < (j : Int) := by omega
      go_wp2
      go_ret
      exact ⟨ret_int (by rw [← HS.out, List.drop_eq_nil_of_le (by rw [HL.out]; exact Nat.le_refl _)]; rfl), HB.out⟩
    | succ k =>
      have hj : (j : Int) < (n : Int) := by omega
      obtain ⟨b, off, ⟨f, t, m⟩, rfl, hx, hok, q0, q1, q2⟩ := (HT.out.below HB.out).at j (by rw [HL.out]; omega)
      simp only at q0 q1 q2
      have hd := drop_at hx
      obtain ⟨⟨hf1, hf2⟩, ⟨ht1, ht2⟩, hm1, hm2⟩ := hok
      simp only at hf1 hf2 ht1 ht2 hm1 hm2
      have hfw : IntKind.i64.wrap f = f := IntWalk.i64_in _ ⟨by omega, by omega⟩
      obtain ⟨D, hD⟩ : ∃ D, r - f = D := ⟨_, rfl⟩
      have hDw : IntKind.i64.wrap D = D := IntWalk.i64_in _ ⟨by omega, by omega⟩
      have HD := hide hd
      have HDD := hide hD
      clear hx hd
      by_cases h1 : f ≤ r
      · have hd1 : decide (f ≤ r) = true := decide_eq_true h1
        by_cases h2 : D < m
        · have HR : Hid (atL xs r 0 = (j : Int)) := by rw [← HS.out, HD.out]; exact atL_yes ⟨h1, by simp only; rw [HDD.out]; exact h2⟩
          have hd2 : decide (D < m) = true := decide_eq_true h2
          go_wp2
          go_quiet (fail)
          go_wp2
          go_ret
          exact ⟨ret_int HR.out.symm, below_drewG HB.out _⟩
        · have HR : Hid (atL (xs.drop (j + 1)) r (j + 1) = atL xs r 0) := by rw [← HS.out, HD.out]; exact (atL_no (fun h => h2 (by have := h.2; simp only at this; rwa [HDD.out] at this))).symm
          have hd2 : decide (D < m) = false := decide_eq_false h2
          go_wp2
          go_quiet (fail)
          go_wp2
          go_roundg k
          case measure => omega
          case rel => exact ⟨j + 1, by omega, by go_num, HR.out, below_drewG HB.out _⟩
      · have HR : Hid (atL (xs.drop (j + 1)) r (j + 1) = atL xs r 0) := by rw [← HS.out, HD.out]; exact (atL_no (fun h => h1 h.1)).symm
        have hd1 : decide (f ≤ r) = false := decide_eq_false h1
        go_wp2
        go_quiet (fail)
        go_wp2
        go_roundg k
        case measure => omega
        case rel => exact ⟨j + 1, by omega, by go_num, HR.out, below_drewG HB.out _⟩

/-! ### what may be a table, by the document -/
theorem lets_all {a b : Int} (hab : a ≤ b) (h : ∀ r, a ≤ r → r ≤ b → letB r = true) : letsB a b = true := by
  have key : ∀ r, a ≤ r → r ≤ b → (48 ≤ r ∧ r ≤ 57) ∨ (65 ≤ r ∧ r ≤ 90) ∨ (97 ≤ r ∧ r ≤ 122) ∨ (192 ≤ r ∧ r ≤ 214) ∨ (216 ≤ r ∧ r ≤ 246) ∨ (248 ≤ r ∧ r ≤ 591) ∨ (880 ≤ r ∧ r ≤ 1279) := fun r h1 h2 => by
    have := h r h1 h2
    simpa only [letB, letsB, letRows, List.any_cons, List.any_nil, Bool.or_false, Bool.or_eq_true, Bool.and_eq_true, decide_eq_true_iff] using this
  have ka := key a (Int.le_refl _) hab
  have kb := key b hab (Int.le_refl _)
  have e1 := key 58
  have e2 := key 91
  have e3 := key 123
  have e4 := key 215
  have e5 := key 247
  have e6 := key 592
  simp only [letsB, letRows, List.any_cons, List.any_nil, Bool.or_false, Bool.or_eq_true, Bool.and_eq_true, decide_eq_true_iff]
  omega
theorem noB_iff (x : Fd) : noB x = false ↔ NOk x.2.2 ∧ ∀ k : Nat, (k : Int) < x.2.2 → letB (x.1 + k) = true ∧ letB (x.2.1 + k) = true := by
  constructor
  · intro h
    obtain ⟨hn, l1, l2⟩ := no_lets h
    exact ⟨hn, fun k hk => ⟨lets_at l1 (by omega) (by omega), lets_at l2 (by omega) (by omega)⟩⟩
  · rintro ⟨⟨h1, h2⟩, h⟩
    have l1 : letsB x.1 (x.1 + x.2.2 - 1) = true := lets_all (by omega) (fun r a b => by
      have := (h (r - x.1).toNat (by omega)).1
      rwa [show x.1 + (((r - x.1).toNat : Nat) : Int) = r by omega] at this)
    have l2 : letsB x.2.1 (x.2.1 + x.2.2 - 1) = true := lets_all (by omega) (fun r a b => by
      have := (h (r - x.2.1).toNat (by omega)).2
      rwa [show x.2.1 + (((r - x.2.1).toNat : Nat) : Int) = r by omega] at this)
    unfold noB
    rw [l1, l2, decide_eq_false (show ¬ x.2.2 < 1 by omega), decide_eq_false (show ¬ 256 < x.2.2 by omega)]
    rfl
theorem letB_range {r : Int} (h : letB r = true) : 48 ≤ r ∧ r ≤ 1279 := by
  simp only [letB, letsB, letRows, List.any_cons, List.any_nil, Bool.or_false, Bool.or_eq_true, Bool.and_eq_true, decide_eq_true_iff] at h
  omega
def okR : Int → List Fd → Bool
  | _, [] => true
  | z, x :: xs => !noB x && !decide (x.1 ≤ z) && okR (x.1 + x.2.2 - 1) xs
theorem okR_all : ∀ (z : Int) (xs : List Fd), okR z xs = (!xs.any noB && riseL z xs)
  | _, [] => rfl
  | z, x :: xs => by
    unfold okR riseL
    rw [okR_all]
    simp only [List.any_cons]
    cases noB x <;> cases decide (x.1 ≤ z) <;> cases xs.any noB <;> simp
theorem tblB_eq (xs : List Fd) : tblB xs = (decide (xs.length ≤ 8) && okR (-1) xs && !twiceB xs) := by
  unfold tblB
  rw [okR_all]
  cases decide (xs.length ≤ 8) <;> simp
theorem atL_none : ∀ (xs : List Fd) (r : Int) (j : Nat), 0 ≤ atL xs r j ↔ ∃ y ∈ xs, y.1 ≤ r ∧ r - y.1 < y.2.2
  | [], r, j => by simp [atL]
  | x :: xs, r, j => by
    unfold atL
    by_cases h : x.1 ≤ r ∧ r - x.1 < x.2.2
    · rw [if_pos h]
      exact ⟨fun _ => ⟨x, List.mem_cons_self .., h⟩, fun _ => by omega⟩
    · rw [if_neg h, atL_none xs r (j + 1)]
      constructor
      · rintro ⟨y, hy, h1⟩; exact ⟨y, List.mem_cons_of_mem _ hy, h1⟩
      · rintro ⟨y, hy, h1⟩
        rcases List.mem_cons.1 hy with rfl | hy
        · exact absurd h1 h
        · exact ⟨y, hy, h1⟩
theorem twoB_iff (x : Fd) (xs : List Fd) (hx : 1 ≤ x.2.2) (hxs : ∀ y ∈ xs, 1 ≤ y.2.2) : twoB x xs = true ↔ ∃ k : Nat, (k : Int) < x.2.2 ∧ 0 ≤ atL xs (x.2.1 + k) 0 := by
  unfold twoB
  rw [List.any_eq_true]
  constructor
  · rintro ⟨y, hy, h⟩
    simp only [meetB, Bool.and_eq_true, decide_eq_true_iff] at h
    have hyn := hxs y hy
    by_cases hc : y.1 ≤ x.2.1
    · exact ⟨0, by omega, (atL_none _ _ _).2 ⟨y, hy, by omega, by omega⟩⟩
    · exact ⟨(y.1 - x.2.1).toNat, by omega, (atL_none _ _ _).2 ⟨y, hy, by omega, by omega⟩⟩
  · rintro ⟨k, hk, h⟩
    obtain ⟨y, hy, h1, h2⟩ := (atL_none _ _ _).1 h
    refine ⟨y, hy, ?_⟩
    simp only [meetB, Bool.and_eq_true, decide_eq_true_iff]
    omega

end Go.Proofs.YtimmfnjkknbofaaDoor
