/- Words of a text (pure): rows of letters, their bytes, their terms. No program. -/
import Derived.Test.YtimmfnjkknbofaaDoorJFTwo
import Derived.Test.YtimmfnjkknbofaaDoorJFCount
namespace Go.Proofs.YtimmfnjkknbofaaDoor
set_option maxRecDepth 20000
open Go.RowKit
set_option linter.unusedVariables false
set_option linter.unusedSimpArgs false
set_option maxRecDepth 100000

def letN (r : Nat) : Bool := letB (r : Int)
theorem letN_lt {r : Nat} (h : letN r = true) : 48 ≤ r ∧ r ≤ 1279 := by
  unfold letN letB at h
  simp only [letsB, letRows, List.any_cons, List.any_nil, Bool.or_false, Bool.or_eq_true, Bool.and_eq_true, decide_eq_true_iff] at h
  omega
theorem letN_rune {r : Nat} (h : letN r = true) : runeB (r : Int) = true := by
  have := letN_lt h
  exact runeB_yes (by omega) (by omega) (by omega)
theorem letN_len {r : Nat} (h : letN r = true) : 1 ≤ (formL (r : Int)).length ∧ (formL (r : Int)).length ≤ 2 := by
  have hl := letN_lt h
  have hr := letN_rune h
  by_cases c : (r : Int) < 128
  · rw [formL_1 hr c]; simp
  · rw [formL_2 hr c (by omega)]; simp
/-- the bytes of runes -/
def fmL (l : List Nat) : List Int := l.flatMap fun r : Nat => formL (r : Int)
theorem fmL_cons (r : Nat) (l : List Nat) : fmL (r :: l) = formL (r : Int) ++ fmL l := by simp [fmL]
theorem fmL_app (a b : List Nat) : fmL (a ++ b) = fmL a ++ fmL b := by simp [fmL]
theorem fmL_nil : fmL [] = [] := rfl
theorem fmL_ok (l : List Nat) : ByteOk (fmL l) := by
  intro z hz
  obtain ⟨q, _, hq⟩ := List.mem_flatMap.1 hz
  exact form_ok _ z hq
/-- the runes of bytes, without where they are -/
def rs (zs : List Int) : List Nat := (runesN zs).map (·.2)
theorem rs_len (zs : List Int) : (rs zs).length ≤ zs.length := by
  unfold rs
  rw [List.length_map]
  exact runesN_len zs
theorem rs_fm (l : List Nat) (h : ∀ r ∈ l, runeB (r : Int) = true) : rs (fmL l) = l := runes_forms l _ 0 h (Nat.le_refl _)
theorem rs_fmLet (l : List Nat) (h : ∀ r ∈ l, letN r = true) : rs (fmL l) = l := rs_fm l (fun r hr => letN_rune (h r hr))
theorem rnL_rs (f p : Nat) (b : List Int) (h : b.length ≤ f) : (rnL f p b).map (·.2) = rs b := by
  unfold rs runesN
  have e := rnL_shift p b.length 0 b
  rw [Nat.add_zero] at e
  rw [rnL_fuel f b.length p b h (Nat.le_refl _), e, List.map_map]
  rfl
theorem rs_nil : rs [] = [] := rfl
theorem rs_on {b : List Int} (hne : b ≠ []) : rs b = (decN b).1 :: rs (b.drop (decN b).2) := by
  have hl := List.length_pos_iff.2 hne
  have hp := decN_pos b hne
  have e := rnL_rs ((b.length - 1) + 1) 0 b (by omega)
  rw [← e, rnL_on _ 0 hne, List.map_cons, rnL_rs _ _ _ (by simp; omega)]

/-- rows of letters -/
def wdsG : List Nat → List Nat → List (List Nat)
  | cur, [] => if cur = [] then [] else [cur]
  | cur, r :: l => if letN r = true then wdsG (cur ++ [r]) l else if cur = [] then wdsG [] l else cur :: wdsG [] l
def wds (l : List Nat) : List (List Nat) := wdsG [] l
theorem wdsG_on (cur : List Nat) {r : Nat} (l : List Nat) (h : letN r = true) : wdsG cur (r :: l) = wdsG (cur ++ [r]) l := by
  show (if letN r = true then _ else _) = _
  rw [if_pos h]
theorem wdsG_off {cur : List Nat} (hc : cur ≠ []) {r : Nat} (l : List Nat) (h : letN r = false) : wdsG cur (r :: l) = cur :: wds l := by
  show (if letN r = true then _ else if cur = [] then _ else _) = _
  rw [if_neg (by rw [h]; simp), if_neg hc]
  rfl
theorem wds_nil : wds [] = [] := rfl
theorem wds_no {r : Nat} (l : List Nat) (h : letN r = false) : wds (r :: l) = wds l := by
  show (if letN r = true then _ else if ([] : List Nat) = [] then _ else _) = _
  rw [if_neg (by rw [h]; simp), if_pos rfl]
  rfl
theorem wdsG_cur : ∀ (l cur : List Nat), cur ≠ [] → wdsG cur l = (cur ++ l.takeWhile letN) :: wds (l.dropWhile letN)
  | [], cur, h => by
    show (if cur = [] then _ else _) = _
    rw [if_neg h]
    simp [wds_nil]
  | r :: l, cur, h => by
    cases hr : letN r with
    | true =>
      rw [wdsG_on cur l hr, wdsG_cur l _ (by simp), List.takeWhile_cons_of_pos hr, List.dropWhile_cons_of_pos hr]
      simp
    | false =>
      rw [wdsG_off h l hr, List.takeWhile_cons_of_neg (by rw [hr]; simp), List.dropWhile_cons_of_neg (by rw [hr]; simp), wds_no l hr]
      simp
theorem wds_yes {r : Nat} (l : List Nat) (h : letN r = true) : wds (r :: l) = (r :: l.takeWhile letN) :: wds (l.dropWhile letN) := by
  show wdsG [] (r :: l) = _
  rw [wdsG_on [] l h, List.nil_append, wdsG_cur l [r] (by simp)]
  rfl
theorem wdsG_len : ∀ (l cur : List Nat), (wdsG cur l).length ≤ l.length + (if cur = [] then 0 else 1)
  | [], cur => by
    show (if cur = [] then _ else _ : List (List Nat)).length ≤ _
    split <;> simp
  | r :: l, cur => by
    cases hr : letN r with
    | true =>
      rw [wdsG_on cur l hr]
      have := wdsG_len l (cur ++ [r])
      rw [if_neg (by simp)] at this
      simp only [List.length_cons]
      split <;> omega
    | false =>
      have := wdsG_len l []
      rw [if_pos rfl] at this
      by_cases hc : cur = []
      · subst hc
        have e : wdsG [] (r :: l) = wdsG [] l := wds_no l hr
        rw [e]
        simp only [List.length_cons]
        omega
      · rw [wdsG_off hc l hr, if_neg hc]
        simp only [List.length_cons, wds]
        omega
theorem wds_len (l : List Nat) : (wds l).length ≤ l.length := by
  have := wdsG_len l []
  rw [if_pos rfl] at this
  exact this
theorem takeWhile_all {p : Nat → Bool} : ∀ (l : List Nat), ∀ x ∈ l.takeWhile p, p x = true
  | [], x, h => by cases h
  | r :: l, x, h => by
    cases hr : p r with
    | true =>
      rw [List.takeWhile_cons_of_pos hr] at h
      rcases List.mem_cons.1 h with rfl | h
      · exact hr
      · exact takeWhile_all l x h
    | false => rw [List.takeWhile_cons_of_neg (by rw [hr]; simp)] at h; cases h
theorem wdsG_in : ∀ (l cur : List Nat), (∀ r ∈ cur, letN r = true) → ∀ x ∈ wdsG cur l, x ≠ [] ∧ ∀ r ∈ x, letN r = true
  | [], cur, hc, x, hx => by
    change x ∈ (if cur = [] then _ else _ : List (List Nat)) at hx
    split at hx
    · cases hx
    · rename_i h
      rw [List.mem_singleton.1 hx]
      exact ⟨h, hc⟩
  | r :: l, cur, hc, x, hx => by
    cases hr : letN r with
    | true =>
      rw [wdsG_on cur l hr] at hx
      refine wdsG_in l (cur ++ [r]) (fun q hq => ?_) x hx
      rcases List.mem_append.1 hq with h | h
      · exact hc q h
      · rw [List.mem_singleton.1 h]; exact hr
    | false =>
      by_cases he : cur = []
      · subst he
        rw [show wdsG [] (r :: l) = wdsG [] l from wds_no l hr] at hx
        exact wdsG_in l [] (fun _ h => by cases h) x hx
      · rw [wdsG_off he l hr] at hx
        rcases List.mem_cons.1 hx with rfl | h
        · exact ⟨he, hc⟩
        · exact wdsG_in l [] (fun _ h => by cases h) x h
theorem wds_in (l : List Nat) : ∀ x ∈ wds l, x ≠ [] ∧ ∀ r ∈ x, letN r = true := wdsG_in l [] (fun _ h => by cases h)
theorem wdsG_app {c : Nat} (hc : letN c = false) (b : List Nat) : ∀ (a cur : List Nat), wdsG cur (a ++ c :: b) = wdsG cur a ++ wds b
  | [], cur => by
    by_cases he : cur = []
    · subst he
      exact wds_no b hc
    · rw [List.nil_append, wdsG_off he b hc]
      show _ = (if cur = [] then _ else _) ++ _
      rw [if_neg he]
      rfl
  | r :: a, cur => by
    rw [List.cons_append]
    cases hr : letN r with
    | true => rw [wdsG_on cur _ hr, wdsG_on cur _ hr, wdsG_app hc b a]
    | false =>
      by_cases he : cur = []
      · subst he
        have e1 : wdsG [] (r :: (a ++ c :: b)) = wdsG [] (a ++ c :: b) := wds_no _ hr
        have e2 : wdsG [] (r :: a) = wdsG [] a := wds_no _ hr
        rw [e1, e2, wdsG_app hc b a]
      · rw [wdsG_off he _ hr, wdsG_off he _ hr]
        unfold wds
        rw [wdsG_app hc b a]
        rfl
theorem wds_app {c : Nat} (hc : letN c = false) (a b : List Nat) : wds (a ++ c :: b) = wds a ++ wds b := wdsG_app hc b a []
theorem wdsG_map (f : Nat → Nat) (hf : ∀ r, letN (f r) = letN r) : ∀ (l cur : List Nat), wdsG (cur.map f) (l.map f) = (wdsG cur l).map (List.map f)
  | [], cur => by
    show (if cur.map f = [] then _ else _) = (if cur = [] then _ else _ : List (List Nat)).map _
    by_cases he : cur = []
    · subst he; rfl
    · rw [if_neg he, if_neg (by simpa using he)]; rfl
  | r :: l, cur => by
    rw [List.map_cons]
    cases hr : letN r with
    | true =>
      rw [wdsG_on cur l hr, wdsG_on _ _ (by rw [hf]; exact hr), ← wdsG_map f hf l]
      simp
    | false =>
      have hr2 : letN (f r) = false := by rw [hf]; exact hr
      by_cases he : cur = []
      · subst he
        have e1 : wdsG [] (r :: l) = wdsG [] l := wds_no _ hr
        have e2 : wdsG [] (f r :: l.map f) = wdsG [] (l.map f) := wds_no _ hr2
        rw [e1, List.map_nil, e2]
        exact wdsG_map f hf l []
      · rw [wdsG_off he _ hr, wdsG_off (by simpa using he) _ hr2, List.map_cons]
        unfold wds
        rw [← wdsG_map f hf l []]
        rfl
theorem wds_map (f : Nat → Nat) (hf : ∀ r, letN (f r) = letN r) (l : List Nat) : wds (l.map f) = (wds l).map (List.map f) := wdsG_map f hf l []
theorem takeWhile_eq {p : Nat → Bool} : ∀ (l : List Nat), (∀ x ∈ l, p x = true) → l.takeWhile p = l ∧ l.dropWhile p = []
  | [], _ => ⟨rfl, rfl⟩
  | r :: l, h => by
    have hr := h r (List.mem_cons_self ..)
    obtain ⟨h1, h2⟩ := takeWhile_eq l (fun x hx => h x (List.mem_cons_of_mem _ hx))
    rw [List.takeWhile_cons_of_pos hr, List.dropWhile_cons_of_pos hr, h1, h2]
    exact ⟨rfl, rfl⟩
theorem wds_one {l : List Nat} (hne : l ≠ []) (h : ∀ r ∈ l, letN r = true) : wds l = [l] := by
  match l, hne with
  | r :: l, _ =>
    obtain ⟨h1, h2⟩ := takeWhile_eq l (fun x hx => h x (List.mem_cons_of_mem _ hx))
    rw [wds_yes l (h r (List.mem_cons_self ..)), h1, h2]
    rfl

/-- the letters that bytes begin with -/
def ledR (zs : List Int) : List Nat := (rs zs).takeWhile letN
theorem ledR_let (zs : List Int) : ∀ r ∈ ledR zs, letN r = true := takeWhile_all _
theorem dec_65533 : letN 65533 = false := by decide
theorem led_on {b : List Int} (hb : ByteOk b) (hne : b ≠ []) (h : letN (decN b).1 = true) : formL ((decN b).1 : Int) <+: b ∧ (decN b).2 = (formL ((decN b).1 : Int)).length := by
  rcases dec_is hb hne with ⟨r, h1, h2, h3⟩ | ⟨h3, _⟩
  · rw [h3]; exact ⟨h2, rfl⟩
  · rw [h3, dec_65533] at h; cases h
theorem led_pre : ∀ (n : Nat) (b : List Int), ByteOk b → b.length ≤ n → fmL (ledR b) <+: b
  | 0, b, _, hl => by
    obtain rfl : b = [] := List.eq_nil_of_length_eq_zero (by omega)
    exact List.nil_prefix
  | n + 1, b, hb, hl => by
    by_cases hne : b = []
    · subst hne; exact List.nil_prefix
    · unfold ledR
      rw [rs_on hne]
      cases hr : letN (decN b).1 with
      | false => rw [List.takeWhile_cons_of_neg (by rw [hr]; simp)]; exact List.nil_prefix
      | true =>
        obtain ⟨⟨t, ht⟩, h2⟩ := led_on hb hne hr
        have hpos := (letN_len hr).1
        rw [List.takeWhile_cons_of_pos hr, fmL_cons, h2]
        obtain ⟨F, hF⟩ : ∃ F, formL ((decN b).1 : Int) = F := ⟨_, rfl⟩
        rw [hF] at ht hpos ⊢
        have hd : b.drop F.length = t := by rw [← ht]; simp
        rw [hd]
        obtain ⟨u, hu⟩ := led_pre n t (fun z hz => hb z (by rw [← ht]; exact List.mem_append_right _ hz)) (by
          have h3 := congrArg List.length ht
          simp only [List.length_append] at h3
          omega)
        refine ⟨u, ?_⟩
        rw [List.append_assoc]
        show _ ++ (fmL (ledR t) ++ u) = b
        rw [hu, ht]
theorem led_take {b : List Int} (hb : ByteOk b) : b.take (fmL (ledR b)).length = fmL (ledR b) := by
  obtain ⟨t, ht⟩ := led_pre _ b hb (Nat.le_refl _)
  generalize fmL (ledR b) = F at *
  rw [← ht]
  simp

/-- a rune folded -/
def foldN (us : List Fd) (r : Nat) : Nat := (foldL us (r : Int)).toNat
theorem foldN_at (xs : List Fd) {r : Nat} (hr : runeB (r : Int) = true) : ((foldN (useL xs) r : Nat) : Int) = foldL (useL xs) (r : Int) := foldR_at xs r hr
theorem foldN_let (xs : List Fd) {r : Nat} (hr : runeB (r : Int) = true) : letN (foldN (useL xs) r) = letN r := by
  unfold letN
  rw [foldN_at xs hr, fold_letter]
theorem foldN_rune (xs : List Fd) {r : Nat} (hr : runeB (r : Int) = true) : runeB ((foldN (useL xs) r : Nat) : Int) = true := by
  rw [foldN_at xs hr]
  exact fold_rune xs _ hr
theorem foldN_twice (xs : List Fd) {r : Nat} (hr : runeB (r : Int) = true) : foldN (useL xs) (foldN (useL xs) r) = foldN (useL xs) r := by
  unfold foldN
  have := foldN_at xs hr
  unfold foldN at this
  rw [this, fold_twice]
/-- a word's term: its runes -/
def termR (us : List Fd) (cap : Nat) (l : List Nat) : List Nat := (l.take cap).map (foldN us)
/-- and its bytes -/
def termZ (us : List Fd) (cap : Nat) (l : List Nat) : List Int := fmL (termR us cap l)
theorem termR_let (xs : List Fd) (cap : Nat) {l : List Nat} (h : ∀ r ∈ l, letN r = true) : ∀ r ∈ termR (useL xs) cap l, letN r = true := by
  intro r hr
  obtain ⟨q, hq, rfl⟩ := List.mem_map.1 hr
  have hl := h q (List.mem_of_mem_take hq)
  rw [foldN_let xs (letN_rune hl)]
  exact hl
theorem termR_twice (xs : List Fd) (cap : Nat) {l : List Nat} (h : ∀ r ∈ l, letN r = true) : termR (useL xs) cap (termR (useL xs) cap l) = termR (useL xs) cap l := by
  unfold termR
  rw [← List.map_take, List.take_take, Nat.min_self, List.map_map]
  apply List.map_congr_left
  intro r hr
  exact foldN_twice xs (letN_rune (h r (List.mem_of_mem_take hr)))
theorem fold_text (xs : List Fd) (l : List Nat) (h : ∀ r ∈ l, runeB (r : Int) = true) : foldZ (useL xs) (runesN (fmL l)) = fmL (l.map (foldN (useL xs))) := by
  rw [foldZ_forms xs _ (runesN_valid (fmL_ok l)), foldR_snd]
  have : (runesN (fmL l)).map (·.2) = l := rs_fm l h
  rw [this]
  rfl
theorem term_text (xs : List Fd) (cap : Nat) (l : List Nat) (h : ∀ r ∈ l, letN r = true) : foldZ (useL xs) (runesN (fmL (l.take cap))) = termZ (useL xs) cap l :=
  fold_text xs (l.take cap) (fun r hr => letN_rune (h r (List.mem_of_mem_take hr)))
theorem fmL_len2 : ∀ (l : List Nat), (∀ r ∈ l, letN r = true) → l.length ≤ (fmL l).length ∧ (fmL l).length ≤ 2 * l.length
  | [], _ => ⟨Nat.le_refl _, Nat.le_refl _⟩
  | r :: l, h => by
    have h1 := letN_len (h r (List.mem_cons_self ..))
    have h2 := fmL_len2 l (fun x hx => h x (List.mem_cons_of_mem _ hx))
    rw [fmL_cons]
    simp only [List.length_append, List.length_cons]
    omega
theorem fmL_inj {a b : List Nat} (ha : ∀ r ∈ a, runeB (r : Int) = true) (hb : ∀ r ∈ b, runeB (r : Int) = true) (h : fmL a = fmL b) : a = b := by
  have := congrArg rs h
  rwa [rs_fm a ha, rs_fm b hb] at this

end Go.Proofs.YtimmfnjkknbofaaDoor
