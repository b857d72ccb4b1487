/- The document's own map (incipitref08.Map): AllocRun, Alloc; what its codes are. -/
import Derived.Test.YtbnhacibkmcmkaaDoorKRefN
namespace Go.Proofs.YtbnhacibkmcmkaaDoor
set_option maxRecDepth 20000
open Go.RowKit
set_option linter.unusedVariables false
set_option maxRecDepth 100000

/-- i pages from a on are new -/
def runC (c : Nat → Int) (a i : Nat) : Nat → Int := fun p => if a ≤ p ∧ p < a + i then 2 else c p
theorem runC_zero (c : Nat → Int) (a : Nat) : runC c a 0 = c := by funext p; rw [runC, if_neg (by omega)]
theorem runC_step (c : Nat → Int) (a i : Nat) : upd (runC c a i) (a + i) 2 = runC c a (i + 1) := by
  funext p
  unfold upd runC
  by_cases h : p = a + i
  · rw [if_pos h, if_pos (by omega)]
  · rw [if_neg h]
    by_cases h2 : a ≤ p ∧ p < a + i
    · rw [if_pos h2, if_pos (by omega)]
    · rw [if_neg h2, if_neg (by omega)]
theorem alF_code {n : Nat} {f g : Nat → Bool} {k a : Nat} (hk : 1 ≤ k) (hr : rowI n f g k = a) (hw : win (frF n f g) n k a) (p : Nat) : runC (codeP f g) a k p = codeP (alF n f g k) g p := by
  have e : alF n f g k p = (f p || decide (a ≤ p ∧ p < a + k)) := by
    rw [alF, if_neg (by omega), if_neg (by omega), hr]
    congr 1
    rw [decide_eq_decide]
    omega
  rw [runC, codeP, codeP, e]
  by_cases hp : a ≤ p ∧ p < a + k
  · rw [if_pos hp, decide_eq_true hp, Bool.or_true]
    have := hw.2 (p - a) (by omega)
    rw [show a + (p - a) = p by omega] at this
    rw [(frF_lt this).2.2]
    rfl
  · rw [if_neg hp, decide_eq_false hp, Bool.or_false]

set_option maxHeartbeats 4000000 in
theorem refRunM_any (w : World) (B r q n : Nat) (f g : Nat → Bool) (K : Int) (h : RefM w B r q n (codeP f g)) : Calls Tryd.prog 45 #[dp r, .int .i64 K] w fun e w' => e = .returned (.tuple #[.int .i64 (alV n f g K), .int .i64 (alE n f g K)]) ∧ RefM w' B r q n (codeP (alF n f g K) g) ∧ Only (· = q) w w' := by
  have HX := hide h
  have hn := h.hi
  have c0 := h.c0
  by_cases hK : K < 1
  · have HE : Hid (alV n f g K = 0 ∧ alE n f g K = 1 ∧ alF n f g K = f) := by
      refine ⟨?_, ?_, ?_⟩
      · rw [alV, if_pos hK]
      · rw [alE, if_pos hK]
      · rw [alF, if_pos hK]
    clear h
    go_enter Tryd.func45, Tryd.ntmps45
    go_wp2
    go_ret2
    obtain ⟨e1, e2, e3⟩ := HE.out
    rw [e1, e2, e3]
    exact ⟨rfl, HX.out, Only.refl _ _⟩
  · obtain ⟨k, rfl⟩ : ∃ k : Nat, K = k := ⟨K.toNat, by omega⟩
    have hk1 : 1 ≤ k := by omega
    have hk0 : ¬ (k : Int) < 1 := by omega
    have HNO : Hid (IsRun (frF n f g) n k (-1) → alV n f g k = 0 ∧ alE n f g k = 6 ∧ alF n f g k = f) := fun hr => by
      have e := (rowI_is hk1).uniq hr
      refine ⟨?_, ?_, ?_⟩
      · rw [alV, if_neg hk0, if_pos e]
      · rw [alE, if_neg hk0, if_pos e]
      · rw [alF, if_neg hk0, if_pos e]
    have HYES : Hid (∀ a : Nat, win (frF n f g) n k a → (∀ p, p < a → ¬ win (frF n f g) n k p) → alV n f g k = a ∧ alE n f g k = 0 ∧ ∀ p, runC (codeP f g) a k p = codeP (alF n f g k) g p) := fun a hw hl => by
      have e : rowI n f g k = a := (rowI_is hk1).uniq (.inr ⟨a, rfl, hw, hl⟩)
      have hne : ¬ rowI n f g k = -1 := by omega
      refine ⟨?_, ?_, alF_code hk1 e hw⟩
      · rw [alV, if_neg hk0, if_neg hne, e]
      · rw [alE, if_neg hk0, if_neg hne]
    have HFR : Hid (∀ p, p < n → (codeP f g p = 0 ↔ frF n f g p = true)) := fun p hp => codeP_free hp
    obtain ⟨fr, hfr⟩ : ∃ fr, frF n f g = fr := ⟨_, rfl⟩
    obtain ⟨c, hc⟩ : ∃ c, codeP f g = c := ⟨_, rfl⟩
    rw [hfr] at HNO HYES HFR
    rw [hc] at HX HYES HFR
    have HC := hide hc
    clear h hfr hc hK
    go_enter Tryd.func45, Tryd.ntmps45
    go_wp2
    go_loopg [6] n (fun gg kv wr => ∃ a : Nat, gg + a = n ∧ kv = .int .i64 a ∧ wr = w ∧ ∀ p, p < a → ¬ win fr n k p)
    case atStart => exact ⟨0, rfl, rfl, rfl, fun p hp => by omega⟩
    case round =>
      obtain ⟨a, ha, rfl, hwr0, hlow⟩ := hrel
      subst wr
      have HLOW := hide hlow
      clear hlow
      cases gk with
      | zero =>
        obtain rfl : a = n := by omega
        have h3 : ¬ (a : Int) < (a : Int) := by omega
        clear ha
        go_wp2
        go_ret2
        obtain ⟨e1, e2, e3⟩ := HNO.out (.inl ⟨rfl, fun p hw => by
          rcases Nat.lt_or_ge p a with hp | hp
          · exact HLOW.out p hp hw
          · have := hw.1; omega⟩)
        rw [e1, e2, e3, HC.out]
        exact ⟨rfl, HX.out, Only.refl _ _⟩
      | succ gg =>
        have h3 : (a : Int) < (n : Int) := by omega
        have han : a < n := by omega
        obtain ⟨D, hD⟩ : ∃ D, n - a = D := ⟨_, rfl⟩
        have hsub : (n : Int) - (a : Int) = (D : Int) := by omega
        have hDw := wrap_i64_in D (by omega)
        by_cases hkD : k ≤ D
        · have hkDi : (k : Int) ≤ (D : Int) := by omega
          obtain ⟨S, hS⟩ : ∃ S, a + k = S := ⟨_, rfl⟩
          have hadd : (a : Int) + (k : Int) = (S : Int) := by omega
          have hSn : S ≤ n := by omega
          have hSw := wrap_i64_in S (by omega)
          have HS := hide hS
          have haS : a ≤ S := by omega
          clear hD hS hkD
          go_wp2
          go_loopg [7, 8] k (fun g2 fv xv wr => ∃ (j I : Nat) (fl : Bool), g2 + j = k ∧ a + j = I ∧ xv = .int .i64 I ∧ wr = w ∧ fv = .bool fl ∧ (fl = true ↔ ∀ i, i < j → fr (a + i) = true))
          case atStart => exact ⟨0, a, true, by omega, by omega, rfl, rfl, rfl, ⟨fun _ i hi => by omega, fun _ => rfl⟩⟩
          case round =>
            obtain ⟨j, I, fl, hj, hI, rfl, hwr0, rfl, hfl⟩ := hrel
            subst wr
            have HFL := hide hfl
            have HI := hide hI
            cases gk with
            | zero =>
              obtain rfl : I = S := by have := HS.out; omega
              obtain rfl : j = k := by omega
              have h4 : ¬ (I : Int) < (I : Int) := by omega
              clear hfl hI hj
              cases fl with
              | false =>
                go_wp2
                go_roundg gg
                case measure => omega
                case rel =>
                  refine ⟨a + 1, by omega, by go_num, rfl, fun p hp hw => ?_⟩
                  by_cases hpa : p = a
                  · subst hpa
                    have := HFL.out.2 hw.2
                    cases this
                  · exact HLOW.out p (by omega) hw
              | true =>
                have HW : Hid (win fr n j a) := ⟨by have := HS.out; omega, HFL.out.1 rfl⟩
                clear HFL HI
                go_wp2
                go_loopg [9] j (fun g4 xv wr => ∃ (i X : Nat), g4 + i = j ∧ a + i = X ∧ xv = .int .i64 X ∧ RefM wr B r q n (runC c a i) ∧ Only (· = q) w wr)
                case atStart => exact ⟨0, a, by omega, by omega, rfl, by rw [runC_zero]; exact HX.out, Only.refl _ _⟩
                case round =>
                  obtain ⟨i, X, hi, hX, rfl, hr, ho⟩ := hrel
                  have HR := hide hr
                  have HO := hide ho
                  have c0 := hr.c0
                  cases gk with
                  | zero =>
                    obtain rfl : X = I := by have := HS.out; omega
                    obtain rfl : i = j := by omega
                    clear hr ho hi hX
                    go_wp2
                    go_ret2
                    obtain ⟨e1, e2, e3⟩ := HYES.out a HW.out HLOW.out
                    rw [e1, e2]
                    exact ⟨rfl, HR.out.congr (fun p _ => e3 p), HO.out⟩
                  | succ g5 =>
                    have h5 : (X : Int) < (I : Int) := by have := HS.out; omega
                    have hXn : X < n := by have := HS.out; omega
                    have hXi : (X : Int) < (n : Int) := by omega
                    have cp := hr.cp X hXn
                    have fp : wr.frozen? ⟨q, X, none⟩ = false := hr.row.frozen _
                    have HSN : Hid (upd (runC c a i) X 2 = runC c a (i + 1)) := by show _ = _; rw [← hX]; exact runC_step c a i
                    have HXX := hide hX
                    clear hr ho hX
                    go_wp2
                    go_roundg g5
                    case measure => omega
                    case rel => exact ⟨i + 1, X + 1, by omega, by have := HXX.out; omega, by go_num, by rw [← HSN.out]; exact HR.out.set X 2, only_trans HO.out (only_set q X _)⟩
            | succ g3 =>
              have h4 : (I : Int) < (S : Int) := by have := HS.out; omega
              have hIn : I < n := by omega
              have hIi : (I : Int) < (n : Int) := by omega
              have cp := HX.out.cp I hIn
              have HF2 := HFR.out I hIn
              cases fl with
              | false =>
                have HNF : Hid (false = true ↔ ∀ i, i < j + 1 → fr (a + i) = true) := ⟨fun h => (by cases h), fun h => HFL.out.2 (fun i hi => h i (by omega))⟩
                clear hfl hI HFL HF2
                go_wp2
                go_roundg g3
                case measure => omega
                case rel => exact ⟨j + 1, I + 1, false, by omega, by have := HI.out; omega, by go_num, rfl, rfl, HNF.out⟩
              | true =>
                obtain ⟨x, hx⟩ : ∃ x, c I = x := ⟨_, rfl⟩
                rw [hx] at cp HF2
                have hall := hfl.1 rfl
                by_cases hx0 : x = 0
                · subst hx0
                  have HNF : Hid (true = true ↔ ∀ i, i < j + 1 → fr (a + i) = true) := ⟨fun _ i hi => by
                    by_cases hij : i = j
                    · subst hij; rw [hI]; exact HF2.1 rfl
                    · exact hall i (by omega), fun _ => rfl⟩
                  clear hfl hI HFL HF2 hall hx
                  go_wp2
                  go_roundg g3
                  case measure => omega
                  case rel => exact ⟨j + 1, I + 1, true, by omega, by have := HI.out; omega, by go_num, rfl, rfl, ⟨fun _ => HNF.out.1 trivial, fun _ => rfl⟩⟩
                · have HNF : Hid (false = true ↔ ∀ i, i < j + 1 → fr (a + i) = true) := ⟨fun h => (by cases h), fun h => absurd (HF2.2 (by rw [← hI]; exact h j (by omega))) hx0⟩
                  have hxb : (x == 0) = false := by simpa using hx0
                  clear hfl hI HFL HF2 hall hx
                  go_wp2
                  go_roundg g3
                  case measure => omega
                  case rel => exact ⟨j + 1, I + 1, false, by omega, by have := HI.out; omega, by go_num, rfl, rfl, HNF.out⟩
        · have hkDi : ¬ (k : Int) ≤ (D : Int) := by omega
          have HDD := hide hD
          clear hD
          go_wp2
          go_ret2
          obtain ⟨e1, e2, e3⟩ := HNO.out (.inl ⟨rfl, fun p hw => by
            rcases Nat.lt_or_ge p a with hp | hp
            · exact HLOW.out p hp hw
            · have := hw.1; have := HDD.out; omega⟩)
          rw [e1, e2, e3, HC.out]
          exact ⟨rfl, HX.out, Only.refl _ _⟩

theorem refAllocM_any (w : World) (B r q n : Nat) (f g : Nat → Bool) (h : RefM w B r q n (codeP f g)) : Calls Tryd.prog 44 #[dp r] w fun e w' => e = .returned (.tuple #[.int .i64 (alV n f g 1), .int .i64 (alE n f g 1)]) ∧ RefM w' B r q n (codeP (alF n f g 1) g) ∧ Only (· = q) w w' := by
  have HA := hide (refRunM_any w B r q n f g 1 h)
  clear h
  go_enter Tryd.func44, Tryd.ntmps44
  go_wp2_with (first
    | (go_at_call 45; refine HA.out.mono ?_; rintro e w2 ⟨rfl, hm, ho⟩; have HM := hide hm; have HO := hide ho; clear HA hm ho))
  go_ret2
  exact ⟨rfl, HM.out, HO.out⟩

end Go.Proofs.YtbnhacibkmcmkaaDoor
