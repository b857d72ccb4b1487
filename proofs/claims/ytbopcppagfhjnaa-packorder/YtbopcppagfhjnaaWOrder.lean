/- The walk of the statement PackOrder: of two numbers of one width the lesser one's bytes stand ahead. -/
import Derived.Test.YtbopcppagfhjnaaPutNum
import Derived.Test.YtbopcppagfhjnaaLive
import Derived.OpenShut
namespace Go.Proofs.Ytbopcppagfhjnaa
open Go.RowKit

def ordI (x y : Int) : Int := if x < y then -1 else if y < x then 1 else 0

theorem cmp_snoc : ∀ (p q : List Int) (x y : Int), p.length = q.length → cmp (p ++ [x]) (q ++ [y]) = if cmp p q = 0 then ordI x y else cmp p q
  | [], [], x, y, _ => by simp [cmp, ordI]
  | [], _ :: _, _, _, h => by simp at h
  | _ :: _, [], _, _, h => by simp at h
  | a :: p, b :: q, x, y, h => by
    have ih := cmp_snoc p q x y (by simpa using h)
    simp only [List.cons_append, cmp]
    by_cases h1 : a < b
    · simp [h1]
    · by_cases h2 : b < a
      · simp [h1, h2]
      · simp [h1, h2, ih]

theorem cmp_num : ∀ (n a b : Nat), a < 256 ^ n → b < 256 ^ n → cmp (numBytes a n) (numBytes b n) = ordI a b
  | 0, a, b, ha, hb => by
    have h1 : a = 0 := by simpa using ha
    have h2 : b = 0 := by simpa using hb
    subst h1 h2; rfl
  | n + 1, a, b, ha, hb => by
    rw [Nat.pow_succ] at ha hb
    rw [numBytes, numBytes, cmp_snoc _ _ _ _ (by rw [numBytes_len, numBytes_len]), cmp_num n (a / 256) (b / 256) (by omega) (by omega)]
    unfold ordI
    repeat (first | split | omega)

theorem order_any (x y : Int) (w : World) :
    Calls Try.prog 39 #[.int .u64 x, .int .u64 y] w fun e w' => e = .returned (.int .i64 (ordI x y)) ∧ w' = w := by
  by_cases h1 : x < y
  · have e : ordI x y = -1 := by simp [ordI, h1]
    go_enter Try.func39, Try.ntmps39
    go_wp2
    go_ret
    first | exact ⟨ret_int e.symm, rfl⟩ | exact ⟨rfl, rfl⟩
  · have d1 : decide (x < y) = false := decide_eq_false h1
    by_cases h2 : y < x
    · have e : ordI x y = 1 := by simp [ordI, h1, h2]
      go_enter Try.func39, Try.ntmps39
      go_wp2
      go_ret
      first | exact ⟨ret_int e.symm, rfl⟩ | exact ⟨rfl, rfl⟩
    · have d2 : decide (y < x) = false := decide_eq_false h2
      have e : ordI x y = 0 := by simp [ordI, h1, h2]
      go_enter Try.func39, Try.ntmps39
      go_wp2
      go_ret
      first | exact ⟨ret_int e.symm, rfl⟩ | exact ⟨rfl, rfl⟩

theorem num_sl {w : World} {base : Nat} {e : TypeId} {u : Value} {v n : Nat} (h : w.ownsRow base e 1 u ([] ++ numBytes v n).length (([] ++ numBytes v n).map (Value.int .u8))) : Sl w u (numBytes v n) := by
  rw [List.nil_append] at h
  exact sl_of_own_len h (numBytes_ok n v)

set_option maxHeartbeats 1000000 in
theorem packOrder_walk (w : World) (a b : Int) (ha : (Lit.int .u64 a).wf = true) (hb : (Lit.int .u64 b).wf = true) :
    Calls Try.prog 7 #[.int .u64 a, .int .u64 b] w fun e w' => e = .returned (.bool true) ∧ Below w.heap.size w w' := by
  have ba := bounds_u64 ha
  have bb := bounds_u64 hb
  obtain ⟨A, rfl⟩ : ∃ A : Nat, a = A := ⟨a.toNat, by omega⟩
  obtain ⟨B, rfl⟩ : ∃ B : Nat, b = B := ⟨b.toNat, by omega⟩
  clear ha hb
  have hA : A < 18446744073709551616 := by omega
  have hB : B < 18446744073709551616 := by omega
  have K8 := hide (cmp_num 8 A B (by omega) (by omega))
  have K4 : Hid (cmp (numBytes (A % 4294967296) 4) (numBytes (B % 4294967296) 4) = ordI ((A : Int) % 4294967296) ((B : Int) % 4294967296)) := by
    have := cmp_num 4 (A % 4294967296) (B % 4294967296) (by omega) (by omega)
    show _ = _
    rw [this]; congr 1
  have K2 : Hid (cmp (numBytes (A % 65536) 2) (numBytes (B % 65536) 2) = ordI ((A : Int) % 65536) ((B : Int) % 65536)) := by
    have := cmp_num 2 (A % 65536) (B % 65536) (by omega) (by omega)
    show _ = _
    rw [this]; congr 1
  have H8 : ∀ (v : Nat), v < 18446744073709551616 → ∀ w, Calls Try.prog 15 #[.slice none 0 0, .int .u64 v] w fun e w' => ∃ u, e = .returned u ∧ Sl w' u (numBytes v 8) ∧ Below w.heap.size w w' := fun v hv w => (packU64_any w _ [] v (Sl.nil w) (by simp) hv).mono (by rintro e w' ⟨u, rfl, ho, hb, _⟩; exact ⟨u, rfl, num_sl ho, hb⟩)
  have H4 : ∀ (v : Nat), ∀ w, Calls Try.prog 14 #[.slice none 0 0, .int .u32 ((v : Int) % 4294967296)] w fun e w' => ∃ u, e = .returned u ∧ Sl w' u (numBytes (v % 4294967296) 4) ∧ Below w.heap.size w w' := fun v w => (packU32_any w _ [] (v % 4294967296) (Sl.nil w) (by simp) (by omega)).mono (by rintro e w' ⟨u, rfl, ho, hb, _⟩; exact ⟨u, rfl, num_sl ho, hb⟩)
  have H2 : ∀ (v : Nat), ∀ w, Calls Try.prog 13 #[.slice none 0 0, .int .u16 ((v : Int) % 65536)] w fun e w' => ∃ u, e = .returned u ∧ Sl w' u (numBytes (v % 65536) 2) ∧ Below w.heap.size w w' := fun v w => (packU16_any w _ [] (v % 65536) (Sl.nil w) (by simp) (by omega)).mono (by rintro e w' ⟨u, rfl, ho, hb, _⟩; exact ⟨u, rfl, num_sl ho, hb⟩)
  have G8 := hide H8
  have G4 := hide H4
  have G2 := hide H2
  clear H8 H4 H2
  go_enter Try.func7, Try.ntmps7
  go_wp2_with (first
    | (go_at_call 9; refine (live_any w).mono ?_; rintro e w1 ⟨rfl, hb1⟩)
    | (go_at_call 15; refine (G8.out A hA w1).mono ?_; rintro e w2 ⟨u1, rfl, hs1, hc2⟩; have hb2 := below_then hb1 hc2 (Nat.le_refl _); clear hc2 hb1)
    | (go_at_call 15; refine (G8.out B hB w2).mono ?_; rintro e w3 ⟨u2, rfl, hs2, hc3⟩; have hb3 := below_then hb2 hc3 (Nat.le_refl _); have hs1' := hs1.below hc3; clear hc3 hb2 hs1)
    | (go_at_call 30; refine (packCompare_any w3 _ _ _ _ hs1' hs2).mono ?_; rw [K8.out]; rintro e w4 ⟨rfl, hw⟩; subst w4)
    | (go_at_call 39; refine (order_any _ _ _).mono ?_; rintro e w4 ⟨rfl, hw⟩; subst w4)
    | (go_at_call 14; refine (G4.out A w3).mono ?_; rintro e w5 ⟨u5, rfl, hs5, hc5⟩; have hb5 := below_then hb3 hc5 (Nat.le_refl _); clear hc5 hb3)
    | (go_at_call 14; refine (G4.out B w5).mono ?_; rintro e w6 ⟨u6, rfl, hs6, hc6⟩; have hb6 := below_then hb5 hc6 (Nat.le_refl _); have hs5' := hs5.below hc6; clear hc6 hb5 hs5)
    | (go_at_call 30; refine (packCompare_any w6 _ _ _ _ hs5' hs6).mono ?_; rw [K4.out]; rintro e w4 ⟨rfl, hw⟩; subst w4)
    | (go_at_call 13; refine (G2.out A w6).mono ?_; rintro e w7 ⟨u7, rfl, hs7, hc7⟩; have hb7 := below_then hb6 hc7 (Nat.le_refl _); clear hc7 hb6)
    | (go_at_call 13; refine (G2.out B w7).mono ?_; rintro e w8 ⟨u8, rfl, hs8, hc8⟩; have hb8 := below_then hb7 hc8 (Nat.le_refl _); have hs7' := hs7.below hc8; clear hc8 hb7 hs7)
    | (go_at_call 30; refine (packCompare_any w8 _ _ _ _ hs7' hs8).mono ?_; rw [K2.out]; rintro e w4 ⟨rfl, hw⟩; subst w4))
  go_ret
  exact ⟨rfl, hb8⟩

end Go.Proofs.Ytbopcppagfhjnaa
