/- Contracts: each call that takes, of package pack's reader in whatever state. -/
import Derived.Test.YtbopcppagfhjnaaRdNum
namespace Go.Proofs.Ytbopcppagfhjnaa
open Go.RowKit

theorem readerU8_any (w : World) (b : Nat) (u : Value) (zs : List Int) (er : Int) (h : Rd w b u zs er) :
    Calls Try.prog 44 #[.pointer (some ⟨b, 0, none⟩)] w fun e w' => e = .returned (.int .u8 (numOf (takeS zs er 1).1)) ∧ w.grownBy w' (some b) ∧ ∃ u', Rd w' b u' (takeS zs er 1).2.1 (takeS zs er 1).2.2 := by
  have HT : Calls Try.prog 52 #[.pointer (some ⟨b, 0, none⟩), .int .i64 1] w fun e w' => e = .returned (.int .u64 (numOf (takeS zs er 1).1)) ∧ w.grownBy w' (some b) ∧ ∃ u', Rd w' b u' (takeS zs er 1).2.1 (takeS zs er 1).2.2 := takeNumber_any w b u zs er 1 h (by omega)
  have hlt : numOf (takeS zs er 1).1 < 256 := numOf_lt _ 1 (takeS_ok zs er 1 h.2.1.bytes).1 (takeS_len zs er 1)
  obtain ⟨N, hN⟩ : ∃ N, N = numOf (takeS zs er 1).1 := ⟨_, rfl⟩
  rw [← hN] at HT hlt ⊢
  clear hN
  go_enter Try.func44, Try.ntmps44
  go_wp2_with (go_at_call 52; refine HT.mono ?_; rintro e w1 ⟨rfl, hg, u', hr⟩)
  go_ret
  exact ⟨rfl, hg, u', hr⟩

theorem readerU16_any (w : World) (b : Nat) (u : Value) (zs : List Int) (er : Int) (h : Rd w b u zs er) :
    Calls Try.prog 36 #[.pointer (some ⟨b, 0, none⟩)] w fun e w' => e = .returned (.int .u16 (numOf (takeS zs er 2).1)) ∧ w.grownBy w' (some b) ∧ ∃ u', Rd w' b u' (takeS zs er 2).2.1 (takeS zs er 2).2.2 := by
  have HT : Calls Try.prog 52 #[.pointer (some ⟨b, 0, none⟩), .int .i64 2] w fun e w' => e = .returned (.int .u64 (numOf (takeS zs er 2).1)) ∧ w.grownBy w' (some b) ∧ ∃ u', Rd w' b u' (takeS zs er 2).2.1 (takeS zs er 2).2.2 := takeNumber_any w b u zs er 2 h (by omega)
  have hlt : numOf (takeS zs er 2).1 < 65536 := numOf_lt _ 2 (takeS_ok zs er 2 h.2.1.bytes).1 (takeS_len zs er 2)
  obtain ⟨N, hN⟩ : ∃ N, N = numOf (takeS zs er 2).1 := ⟨_, rfl⟩
  rw [← hN] at HT hlt ⊢
  clear hN
  go_enter Try.func36, Try.ntmps36
  go_wp2_with (go_at_call 52; refine HT.mono ?_; rintro e w1 ⟨rfl, hg, u', hr⟩)
  go_ret
  exact ⟨rfl, hg, u', hr⟩

theorem readerU32_any (w : World) (b : Nat) (u : Value) (zs : List Int) (er : Int) (h : Rd w b u zs er) :
    Calls Try.prog 37 #[.pointer (some ⟨b, 0, none⟩)] w fun e w' => e = .returned (.int .u32 (numOf (takeS zs er 4).1)) ∧ w.grownBy w' (some b) ∧ ∃ u', Rd w' b u' (takeS zs er 4).2.1 (takeS zs er 4).2.2 := by
  have HT : Calls Try.prog 52 #[.pointer (some ⟨b, 0, none⟩), .int .i64 4] w fun e w' => e = .returned (.int .u64 (numOf (takeS zs er 4).1)) ∧ w.grownBy w' (some b) ∧ ∃ u', Rd w' b u' (takeS zs er 4).2.1 (takeS zs er 4).2.2 := takeNumber_any w b u zs er 4 h (by omega)
  have hlt : numOf (takeS zs er 4).1 < 4294967296 := numOf_lt _ 4 (takeS_ok zs er 4 h.2.1.bytes).1 (takeS_len zs er 4)
  obtain ⟨N, hN⟩ : ∃ N, N = numOf (takeS zs er 4).1 := ⟨_, rfl⟩
  rw [← hN] at HT hlt ⊢
  clear hN
  go_enter Try.func37, Try.ntmps37
  go_wp2_with (go_at_call 52; refine HT.mono ?_; rintro e w1 ⟨rfl, hg, u', hr⟩)
  go_ret
  exact ⟨rfl, hg, u', hr⟩

theorem readerU64_any (w : World) (b : Nat) (u : Value) (zs : List Int) (er : Int) (h : Rd w b u zs er) :
    Calls Try.prog 35 #[.pointer (some ⟨b, 0, none⟩)] w fun e w' => e = .returned (.int .u64 (numOf (takeS zs er 8).1)) ∧ w.grownBy w' (some b) ∧ ∃ u', Rd w' b u' (takeS zs er 8).2.1 (takeS zs er 8).2.2 := by
  have HT : Calls Try.prog 52 #[.pointer (some ⟨b, 0, none⟩), .int .i64 8] w fun e w' => e = .returned (.int .u64 (numOf (takeS zs er 8).1)) ∧ w.grownBy w' (some b) ∧ ∃ u', Rd w' b u' (takeS zs er 8).2.1 (takeS zs er 8).2.2 := takeNumber_any w b u zs er 8 h (by omega)
  have hlt : numOf (takeS zs er 8).1 < 18446744073709551616 := numOf_lt _ 8 (takeS_ok zs er 8 h.2.1.bytes).1 (takeS_len zs er 8)
  obtain ⟨N, hN⟩ : ∃ N, N = numOf (takeS zs er 8).1 := ⟨_, rfl⟩
  rw [← hN] at HT hlt ⊢
  clear hN
  go_enter Try.func35, Try.ntmps35
  go_wp2_with (go_at_call 52; refine HT.mono ?_; rintro e w1 ⟨rfl, hg, u', hr⟩)
  go_ret
  exact ⟨rfl, hg, u', hr⟩

/-- what a take of a short number gives, leaves, and the first error behind it -/
def varS (zs : List Int) (er : Int) : Nat × List Int × Int := if er ≠ 0 then (0, zs, er) else ((short zs).1, zs.drop (short zs).2.1, (short zs).2.2)

theorem readerVar_any (w : World) (b : Nat) (u : Value) (zs : List Int) (er : Int) (h : Rd w b u zs er) :
    Calls Try.prog 34 #[.pointer (some ⟨b, 0, none⟩)] w fun e w' => e = .returned (.int .u32 (varS zs er).1) ∧ w.grownBy w' (some b) ∧ ∃ u', Rd w' b u' (varS zs er).2.1 (varS zs er).2.2 := by
  by_cases e0 : er = 0
  · subst e0
    have : varS zs 0 = ((short zs).1, zs.drop (short zs).2.1, (short zs).2.2) := by simp [varS]
    rw [this]
    exact readerVar_ok w b u zs h
  · have es : varS zs er = (0, zs, er) := by simp [varS, e0]
    rw [es]
    have HE := err_any w b u zs er h
    have e1 : (er == 0) = false := by simpa using e0
    have HR := hide h
    clear h
    go_enter Try.func34, Try.ntmps34
    go_wp2_with (go_at_call 25; refine HE.mono ?_; rintro e w1 ⟨rfl, hw⟩; subst w1)
    go_ret
    exact ⟨rfl, grownBy_refl _ _, u, HR.out⟩

theorem Rd.below {w w' : World} {b : Nat} {u : Value} {zs : List Int} {er : Int} (h : Rd w b u zs er) (hb : Below w.heap.size w w') : Rd w' b u zs er := h.keep hb

theorem readerRaw_any (w : World) (b : Nat) (u : Value) (zs : List Int) (er n : Int) (h : Rd w b u zs er) (hl : zs.length ≤ 50000) :
    Calls Try.prog 47 #[.pointer (some ⟨b, 0, none⟩), .int .i64 n] w fun e w' => ∃ v, e = .returned v ∧ Sl w' v (takeS zs er n).1 ∧ Fresh w.heap.size w' v ∧ w.grownBy w' (some b) ∧ ∃ u', Rd w' b u' (takeS zs er n).2.1 (takeS zs er n).2.2 := by
  have HT := take_any w b u zs er n h
  have hlen : (takeS zs er n).1.length ≤ zs.length := by
    unfold takeS
    split
    · simp
    · split
      · simp
      · split
        · simp
        · simp; omega
  obtain ⟨⟨R, zs', er'⟩, hS⟩ : ∃ s, s = takeS zs er n := ⟨_, rfl⟩
  rw [← hS] at HT hlen ⊢
  simp only at HT hlen ⊢
  clear hS
  go_enter Try.func47, Try.ntmps47
  go_wp2_with (first
    | (go_at_call 54; refine HT.mono ?_; rintro e w1 ⟨v, rfl, hs, hoff, hgr, u', hrd⟩)
    | (go_at_call 43; refine (clone_any w1 v R hs (by omega)).mono ?_; rintro e w2 ⟨v2, rfl, hs2, hf2, hb2⟩))
  go_ret
  exact ⟨_, rfl, hs2, fun k hk => ⟨Nat.le_trans hgr.size (hf2 k hk).1, (hf2 k hk).2⟩, grown_below hgr hb2, u', hrd.keep hb2⟩

/-- how long the text is that bytes begin with, and the error -/
def tlen (zs : List Int) (most : Int) : Int × Int :=
  if most < 0 then (0, 1) else if zs.length = 0 then (0, 10) else if most < zs.getD 0 0 then (0, 3) else if (zs.length : Int) - 1 < zs.getD 0 0 then (0, 10) else (zs.getD 0 0, 0)

theorem textLength_any (w : World) (v : Value) (zs : List Int) (most : Int) (h : Sl w v zs) :
    Calls Try.prog 53 #[v, .int .i64 most] w fun e w' => e = .returned (.tuple #[.int .i64 (tlen zs most).1, .int .i64 (tlen zs most).2]) ∧ w' = w := by
  have hb0 := h.bytes.get 0
  obtain ⟨hb, ao, cap, rfl, h1, h2, h3, h4⟩ := h
  unfold maxLen at h2
  by_cases m0 : most < 0
  · have es : tlen zs most = (0, 1) := by simp [tlen, m0]
    rw [es]
    go_enter Try.func53, Try.ntmps53
    go_wp2
    go_ret2
    exact ⟨rfl, rfl⟩
  · have d0 : decide (most < 0) = false := decide_eq_false m0
    by_cases z0 : zs.length = 0
    · have es : tlen zs most = (0, 10) := by rw [tlen, if_neg m0, if_pos z0]
      rw [es]
      obtain rfl : zs = [] := List.eq_nil_of_length_eq_zero z0
      go_enter Try.func53, Try.ntmps53
      go_wp2
      go_ret2
      exact ⟨rfl, rfl⟩
    · have i0 : (0 : Int) < (zs.length : Int) := by omega
      have i1 : ((zs.length : Int) == 0) = false := by simp; exact fun h => z0 (by simp [h])
      obtain ⟨b, o, rfl, hc⟩ := h4 (by intro h; simp [h] at z0)
      have c1 := hc 0 (by omega)
      have ht : tlen zs most = if most < zs.getD 0 0 then (0, 3) else if (zs.length : Int) - 1 < zs.getD 0 0 then (0, 10) else (zs.getD 0 0, 0) := by rw [tlen, if_neg m0, if_neg z0]
      obtain ⟨x, hx⟩ : ∃ x, x = zs.getD 0 0 := ⟨_, rfl⟩
      rw [← hx] at c1 ht hb0
      rw [Nat.add_zero] at c1
      clear hx hc h4 h3
      by_cases x1 : most < x
      · rw [if_pos x1] at ht
        rw [ht]
        go_enter Try.func53, Try.ntmps53
        go_wp2
        go_ret2
        exact ⟨rfl, rfl⟩
      · have d1 : decide (most < x) = false := decide_eq_false x1
        by_cases x2 : (zs.length : Int) - 1 < x
        · rw [if_neg x1, if_pos x2] at ht
          rw [ht]
          go_enter Try.func53, Try.ntmps53
          go_wp2
          go_ret2
          exact ⟨rfl, rfl⟩
        · have d2 : decide ((zs.length : Int) - 1 < x) = false := decide_eq_false x2
          rw [if_neg x1, if_neg x2] at ht
          rw [ht]
          go_enter Try.func53, Try.ntmps53
          go_wp2
          go_ret2
          exact ⟨rfl, rfl⟩

end Go.Proofs.Ytbopcppagfhjnaa
