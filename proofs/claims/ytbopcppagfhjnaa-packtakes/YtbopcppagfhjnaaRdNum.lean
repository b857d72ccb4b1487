/- Contracts: numbers, bytes and texts that are taken of package pack's reader. -/
import Derived.Test.YtbopcppagfhjnaaRdTake
namespace Go.Proofs.Ytbopcppagfhjnaa
open Go.RowKit

def numAcc (acc : Nat) : List Int → Nat
  | [] => acc
  | c :: cs => numAcc (acc * 256 + c.toNat) cs
def numOf (l : List Int) : Nat := numAcc 0 l

theorem numAcc_lt : ∀ (l : List Int) (acc k : Nat), ByteOk l → acc < 256 ^ k → numAcc acc l < 256 ^ (k + l.length)
  | [], acc, k, _, h => by simpa [numAcc] using h
  | c :: cs, acc, k, hb, h => by
    have hc := hb c (List.mem_cons_self ..)
    have := numAcc_lt cs (acc * 256 + c.toNat) (k + 1) (fun z hz => hb z (List.mem_cons_of_mem _ hz)) (by rw [Nat.pow_succ]; omega)
    rw [List.length_cons, Nat.add_comm cs.length 1, ← Nat.add_assoc]
    exact this

theorem numOf_lt (l : List Int) (n : Nat) (hb : ByteOk l) (hl : l.length ≤ n) : numOf l < 256 ^ n := by
  have := numAcc_lt l 0 0 hb (by simp)
  rw [Nat.zero_add] at this
  exact Nat.lt_of_lt_of_le this (Nat.pow_le_pow_right (by omega) hl)

theorem takeS_len (zs : List Int) (er : Int) (n : Nat) : (takeS zs er n).1.length ≤ n := by
  unfold takeS
  split
  · simp
  · split
    · simp
    · split
      · simp
      · simp; omega

theorem takeS_ok (zs : List Int) (er n : Int) (hb : ByteOk zs) : ByteOk (takeS zs er n).1 ∧ ByteOk (takeS zs er n).2.1 := by
  have h0 : ByteOk ([] : List Int) := by intro z hz; cases hz
  unfold takeS
  split
  · exact ⟨h0, hb⟩
  · split
    · exact ⟨h0, hb⟩
    · split
      · exact ⟨h0, hb⟩
      · exact ⟨hb.take _, hb.drop _⟩

theorem or_byte (acc : Nat) (x : Int) (h : acc < 72057594037927936) (h0 : 0 ≤ x) (h1 : x ≤ 255) : bits .or .u64 ((acc : Int) * 256) x = ((acc * 256 + x.toNat : Nat) : Int) := by
  have e := u64_or_nat (acc * 256) x.toNat (by omega) (by omega)
  have o : acc * 256 ||| x.toNat = acc * 256 + x.toNat := by
    have := Nat.two_pow_add_eq_or_of_lt (b := x.toNat) (i := 8) (by omega) acc
    rw [show (2 : Nat) ^ 8 * acc = acc * 256 by omega] at this
    exact this.symm
  rw [o] at e
  rw [show ((x.toNat : Nat) : Int) = x by omega] at e
  rw [Int.natCast_mul] at e
  exact e

theorem pow56 (k : Nat) (hk : k ≤ 7) : 256 ^ k ≤ 72057594037927936 := by
  have := Nat.pow_le_pow_right (n := 256) (by omega) hk
  simpa using this

set_option maxRecDepth 20000 in
set_option maxHeartbeats 400000 in
theorem takeNumber_any (w : World) (b : Nat) (u : Value) (zs : List Int) (er : Int) (n : Nat) (h : Rd w b u zs er) (hn : n ≤ 8) :
    Calls Try.prog 52 #[.pointer (some ⟨b, 0, none⟩), .int .i64 n] w fun e w' => e = .returned (.int .u64 (numOf (takeS zs er n).1)) ∧ w.grownBy w' (some b) ∧ ∃ u', Rd w' b u' (takeS zs er n).2.1 (takeS zs er n).2.2 := by
  have HT := take_any w b u zs er n h
  have HL := takeS_len zs er n
  have HB := (takeS_ok zs er n h.2.1.bytes).1
  obtain ⟨⟨R, zs', er'⟩, hS⟩ : ∃ s, s = takeS zs er n := ⟨_, rfl⟩
  rw [← hS] at HT HL HB ⊢
  simp only at HT HL HB ⊢
  clear hS
  go_enter Try.func52, Try.ntmps52
  go_wp2_with (go_at_call 54; refine HT.mono ?_; rintro e w1 ⟨v, rfl, hs, hoff, hgr, u', hrd⟩; obtain ⟨_, ao, cap, rfl, h1, h2, h3, h4⟩ := hs; have HGR := hide hgr; have HRD := hide hrd; have H4 := hide h4; clear hgr hrd h3 h4 hoff)
  unfold maxLen at h2
  go_loop [5, 12] (fun vv i => ∃ (k acc : Nat), k ≤ R.length ∧ acc < 256 ^ k ∧ numAcc acc (R.drop k) = numOf R ∧ vv = .int .u64 acc ∧ i = .int .i64 k) (fun _ i => R.length - (intOf i).toNat)
  case atStart => exact ⟨0, 0, Nat.zero_le _, by simp, rfl, rfl, rfl⟩
  case round =>
    obtain ⟨k, acc, hk, hacc, hnum, rfl, rfl⟩ := hrel
    by_cases hlt : k < R.length
    · obtain ⟨b', o, rfl, hc⟩ := H4.out (by intro h; simp [h] at hlt)
      have c1 := hc k hlt
      have hxb := HB.get k
      have hd := drop_cons R k hlt
      obtain ⟨x, hx⟩ : ∃ x, x = R.getD k 0 := ⟨_, rfl⟩
      rw [← hx] at c1 hxb hd
      have ha := Nat.lt_of_lt_of_le hacc (pow56 k (by omega))
      have hor := or_byte acc x ha hxb.1 hxb.2
      have hnext : numAcc (acc * 256 + x.toNat) (R.drop (k + 1)) = numOf R := by rw [← hnum, hd, numAcc]
      have hlt2 : acc * 256 + x.toNat < 256 ^ (k + 1) := by rw [Nat.pow_succ]; omega
      obtain ⟨N, hN⟩ : ∃ N, N = acc * 256 + x.toNat := ⟨_, rfl⟩
      rw [← hN] at hor hnext hlt2
      have HX := hide hnext
      clear hc H4 hx hd hnum hnext hN
      go_wp2
      go_round
      case rel => exact ⟨k + 1, N, by omega, hlt2, HX.out, by go_num, by go_num⟩
      case measure => simp [intOf]; omega
    · have he : numOf R = acc := by rw [← hnum, List.drop_eq_nil_of_le (by omega), numAcc]
      have HE := hide he
      clear he hnum
      go_wp2
      go_ret
      exact ⟨ret_int (by rw [HE.out]), HGR.out, _, HRD.out⟩

end Go.Proofs.Ytbopcppagfhjnaa
