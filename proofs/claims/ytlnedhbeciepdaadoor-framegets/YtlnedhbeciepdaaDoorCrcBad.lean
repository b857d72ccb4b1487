/- One fault is told: bytes turned over within four in a row. No program. -/
import Derived.Test.YtlnedhbeciepdaaDoorCrcRefs
namespace Go.Proofs.YtlnedhbeciepdaaDoor
open Go.RowKit

/-- the four bytes of a number, the lowest first -/
def le4 (n : Nat) : List Int := [((n % 256 : Nat) : Int), ((n / 256 % 256 : Nat) : Int), ((n / 65536 % 256 : Nat) : Int), ((n / 16777216 % 256 : Nat) : Int)]

/-- bytes turned over into a row from place 'at' on, as far as it reaches -/
def turned : List Int → Nat → List Int → List Int
  | [], _, _ => []
  | z :: zs, 0, [] => z :: zs
  | z :: zs, 0, d :: ds => xorB z d :: turned zs 0 ds
  | z :: zs, f + 1, ds => z :: turned zs f ds

theorem turned_len : ∀ (zs : List Int) (f : Nat) (ds : List Int), (turned zs f ds).length = zs.length
  | [], _, _ => by simp [turned]
  | z :: zs, 0, [] => by simp [turned]
  | z :: zs, 0, d :: ds => by simp [turned, turned_len zs 0 ds]
  | z :: zs, f + 1, ds => by simp [turned, turned_len zs f ds]

theorem xor_self_cancel {x y : Nat} (h : x ^^^ y = x) : y = 0 := by
  have := congrArg (x ^^^ ·) h
  simpa [xor_cancel] using this

theorem turned_nil : ∀ (zs : List Int) (f : Nat), turned zs f [] = zs
  | [], f => by simp [turned]
  | z :: zs, 0 => by simp [turned]
  | z :: zs, f + 1 => by simp [turned, turned_nil zs f]

theorem xorB_zero {z : Int} (h : 0 ≤ z) : xorB z 0 = z := by unfold xorB; simp; omega

/-- the sum of the turned ones: by the register of the turned bytes alone -/
theorem reg_turned0 : ∀ (zs ds : List Int) (r s : Nat), ds.length ≤ zs.length → reg (r ^^^ s) (turned zs 0 ds) = reg r zs ^^^ stpN (8 * (zs.length - ds.length)) (reg s ds)
  | [], [], r, s, _ => by simp [turned, reg, stpN]
  | z :: zs, [], r, s, _ => by
    rw [turned_nil, Nat.xor_comm, reg_from, Nat.xor_comm]
    rfl
  | z :: zs, d :: ds, r, s, h => by
    rw [turned, reg, reg, reg]
    have e : (xorB z d).toNat = z.toNat ^^^ d.toNat := by unfold xorB; omega
    rw [e, xor_swap, stpN_xor, reg_turned0 zs ds _ _ (by simpa using h)]
    simp
theorem reg_turned : ∀ (zs : List Int) (f : Nat) (ds : List Int) (r : Nat), f + ds.length ≤ zs.length → ∃ k, reg r (turned zs f ds) = reg r zs ^^^ stpN k (reg 0 ds)
  | zs, 0, ds, r, h => by
    have := reg_turned0 zs ds r 0 (by omega)
    rw [Nat.xor_zero] at this
    exact ⟨_, this⟩
  | [], f + 1, ds, r, h => by simp at h
  | z :: zs, f + 1, ds, r, h => by
    obtain ⟨k, hk⟩ := reg_turned zs f ds (stpN 8 (r ^^^ z.toNat)) (by simp at h; omega)
    exact ⟨k, by rw [turned, reg, hk]; rfl⟩

theorem num_lt : ∀ (ds : List Int), ByteOk ds → num ds < 256 ^ ds.length
  | [], _ => by simp [num]
  | d :: ds, h => by
    have h1 := h d (List.mem_cons_self ..)
    have h2 := num_lt ds (fun z hz => h z (List.mem_cons_of_mem _ hz))
    have e : num (d :: ds) = 2 ^ 8 * num ds + d.toNat := by
      rw [num, Nat.xor_comm, xor_low 8 (num ds) d.toNat (by omega)]
    rw [e, List.length_cons, Nat.pow_succ]
    omega
theorem num_zero : ∀ (ds : List Int), ByteOk ds → num ds = 0 → ∀ d ∈ ds, d = 0
  | [], _, _, d, hd => by cases hd
  | c :: ds, h, h0, d, hd => by
    have h1 := h c (List.mem_cons_self ..)
    have e : num (c :: ds) = 2 ^ 8 * num ds + c.toNat := by
      rw [num, Nat.xor_comm, xor_low 8 (num ds) c.toNat (by omega)]
    rw [e] at h0
    rcases List.mem_cons.1 hd with rfl | hd
    · omega
    · exact num_zero ds (fun z hz => h z (List.mem_cons_of_mem _ hz)) (by omega) d hd

theorem turned_zero : ∀ (zs : List Int) (f : Nat) (ds : List Int), ByteOk zs → (∀ d ∈ ds, d = 0) → turned zs f ds = zs
  | [], _, _, _, _ => by simp [turned]
  | z :: zs, 0, [], _, _ => by simp [turned]
  | z :: zs, 0, d :: ds, hz, hd => by
    have := hd d (List.mem_cons_self ..)
    subst this
    rw [turned, xorB_zero (hz z (List.mem_cons_self ..)).1, turned_zero zs 0 ds (fun y hy => hz y (List.mem_cons_of_mem _ hy)) (fun y hy => hd y (List.mem_cons_of_mem _ hy))]
  | z :: zs, f + 1, ds, hz, hd => by rw [turned, turned_zero zs f ds (fun y hy => hz y (List.mem_cons_of_mem _ hy)) hd]

/-- of bytes turned over within four in a row the sum is another, unless they are as they were -/
theorem fault_sum (zs : List Int) (f : Nat) (ds : List Int) (hz : ByteOk zs) (hd : ByteOk ds) (h4 : ds.length ≤ 4) (hf : f + ds.length ≤ zs.length) (h : ofS (turned zs f ds) = ofS zs) : turned zs f ds = zs := by
  obtain ⟨k, hk⟩ := reg_turned zs f ds ones hf
  unfold ofS addS at h
  rw [Nat.xor_zero] at h
  have h1 : reg ones (turned zs f ds) = reg ones zs := by
    have := congrArg (ones ^^^ ·) h
    simpa [xor_cancel] using this
  rw [hk] at h1
  have h2 := xor_self_cancel h1
  have hn := num_lt ds hd
  have hlt : num ds < 4294967296 := Nat.lt_of_lt_of_le hn (Nat.le_trans (Nat.pow_le_pow_right (by omega) h4) (by decide))
  have h3 : reg 0 ds < 4294967296 := reg_lt ds 0 hd (by omega)
  have h4' := stpN_inj k h3 h2
  rw [reg_num, Nat.zero_xor] at h4'
  have h5 := stpN_inj _ hlt h4'
  exact turned_zero zs f ds hz (num_zero ds hd h5)

end Go.Proofs.YtlnedhbeciepdaaDoor
