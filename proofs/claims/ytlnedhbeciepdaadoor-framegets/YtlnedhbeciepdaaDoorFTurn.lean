/- Lemmas for the walk of the statement FrameFault: where a seal is turned over (after CrcTurn). -/
import Derived.Test.YtlnedhbeciepdaaDoorCrcBad
namespace Go.Proofs.YtlnedhbeciepdaaDoor
open Go.RowKit

theorem turned_step : ∀ (zs : List Int) (f : Nat) (ds : List Int) (d : Int), f + ds.length < zs.length → turned zs f (ds ++ [d]) = (turned zs f ds).set (f + ds.length) (xorB ((turned zs f ds).getD (f + ds.length) 0) d)
  | [], _, _, _, h => by simp at h
  | z :: zs, 0, [], d, _ => by simp [turned, turned_nil]
  | z :: zs, 0, c :: ds, d, h => by
    have := turned_step zs 0 ds d (by simp at h; omega)
    rw [List.cons_append, turned, turned, this]
    simp
  | z :: zs, f + 1, ds, d, h => by
    have := turned_step zs f ds d (by simp at h; omega)
    rw [turned, turned, this, show f + 1 + ds.length = (f + ds.length) + 1 by omega]
    simp
theorem turned_past : ∀ (zs : List Int) (f : Nat) (ds : List Int) (d : Int), zs.length ≤ f + ds.length → turned zs f (ds ++ [d]) = turned zs f ds
  | [], _, _, _, _ => by simp [turned]
  | z :: zs, 0, [], d, h => by simp at h
  | z :: zs, 0, c :: ds, d, h => by rw [List.cons_append, turned, turned, turned_past zs 0 ds d (by simp at h; omega)]
  | z :: zs, f + 1, ds, d, h => by rw [turned, turned, turned_past zs f ds d (by simp at h; omega)]
theorem turned_take : ∀ (zs : List Int) (f : Nat) (ds : List Int), turned zs f ds = turned zs f (ds.take (zs.length - f))
  | [], _, _ => by simp [turned]
  | z :: zs, 0, [] => by simp [turned]
  | z :: zs, 0, c :: ds => by
    have := turned_take zs 0 ds
    rw [show (z :: zs).length - 0 = zs.length + 1 by simp, List.take_succ_cons, turned, turned, this, Nat.sub_zero]
  | z :: zs, f + 1, ds => by
    have := turned_take zs f ds
    rw [turned, turned, show (z :: zs).length - (f + 1) = zs.length - f by simp]
    rw [← this]
theorem turned_ok : ∀ (zs : List Int) (f : Nat) (ds : List Int), ByteOk zs → ByteOk ds → ByteOk (turned zs f ds)
  | [], _, _, _, _ => by intro z hz; simp [turned] at hz
  | z :: zs, 0, [], hz, _ => by rw [turned]; exact hz
  | z :: zs, 0, d :: ds, hz, hd => by
    rw [turned]
    intro y hy
    rcases List.mem_cons.1 hy with rfl | hy
    · have a := hz z (List.mem_cons_self ..)
      have b := hd d (List.mem_cons_self ..)
      unfold xorB
      have : z.toNat ^^^ d.toNat < 2 ^ 8 := Nat.xor_lt_two_pow (by omega) (by omega)
      omega
    · exact turned_ok zs 0 ds (fun y hy => hz y (List.mem_cons_of_mem _ hy)) (fun y hy => hd y (List.mem_cons_of_mem _ hy)) y hy
  | z :: zs, f + 1, ds, hz, hd => by
    rw [turned]
    intro y hy
    rcases List.mem_cons.1 hy with rfl | hy
    · exact hz _ (List.mem_cons_self ..)
    · exact turned_ok zs f ds (fun y hy => hz y (List.mem_cons_of_mem _ hy)) hd y hy

theorem le4_ok (n : Nat) : ByteOk (le4 n) := by
  intro z hz
  simp only [le4, List.mem_cons, List.not_mem_nil, or_false] at hz
  omega

theorem be4_inj {a b : Nat} (ha : a < 4294967296) (hb : b < 4294967296) (h : be4 a = be4 b) : a = b := by
  simp only [be4, List.cons.injEq, and_true] at h
  omega

/-- what is turned over within four in a row, in the sum or behind it, is a seal only if it is as it was -/
theorem bad_iff (zs : List Int) (f N : Nat) (hz : ByteOk zs) (hf : f = 0 ∨ ∃ g, f = 4 + g) : isSeal (turned (sealS zs) f (le4 N)) ↔ turned (sealS zs) f (le4 N) = sealS zs := by
  constructor
  · intro h
    have h2 := h.2
    rcases hf with rfl | ⟨g, rfl⟩
    · have e1 : (turned (sealS zs) 0 (le4 N)).drop 4 = zs := by simp [sealS, be4, le4, turned, turned_nil]
      rw [e1] at h2
      have e2 := List.take_append_drop 4 (turned (sealS zs) 0 (le4 N))
      rw [h2, e1] at e2
      exact e2.symm
    · have e0 : turned (sealS zs) (4 + g) (le4 N) = be4 (ofS zs) ++ turned zs g (le4 N) := by
        rw [Nat.add_comm 4 g]
        simp [sealS, be4, turned]
      have e1 : (turned (sealS zs) (4 + g) (le4 N)).drop 4 = turned zs g (le4 N) := by rw [e0]; simp [be4]
      have e2 : (turned (sealS zs) (4 + g) (le4 N)).take 4 = be4 (ofS zs) := by rw [e0]; simp [be4]
      rw [e1, e2] at h2
      have hok := turned_ok zs g (le4 N) hz (le4_ok N)
      have h3 := be4_inj (ofS_lt hz) (ofS_lt hok) h2
      have h4 : turned zs g (le4 N) = zs := by
        by_cases hg : g ≤ zs.length
        · rw [turned_take] at h3 ⊢
          refine fault_sum zs g _ hz (fun y hy => le4_ok N y (List.mem_of_mem_take hy)) ?_ ?_ h3.symm
          · simp [le4]; omega
          · simp; omega
        · rw [turned_take, Nat.sub_eq_zero_of_le (by omega), List.take_zero, turned_nil]
      rw [e0, h4]
      rfl
  · intro h
    rw [h]
    exact isSeal_seal zs

theorem xor8' (x : Int) (d : Nat) (hx : 0 ≤ x ∧ x ≤ 255) (hd : d < 256) : bits .xor .u8 x (d : Int) = xorB x (d : Int) ∧ 0 ≤ xorB x (d : Int) ∧ xorB x (d : Int) ≤ 255 := by
  have := u8_xor_nat x.toNat d (by omega) hd
  rw [show ((x.toNat : Nat) : Int) = x by omega] at this
  have h2 : x.toNat ^^^ d < 2 ^ 8 := Nat.xor_lt_two_pow (by omega) (by omega)
  refine ⟨by rw [this]; unfold xorB; simp, ?_, ?_⟩ <;> (unfold xorB; simp) <;> omega

theorem bad_step (T : List Int) (f N k : Nat) (hk : k < 4) (hf : f + k < T.length) :
    ((turned T f ((le4 N).take k)).map (Value.int .u8)).set (f + k) (.int .u8 (xorB ((turned T f ((le4 N).take k)).getD (f + k) 0) ((le4 N).getD k 0))) = (turned T f ((le4 N).take (k + 1))).map (Value.int .u8) := by
  have hl : (le4 N).length = 4 := by simp [le4]
  have hlk : ((le4 N).take k).length = k := by simp [hl]; omega
  have := turned_step T f ((le4 N).take k) ((le4 N).getD k 0) (by rw [hlk]; exact hf)
  rw [hlk] at this
  rw [take_getD (le4 N) (by omega), this, List.map_set]

end Go.Proofs.YtlnedhbeciepdaaDoor
