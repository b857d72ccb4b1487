/- Two frames of the world: but for frames' blocks from a place on, what was there is as it was ('OnlyF'); bytes turned over that are as they were. -/
import Derived.Test.YtlnedhbeciepdaaDoorFTurn
import Derived.Test.YtlnedhbeciepdaaDoorWFBack
namespace Go.Proofs.YtlnedhbeciepdaaDoor
open Go.RowKit
set_option linter.unusedVariables false

structure OnlyF (B : Nat) (w w' : World) : Prop where
  os : w'.os = w.os
  tape : w'.tape = w.tape
  output : w'.output = w.output
  size : w.heap.size ≤ w'.heap.size
  block : ∀ k, k < w.heap.size → w'.heap[k]? = w.heap[k]? ∨ (B ≤ k ∧ ∃ cs cs' : List Value, cs.length = 4 ∧ cs'.length = 4 ∧ Blk w k 25 cs ∧ Blk w' k 25 cs')

theorem OnlyF.of_only {B : Nat} {w w' : World} (h : Only (fun _ => False) w w') : OnlyF B w w' := ⟨h.os, h.tape, h.output, h.size, fun k hk => .inl (h.block k hk (fun h => h))⟩
theorem OnlyF.trans {B : Nat} {a b c : World} (h : OnlyF B a b) (g : OnlyF B b c) : OnlyF B a c :=
  ⟨g.os.trans h.os, g.tape.trans h.tape, g.output.trans h.output, Nat.le_trans h.size g.size, fun k hk => by
    have hk' := Nat.lt_of_lt_of_le hk h.size
    rcases h.block k hk with h1 | ⟨hB, cs, cs', l1, l2, h1, h2⟩
    · rcases g.block k hk' with g1 | ⟨hB, ds, ds', m1, m2, g1, g2⟩
      · exact .inl (g1.trans h1)
      · exact .inr ⟨hB, ds, ds', m1, m2, (h1.symm.trans g1 : _), g2⟩
    · rcases g.block k hk' with g1 | ⟨_, ds, ds', m1, m2, g1, g2⟩
      · exact .inr ⟨hB, cs, cs', l1, l2, h1, g1.trans h2⟩
      · exact .inr ⟨hB, cs, ds', l1, m2, h1, g2⟩⟩
theorem OnlyF.below {B : Nat} {w w' : World} (h : OnlyF B w w') (hB : B ≤ w.heap.size) : Below B w w' :=
  ⟨h.os, h.tape, h.output, h.size, fun k hk => (h.block k (Nat.lt_of_lt_of_le hk hB)).elim id (fun ⟨h2, _⟩ => absurd hk (by omega))⟩
theorem OnlyF.blk {B : Nat} {w w' : World} {b : Nat} {e : TypeId} {cs : List Value} (h : OnlyF B w w') (hb : Blk w b e cs) (he : e ≠ 25) : Blk w' b e cs := by
  rcases h.block b hb.lt with h1 | ⟨_, ds, _, _, _, h1, _⟩
  · exact h1.trans hb
  · have := hb.symm.trans h1
    simp at this
    exact absurd this.2 he
/-- a frame's block, whatever it holds -/
def FBlk (B : Nat) (w : World) (g : Nat) : Prop := B ≤ g ∧ ∃ cs : List Value, cs.length = 4 ∧ Blk w g 25 cs
theorem FBlk.keep {B : Nat} {w w' : World} {g : Nat} (h : FBlk B w g) (ho : OnlyF B w w') : FBlk B w' g := by
  obtain ⟨hB, cs, hl, hb⟩ := h
  rcases ho.block g hb.lt with h1 | ⟨_, _, ds, _, l2, _, h2⟩
  · exact ⟨hB, cs, hl, h1.trans hb⟩
  · exact ⟨hB, ds, l2, h2⟩
theorem FBlk.store {B : Nat} {w : World} {g : Nat} (h : FBlk B w g) (vs : List Value) (hv : vs.length = 4) : OnlyF B w (w.setCells g 0 vs) := by
  obtain ⟨hB, cs, hl, hb⟩ := h
  have hm := hb.setMany vs 0 w (by omega)
  have hs : splice cs 0 vs = vs := by
    unfold splice
    rw [List.take_zero, List.nil_append, Nat.zero_add, List.drop_of_length_le (by omega), List.append_nil]
  rw [hs] at hm
  have ho := Only.setCells (S := fun k => k = g) g vs 0 w (Only.refl _ w) (fun _ => rfl)
  refine ⟨ho.os, ho.tape, ho.output, ho.size, fun k hk => ?_⟩
  by_cases hkg : k = g
  · subst hkg
    exact .inr ⟨hB, cs, vs, hl, hv, hb, hm⟩
  · exact .inl (ho.block k hk hkg)

theorem turned_same : ∀ (zs : List Int) (f : Nat) (ds : List Int), ByteOk zs → ByteOk ds → f + ds.length ≤ zs.length → turned zs f ds = zs → ∀ d ∈ ds, d = 0
  | [], f, ds, _, _, hl, _, d, hd => by
    have : ds = [] := List.eq_nil_of_length_eq_zero (by rw [List.length_nil] at hl; omega)
    subst this
    cases hd
  | z :: zs, 0, [], _, _, _, _, d, hd => by cases hd
  | z :: zs, 0, c :: ds, hz, hc, hl, h, d, hd => by
    rw [turned] at h
    simp only [List.cons.injEq] at h
    obtain ⟨h1, h2⟩ := h
    have b1 := hz z (List.mem_cons_self ..)
    have b2 := hc c (List.mem_cons_self ..)
    have hc0 : c = 0 := by
      unfold xorB at h1
      have : z.toNat ^^^ c.toNat = z.toNat := by omega
      have := xor_self_cancel this
      omega
    rcases List.mem_cons.1 hd with rfl | hd
    · exact hc0
    · exact turned_same zs 0 ds (fun y hy => hz y (List.mem_cons_of_mem _ hy)) (fun y hy => hc y (List.mem_cons_of_mem _ hy)) (by simp at hl ⊢; omega) h2 d hd
  | z :: zs, f + 1, ds, hz, hc, hl, h, d, hd => by
    rw [turned] at h
    simp only [List.cons.injEq, true_and] at h
    exact turned_same zs f ds (fun y hy => hz y (List.mem_cons_of_mem _ hy)) hc (by simp at hl; omega) h d hd

/-- a page that was turned over is none -/
theorem fault_get (zs : List Int) (f N : Nat) (q : Int) (hz : ByteOk zs) (hl : zs.length = 252) (hN : 0 < N) (hN2 : N < 4294967296) (hf : (f = 0 ∨ ∃ g, f = 4 + g)) (hf4 : f + 4 ≤ 256) : getS (turned (sealS zs) f (le4 N)) q = noFr 40 := by
  have hlen : (sealS zs).length = 256 := by rw [sealS_len, hl]
  refine getS_bad q (by rw [turned_len, hlen]) (fun hs => ?_)
  have h1 := (bad_iff zs f N hz hf).1 hs
  have hl4 : (le4 N).length = 4 := rfl
  have h2 := turned_same (sealS zs) f (le4 N) (sealS_ok hz) (le4_ok N) (by rw [hl4, hlen]; exact hf4) h1
  have m0 := h2 ((N % 256 : Nat) : Int) (by simp [le4])
  have m1 := h2 ((N / 256 % 256 : Nat) : Int) (by simp [le4])
  have m2 := h2 ((N / 65536 % 256 : Nat) : Int) (by simp [le4])
  have m3 := h2 ((N / 16777216 % 256 : Nat) : Int) (by simp [le4])
  omega

/-- noughts are no page -/
theorem get_noughts (wx : World) (hT : Tab wx) (g : Nat) (q : Int) (h : Blk wx g 5 (pc (List.replicate 256 0))) :
    Calls Tryd.prog 18 #[.slice (some ⟨g, 0, none⟩) 256 256, .int .i64 q] wx fun r w' => ∃ a n c, r = .returned (.tuple #[.agg #[.int .i64 0, .int .i64 0, .int .u64 0, .slice a n c], .int .i64 40]) ∧ Below wx.heap.size wx w' := by
  have hS := sl_blk (n := 256) h (fun z hz => by have := List.eq_of_mem_replicate hz; omega) List.length_replicate (by simp [maxLen])
  refine (get_any wx _ _ q hS hT).mono ?_
  rintro r w' ⟨a, n, c, rfl, ho, hb⟩
  rw [getS_bad q List.length_replicate noughts_bad]
  exact ⟨a, n, c, rfl, hb⟩

end Go.Proofs.YtlnedhbeciepdaaDoor
