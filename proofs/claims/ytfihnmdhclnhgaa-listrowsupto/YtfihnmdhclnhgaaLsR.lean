/- Rows that are read: of uint32 ('Ul'), of postings ('Pq'); what is left of one behind its first. No package's function. -/
import Derived.Test.YtfihnmdhclnhgaaLsU
import Derived.Test.YtfihnmdhclnhgaaPoOwn
import Derived.Test.YtfihnmdhclnhgaaPoSlc
namespace Go.Proofs.Ytfihnmdhclnhgaa
set_option maxRecDepth 20000
open Go.RowKit
set_option linter.unusedVariables false
set_option linter.unusedSimpArgs false
set_option maxRecDepth 100000

/-- a slice of numbers that is read -/
def Ul (w : World) (v : Value) (ks : List Int) : Prop :=
  ∃ ao cap, v = .slice ao ks.length cap ∧ ks.length ≤ cap ∧ cap ≤ maxLen ∧ (ks ≠ [] → ∃ b off, ao = some ⟨b, off, none⟩ ∧ ∀ i, i < ks.length → w.cell? ⟨b, off + i, none⟩ = some (.int .u32 (ks.getD i 0)))
theorem Ul.below {w w' : World} {v : Value} {ks : List Int} (h : Ul w v ks) (hb : Below w.heap.size w w') : Ul w' v ks := by
  obtain ⟨ao, cap, rfl, h1, h2, h3⟩ := h
  refine ⟨ao, cap, rfl, h1, h2, fun hne => ?_⟩
  obtain ⟨b, off, rfl, hc⟩ := h3 hne
  refine ⟨b, off, rfl, fun i hi => ?_⟩
  rw [World.cell?_of_block (w := w) (hb.block b (World.block_lt_of_cell? w _ (hc i hi)))]
  exact hc i hi
theorem Ul.take {w : World} {ao : Option Addr} {cap : Nat} {ks : List Int} (h : Ul w (.slice ao ks.length cap) ks) (n : Nat) (hn : n ≤ ks.length) : Ul w (.slice ao n cap) (ks.take n) := by
  obtain ⟨ao', cap', he, h1, h2, h3⟩ := h
  simp only [Value.slice.injEq, true_and] at he
  obtain ⟨rfl, rfl⟩ := he
  have hl : (ks.take n).length = n := by simp; omega
  refine ⟨ao, cap, by rw [hl], by omega, h2, fun hne => ?_⟩
  obtain ⟨b, off, rfl, hc⟩ := h3 (by intro e; simp [e] at hne)
  refine ⟨b, off, rfl, fun i hi => ?_⟩
  rw [getD_take ks n i (by omega)]
  exact hc i (by omega)
theorem Ul.cap {w : World} {ao : Option Addr} {n cap : Nat} {ks : List Int} (h : Ul w (.slice ao n cap) ks) : n = ks.length ∧ ks.length ≤ cap ∧ cap ≤ maxLen := by
  obtain ⟨ao', cap', he, h1, h2, h3⟩ := h
  simp only [Value.slice.injEq] at he
  obtain ⟨rfl, rfl, rfl⟩ := he
  exact ⟨rfl, h1, h2⟩
theorem Ul.at {w : World} {ao : Option Addr} {n cap : Nat} {ks : List Int} (h : Ul w (.slice ao n cap) ks) (i : Nat) (hi : i < ks.length) : ∃ b off, ao = some ⟨b, off, none⟩ ∧ w.cell? ⟨b, off + i, none⟩ = some (.int .u32 (ks.getD i 0)) := by
  obtain ⟨ao', cap', he, h1, h2, h3⟩ := h
  simp only [Value.slice.injEq] at he
  obtain ⟨rfl, rfl, rfl⟩ := he
  obtain ⟨b, off, rfl, hc⟩ := h3 (by intro e; simp [e] at hi)
  exact ⟨b, off, rfl, hc i hi⟩
theorem Ul.alloc {w : World} {v : Value} {ks : List Int} (h : Ul w v ks) (o : Obj) : Ul (w.alloc o) v ks := h.below ((Below.refl _ w).alloc (Nat.le_refl _) o)
theorem ul_of_own {w : World} {base : Nat} {v : Value} {n : Nat} {zs : List Int} (h : w.ownsRow base 27 1 v n (zs.map (Value.int .u32))) : Ul w v zs := by
  obtain ⟨h1, h2⟩ := h
  have hn : zs.length = n := by simpa using h1
  subst hn
  rcases h2 with ⟨rfl, h0⟩ | ⟨g, cap, cur, rfl, _, hg, hnc, hcm, hcs, ht⟩
  · exact ⟨none, 0, by rw [h0], by omega, by simp [maxLen], fun hz => absurd (List.eq_nil_of_length_eq_zero h0) hz⟩
  · refine ⟨_, cap, rfl, hnc, hcm, fun _ => ⟨g, 0, rfl, fun i hi => ?_⟩⟩
    rw [cell_of_row w g (0 + i) cur 27 (0, 0) hg]
    have : (cur.toList.take (zs.length * 1))[i]? = (zs.map (Value.int .u32))[i]? := by rw [ht]
    rw [List.getElem?_take, if_pos (by omega)] at this
    simp at this
    rw [Nat.zero_add, this]
    rw [getD_lt zs hi]
    simp [hi]
theorem Ul.nil (w : World) : Ul w (.slice none 0 0) [] := ⟨none, 0, rfl, Nat.le_refl _, by simp [maxLen], fun h => absurd rfl h⟩
theorem Ul.only {S : Nat → Prop} {w w' : World} {v : Value} {ks : List Int} (h : Ul w v ks) (ho : Only S w w') (hn : ∀ k, v.ownBlock = some k → ¬ S k) : Ul w' v ks := by
  obtain ⟨ao, cap, rfl, h1, h2, h3⟩ := h
  refine ⟨ao, cap, rfl, h1, h2, fun hne => ?_⟩
  obtain ⟨b, off, rfl, hc⟩ := h3 hne
  refine ⟨b, off, rfl, fun i hi => ?_⟩
  rw [World.cell?_of_block (w := w) (ho.block b (World.block_lt_of_cell? w _ (hc i hi)) (hn b rfl))]
  exact hc i hi

theorem Ul.shape {w : World} {v : Value} {ks : List Int} (h : Ul w v ks) : ∃ ao cap, v = .slice ao ks.length cap ∧ ks.length ≤ cap ∧ cap ≤ 9223372036854775807 := by
  obtain ⟨ao, cap, rfl, h1, h2, _⟩ := h
  exact ⟨ao, cap, rfl, h1, h2⟩
theorem Un.ul {w : World} {base : Nat} {v : Value} {ks : List Int} (h : Un w base v ks) : Ul w v ks := ul_of_own h
theorem tyU32 : Try.prog.underlying 23 = some (.slice (Try.prog.elem 23)) := by kernel_rfl
theorem szU32 (wx : World) : (Go.sizeOf (Try.prog.elem 23)).run Try.prog wx = .ok 1 wx := by kernel_rfl
theorem tyInts : Try.prog.underlying 44 = some (.slice (Try.prog.elem 44)) := by kernel_rfl
theorem szInts (wx : World) : (Go.sizeOf (Try.prog.elem 44)).run Try.prog wx = .ok 1 wx := by kernel_rfl
/-- l[1:] -/
theorem cut_1U (ao : Option Addr) (us : List Int) (cap : Nat) (hk : 1 ≤ us.length) (hn : us.length ≤ cap) (hc : cap ≤ 9223372036854775807) :
    ∃ a' c', (∀ wx, (Instr.slice 23 (.slice ao us.length cap) (some (.int .i64 1)) none none).run Try.prog wx = .ok (.slice a' (us.length - 1) c') wx) ∧
      ∀ wx, Ul wx (.slice ao us.length cap) us → Ul wx (.slice a' (us.length - 1) c') (us.drop 1) := by
  have hlen : (us.drop 1).length = us.length - 1 := by simp
  by_cases h : cap = 1
  · refine ⟨ao, 0, fun wx => ?_, fun wx hP => ⟨ao, 0, by rw [hlen], by rw [hlen]; omega, by simp [maxLen], fun hx => absurd (List.drop_of_length_le (by omega)) hx⟩⟩
    rw [run_slice_l wx 23 ao us.length cap tyU32 .i64 1 (by omega) (by omega), szU32]
    simp only [Result.andThen, sliced, show (1 : Int).toNat = 1 from rfl]
    rw [if_pos h, show cap - 1 = 0 by omega]
  · refine ⟨Option.map (fun x => x.add (1 * 1)) ao, cap - 1, fun wx => ?_, fun wx hP => ?_⟩
    · rw [run_slice_l wx 23 ao us.length cap tyU32 .i64 1 (by omega) (by omega), szU32]
      simp only [Result.andThen, sliced, show (1 : Int).toNat = 1 from rfl]
      rw [if_neg h]
    · obtain ⟨ao', cap', he, h1, h2, h3⟩ := hP
      simp only [Value.slice.injEq, true_and] at he
      obtain ⟨rfl, rfl⟩ := he
      refine ⟨_, _, by rw [hlen], by rw [hlen]; omega, by omega, fun hx => ?_⟩
      obtain ⟨b, off, rfl, hc2⟩ := h3 (by intro e; simp [e] at hx)
      refine ⟨b, off + 1 * 1, by simp [Addr.add], fun i hi => ?_⟩
      rw [hlen] at hi
      rw [show off + 1 * 1 + i = off + (1 + i) by omega, hc2 (1 + i) (by omega), show (us.drop 1).getD i 0 = us.getD (1 + i) 0 by simp only [List.getD, List.getElem?_drop]]
/-- l[1:] -/
theorem cut_1I (ao : Option Addr) (us : List Int) (cap : Nat) (hk : 1 ≤ us.length) (hn : us.length ≤ cap) (hc : cap ≤ 9223372036854775807) :
    ∃ a' c', (∀ wx, (Instr.slice 44 (.slice ao us.length cap) (some (.int .i64 1)) none none).run Try.prog wx = .ok (.slice a' (us.length - 1) c') wx) ∧
      ∀ wx, Is wx (.slice ao us.length cap) us → Is wx (.slice a' (us.length - 1) c') (us.drop 1) := by
  have hlen : (us.drop 1).length = us.length - 1 := by simp
  by_cases h : cap = 1
  · refine ⟨ao, 0, fun wx => ?_, fun wx hP => ⟨ao, 0, by rw [hlen], by rw [hlen]; omega, by simp [maxLen], fun hx => absurd (List.drop_of_length_le (by omega)) hx⟩⟩
    rw [run_slice_l wx 44 ao us.length cap tyInts .i64 1 (by omega) (by omega), szInts]
    simp only [Result.andThen, sliced, show (1 : Int).toNat = 1 from rfl]
    rw [if_pos h, show cap - 1 = 0 by omega]
  · refine ⟨Option.map (fun x => x.add (1 * 1)) ao, cap - 1, fun wx => ?_, fun wx hP => ?_⟩
    · rw [run_slice_l wx 44 ao us.length cap tyInts .i64 1 (by omega) (by omega), szInts]
      simp only [Result.andThen, sliced, show (1 : Int).toNat = 1 from rfl]
      rw [if_neg h]
    · obtain ⟨ao', cap', he, h1, h2, h3⟩ := hP
      simp only [Value.slice.injEq, true_and] at he
      obtain ⟨rfl, rfl⟩ := he
      refine ⟨_, _, by rw [hlen], by rw [hlen]; omega, by omega, fun hx => ?_⟩
      obtain ⟨b, off, rfl, hc2⟩ := h3 (by intro e; simp [e] at hx)
      refine ⟨b, off + 1 * 1, by simp [Addr.add], fun i hi => ?_⟩
      rw [hlen] at hi
      rw [show off + 1 * 1 + i = off + (1 + i) by omega, hc2 (1 + i) (by omega), show (us.drop 1).getD i 0 = us.getD (1 + i) 0 by simp only [List.getD, List.getElem?_drop]]

/-- postings that are read, each with the slice of its positions -/
def Pq (w : World) (v : Value) (xs : List PE) : Prop :=
  ∃ ao cap, v = .slice ao xs.length cap ∧ xs.length ≤ cap ∧ cap ≤ maxLen ∧ (xs ≠ [] → ∃ b off, ao = some ⟨b, off, none⟩ ∧ ∀ i, i < xs.length → w.cell? ⟨b, off + i * 2, none⟩ = some (.int .u32 ((xs.getD i (nilS, noPo)).2.doc : Int)) ∧ w.cell? ⟨b, off + i * 2 + 1, none⟩ = some (xs.getD i (nilS, noPo)).1)
/-- what they hold -/
def PqIn (w : World) (xs : List PE) : Prop := ∀ x ∈ xs, x.2.doc < 4294967296 ∧ Is w x.1 x.2.pos
theorem Pq.below {w w' : World} {v : Value} {xs : List PE} (h : Pq w v xs) (hb : Below w.heap.size w w') : Pq w' v xs := by
  obtain ⟨ao, cap, rfl, h1, h2, h3⟩ := h
  refine ⟨ao, cap, rfl, h1, h2, fun hne => ?_⟩
  obtain ⟨b, off, rfl, hc⟩ := h3 hne
  refine ⟨b, off, rfl, fun i hi => ?_⟩
  obtain ⟨c0, c1⟩ := hc i hi
  have hbb := hb.block b (World.block_lt_of_cell? w _ c0)
  exact ⟨(World.cell?_of_block (w := w) (a := ⟨b, _, none⟩) hbb).trans c0, (World.cell?_of_block (w := w) (a := ⟨b, _, none⟩) hbb).trans c1⟩
theorem PqIn.below {w w' : World} {xs : List PE} (h : PqIn w xs) (hb : Below w.heap.size w w') : PqIn w' xs := fun x hx => ⟨(h x hx).1, (h x hx).2.below hb⟩
theorem Pq.shape {w : World} {v : Value} {xs : List PE} (h : Pq w v xs) : ∃ ao cap, v = .slice ao xs.length cap ∧ xs.length ≤ cap ∧ cap ≤ 9223372036854775807 := by
  obtain ⟨ao, cap, rfl, h1, h2, _⟩ := h
  exact ⟨ao, cap, rfl, h1, h2⟩
theorem Pq.at {w : World} {ao : Option Addr} {n cap : Nat} {xs : List PE} (h : Pq w (.slice ao n cap) xs) (i : Nat) (hi : i < xs.length) : ∃ b off, ao = some ⟨b, off, none⟩ ∧ w.cell? ⟨b, off + i * 2, none⟩ = some (.int .u32 ((xs.getD i (nilS, noPo)).2.doc : Int)) ∧ w.cell? ⟨b, off + i * 2 + 1, none⟩ = some (xs.getD i (nilS, noPo)).1 := by
  obtain ⟨ao', cap', he, h1, h2, h3⟩ := h
  simp only [Value.slice.injEq] at he
  obtain ⟨rfl, rfl, rfl⟩ := he
  obtain ⟨b, off, rfl, hc⟩ := h3 (by intro e; simp [e] at hi)
  exact ⟨b, off, rfl, (hc i hi).1, (hc i hi).2⟩
theorem getD_pe (xs : List PE) (i : Nat) (hi : i < xs.length) : xs.getD i (nilS, noPo) = xs[i] := by simp [List.getD, hi]
theorem Pps.pq {w : World} {v : Value} {us : List Value} {ps : List Po} (h : Pps w v us ps) : Pq w v (us.zip ps) ∧ PqIn w (us.zip ps) ∧ (us.zip ps).map (·.2) = ps := by
  obtain ⟨hl, ao, cap, rfl, h1, h2, h3, h4⟩ := h
  have hz : (us.zip ps).length = ps.length := by simp [hl]
  have e1 : ∀ i, i < ps.length → (us.zip ps).getD i (nilS, noPo) = (us.getD i nilS, ps.getD i noPo) := fun i hi => by
    have hu : i < us.length := by omega
    simp [List.getD, hi, hu, List.getElem?_zip_eq_some, List.zip, List.getElem?_zipWith]
  refine ⟨⟨ao, cap, by rw [hz], by rw [hz]; exact h1, h2, fun hne => ?_⟩, fun x hx => ?_, ?_⟩
  · obtain ⟨b, off, rfl, hc⟩ := h4 (by intro e; subst e; simp at hne)
    refine ⟨b, off, rfl, fun i hi => ?_⟩
    rw [hz] at hi
    rw [e1 i hi]
    exact ⟨hc i hi 0 _ rfl, hc i hi 1 _ rfl⟩
  · obtain ⟨i, hi, rfl⟩ := List.mem_iff_getElem.1 hx
    have hi2 : i < ps.length := by omega
    have := e1 i hi2
    rw [getD_pe _ i hi] at this
    rw [this]
    exact h3 i hi2
  · rw [List.map_snd_zip (by omega)]
/-- l[1:] -/
theorem cut_1P (ao : Option Addr) (xs : List PE) (cap : Nat) (hk : 1 ≤ xs.length) (hn : xs.length ≤ cap) (hc : cap ≤ 9223372036854775807) :
    ∃ a' c', (∀ wx, (Instr.slice 47 (.slice ao xs.length cap) (some (.int .i64 1)) none none).run Try.prog wx = .ok (.slice a' (xs.length - 1) c') wx) ∧
      ∀ wx, Pq wx (.slice ao xs.length cap) xs → Pq wx (.slice a' (xs.length - 1) c') (xs.drop 1) := by
  have hlen : (xs.drop 1).length = xs.length - 1 := by simp
  by_cases h : cap = 1
  · refine ⟨ao, 0, fun wx => ?_, fun wx hP => ⟨ao, 0, by rw [hlen], by rw [hlen]; omega, by simp [maxLen], fun hx => absurd (List.drop_of_length_le (by omega)) hx⟩⟩
    rw [run_slice_l wx 47 ao xs.length cap tyPo .i64 1 (by omega) (by omega), szPo]
    simp only [Result.andThen, sliced, show (1 : Int).toNat = 1 from rfl]
    rw [if_pos h, show cap - 1 = 0 by omega]
  · refine ⟨Option.map (fun x => x.add (1 * 2)) ao, cap - 1, fun wx => ?_, fun wx hP => ?_⟩
    · rw [run_slice_l wx 47 ao xs.length cap tyPo .i64 1 (by omega) (by omega), szPo]
      simp only [Result.andThen, sliced, show (1 : Int).toNat = 1 from rfl]
      rw [if_neg h]
    · obtain ⟨ao', cap', he, h1, h2, h3⟩ := hP
      simp only [Value.slice.injEq, true_and] at he
      obtain ⟨rfl, rfl⟩ := he
      refine ⟨_, _, by rw [hlen], by rw [hlen]; omega, by omega, fun hx => ?_⟩
      obtain ⟨b, off, rfl, hc2⟩ := h3 (by intro e; simp [e] at hx)
      refine ⟨b, off + 1 * 2, by simp [Addr.add], fun i hi => ?_⟩
      rw [hlen] at hi
      rw [show off + 1 * 2 + i * 2 = off + (1 + i) * 2 by omega, show (xs.drop 1).getD i (nilS, noPo) = xs.getD (1 + i) (nilS, noPo) by simp only [List.getD, List.getElem?_drop]]
      exact hc2 (1 + i) (by omega)

end Go.Proofs.Ytfihnmdhclnhgaa
