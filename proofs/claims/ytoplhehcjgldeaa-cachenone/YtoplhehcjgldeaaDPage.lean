/- Contract: a page's bytes, of a few (incipitlaw03.Page). -/
import Derived.Test.YtoplhehcjgldeaaDNew
import Derived.Test.YtoplhehcjgldeaaCut
namespace Go.Proofs.Ytoplhehcjgldeaa
open Go.RowKit
set_option linter.unusedVariables false

def pageS (bs : List Int) : List Int := (List.range 256).map (fun i => bs.getD (i / 64) 0)
theorem pageS_len (bs : List Int) : (pageS bs).length = 256 := by unfold pageS; rw [List.length_map, List.length_range]
theorem pageS_ok {bs : List Int} (h : ByteOk bs) : PageOk (pageS bs) := ⟨pageS_len bs, fun z hz => by
  obtain ⟨i, _, rfl⟩ := List.mem_map.1 hz
  exact h.get _⟩
theorem pageS_get (bs : List Int) {k : Nat} (h : k < 256) : (pageS bs)[k]? = some (bs.getD (k / 64) 0) := by
  unfold pageS
  rw [List.getElem?_map, List.getElem?_range h]; rfl
/-- the page while it is filled -/
def pageK (bs : List Int) (k : Nat) : List Int := (pageS bs).take k ++ List.replicate (256 - k) 0
theorem pageK_len (bs : List Int) {k : Nat} (h : k ≤ 256) : (pageK bs k).length = 256 := by
  unfold pageK
  rw [List.length_append, List.length_take, pageS_len, List.length_replicate]; omega
theorem pageK_set (bs : List Int) {k : Nat} (h : k < 256) : (pageK bs k).set k (bs.getD (k / 64) 0) = pageK bs (k + 1) := by
  unfold pageK
  have hl : ((pageS bs).take k).length = k := by rw [List.length_take, pageS_len]; omega
  rw [List.set_append_right _ _ (by omega), hl, Nat.sub_self, show 256 - k = (256 - (k + 1)) + 1 by omega, List.replicate_succ, List.set_cons_zero]
  rw [List.take_add_one, pageS_get bs h, List.append_assoc]; rfl
theorem pageK_same (bs : List Int) {k : Nat} (h : k < 256) (hb : bs.length ≤ k / 64) : pageK bs k = pageK bs (k + 1) := by
  rw [← pageK_set bs h, getD_ge bs hb]
  unfold pageK
  have hl : ((pageS bs).take k).length = k := by rw [List.length_take, pageS_len]; omega
  rw [List.set_append_right _ _ (by omega), hl, Nat.sub_self, show 256 - k = (256 - (k + 1)) + 1 by omega, List.replicate_succ, List.set_cons_zero]

set_option maxHeartbeats 1000000 in
theorem page_any (w : World) (v : Value) (bs : List Int) (h : Sl w v bs) :
    Calls Try.prog 34 #[v] w fun e w' => e = .returned (.slice (some ⟨w.heap.size, 0, none⟩) 256 256) ∧ Blk w' w.heap.size 5 (pc (pageS bs)) ∧ Below w.heap.size w w' := by
  obtain ⟨i0, hi, hz0, hz1, hz2⟩ := info_parts infoU8
  have HS := hide h
  obtain ⟨ao, cap, rfl⟩ := sl_form' h
  have hcap := (sl_cap h).2
  unfold maxLen at hcap
  clear h
  go_enter Try.func34, Try.ntmps34
  go_wp2_with (at_make; refine wpList_make_full _ rfl _ _ 35 rfl w.heap.size 5 i0 (.int .u8 0) 1 Try.underlying35 hi hz0 hz1 _ _ _ _ 256 rfl rfl rfl rfl (by rw [hz2]; omega) (by unfold maxLen; omega) (Nat.le_refl _) ?_; intro w1 hown hg; rw [madeBytes] at hown; have HO := hide hown; have HG := hide hg; clear hown hg)
  go_loopg [9] 256 (fun g i wr => ∃ k : Nat, g + k = 256 ∧ i = .int .i64 k ∧ Blk wr w.heap.size 5 (pc (pageK bs k)) ∧ Below w.heap.size w wr)
  case atStart =>
    refine ⟨0, rfl, rfl, ?_, (Below.refl _ w).grown HG.out (Nat.le_refl _) (fun k hk => by cases hk)⟩
    have := own_heap HO.out
    unfold Blk
    rw [this]
    unfold pageK pc
    rw [List.take_zero, List.nil_append, List.map_replicate]
  case round =>
    obtain ⟨k, hk, rfl, hB, hb⟩ := hrel
    have HB := hide hB
    have Hb := hide hb
    cases gk with
    | zero =>
      obtain rfl : k = 256 := by omega
      clear hB hb
      go_wp2
      go_ret
      refine ⟨rfl, ?_, Hb.out⟩
      have := HB.out
      unfold pageK at this
      rw [List.take_of_length_le (by rw [pageS_len]; omega)] at this
      simpa using this
    | succ g =>
      have hkl : k < 256 := by omega
      have hki : (k : Int) < 256 := by omega
      have hq : (k : Int) / 64 = ((k / 64 : Nat) : Int) := by omega
      by_cases hin : k / 64 < bs.length
      · have hini : ((k / 64 : Nat) : Int) < (bs.length : Int) := by omega
        obtain ⟨q, hqq⟩ : ∃ q, q = k / 64 := ⟨_, rfl⟩
        rw [← hqq] at hq hini hin
        have HQ := hide hqq
        obtain ⟨_, ao', cap', he, _, _, _, h4⟩ := HS.out.below hb
        simp only [Value.slice.injEq, true_and] at he
        obtain ⟨rfl, rfl⟩ := he
        obtain ⟨sb, so, rfl, hc⟩ := h4 (by intro h; simp [h] at hin)
        have c1 := hc q hin
        obtain ⟨c, hcc⟩ : ∃ c, c = bs.getD q 0 := ⟨_, rfl⟩
        rw [← hcc] at c1
        have HC := hide hcc
        have ck := Blk.cell hB k
        have hl : k < (pc (pageK bs k)).length := by rw [pc_len, pageK_len bs (by omega)]; exact hkl
        rw [List.getElem?_eq_getElem hl] at ck
        generalize (pc (pageK bs k))[k] = old at ck
        have fk := Blk.frozen hB k
        clear hqq hcc hB hb h4 hc
        go_wp2
        go_roundg g
        case measure => omega
        case rel =>
          refine ⟨k + 1, by omega, by go_num, ?_, Hb.out.setCell (Nat.le_refl _) _⟩
          have := Blk.set HB.out k (.int .u8 c)
          rw [← pageK_set bs hkl, ← HQ.out, ← HC.out]
          unfold pc at this ⊢
          rw [List.map_set]
          exact this
      · have hini : ¬ ((k / 64 : Nat) : Int) < (bs.length : Int) := by omega
        obtain ⟨q, hqq⟩ : ∃ q, q = k / 64 := ⟨_, rfl⟩
        rw [← hqq] at hq hini hin
        have HQ := hide hqq
        clear hqq hB hb
        go_wp2
        go_roundg g
        case measure => omega
        case rel =>
          refine ⟨k + 1, by omega, by go_num, ?_, Hb.out⟩
          rw [← pageK_same bs hkl (by rw [← HQ.out]; omega)]
          exact HB.out

end Go.Proofs.Ytoplhehcjgldeaa
