/- Contract: a new device. -/
import Derived.Test.YtoplhehcjgldeaaDDev
namespace Go.Proofs.Ytoplhehcjgldeaa
open Go.RowKit
set_option linter.unusedVariables false

def zeroPage : List Int := List.replicate 256 0
def newD (n : Nat) : Dv := ⟨List.replicate n zeroPage, [], false, none, 0⟩
def pageZero : Array Value := Array.replicate 256 (.int .u8 0)
theorem zeroPage_ok : PageOk zeroPage := ⟨List.length_replicate, fun z hz => by rw [(List.mem_replicate.1 hz).2]; omega⟩
theorem newD_ok {n : Nat} (h : 0 < n) (h2 : n ≤ 2048) : DvOk (newD n) :=
  ⟨by simpa [newD] using h, by simpa [newD] using h2, fun r hr => by
    obtain rfl := (List.mem_replicate.1 hr).2
    exact zeroPage_ok, (fun x hx => by cases hx), (fun m hm => by cases hm)⟩

theorem infoPage : (Try.prog.info? 76).map (fun i => (i.zero, i.size, i.bytes)) = some (some (.agg pageZero), 256, 256) := by kernel_rfl

theorem flatS_zero (n : Nat) : flatS (List.replicate n zeroPage) = List.replicate (n * 256) (Value.int .u8 0) := by
  apply List.eq_replicate_iff.2
  constructor
  · rw [flatS_len (fun r hr => by obtain rfl := (List.mem_replicate.1 hr).2; exact zeroPage_ok)]; simp
  · intro v hv
    unfold flatS at hv
    obtain ⟨l, hl, hv⟩ := List.mem_flatten.1 hv
    obtain ⟨r, hr, rfl⟩ := List.mem_map.1 hl
    obtain rfl := (List.mem_replicate.1 hr).2
    unfold pc at hv
    obtain ⟨z, hz, rfl⟩ := List.mem_map.1 hv
    rw [(List.mem_replicate.1 hz).2]
theorem madeCells_rep (m : Nat) (z : Value) (hm : 0 < m) (n : Nat) : (madeCells (Array.replicate m z) n).toList = List.replicate n z := by
  apply List.eq_replicate_iff.2
  constructor
  · simp [madeCells]
  · intro v hv
    simp only [madeCells, Array.mem_toList_iff, Array.mem_map] at hv
    obtain ⟨i, _, rfl⟩ := hv
    have : i % m < m := Nat.mod_lt _ hm
    simp [this]
theorem made_page (n : Nat) : (madeCells (Value.agg pageZero).cells (n * 256)).toList = flatS (List.replicate n zeroPage) := by
  rw [flatS_zero]
  exact madeCells_rep 256 _ (by decide) _

theorem new_bad (w : World) (p : Int) (h : p < 8 ∨ 2048 < p) : Calls Try.prog 7 #[.int .i64 p] w fun e w' => e = .returned (.tuple #[.pointer none, .int .i64 1]) ∧ w' = w := by
  by_cases h1 : p < 8
  · go_enter Try.func7, Try.ntmps7
    go_wp2
    go_ret2
    exact ⟨rfl, rfl⟩
  · have h2 : 2048 < p := by omega
    clear h
    go_enter Try.func7, Try.ntmps7
    go_wp2
    go_ret2
    exact ⟨rfl, rfl⟩

set_option maxHeartbeats 400000 in
theorem new_ok (w : World) (n : Nat) (h1 : 8 ≤ n) (h2 : n ≤ 2048) : Calls Try.prog 7 #[.int .i64 n] w fun e w' => ∃ b, e = .returned (.tuple #[dp b, .int .i64 0]) ∧ Dev w' b (fun k => w.heap.size ≤ k) (newD n) ∧ Below w.heap.size w w' := by
  obtain ⟨i0, hi, hz0, hz1, hz2⟩ := info_parts infoPage
  have i1 : ¬ (n : Int) < 8 := by omega
  have i2 : ¬ (2048 : Int) < (n : Int) := by omega
  have hmm := @run_makeMap Try.prog
  go_enter Try.func7, Try.ntmps7
  go_wp2_with (at_make; refine wpList_make_full _ rfl _ _ 46 rfl 0 76 i0 (.agg pageZero) 256 Try.underlying46 hi hz0 hz1 _ _ _ _ n rfl rfl rfl rfl (by rw [hz2]; omega) (by unfold maxLen; omega) (Nat.zero_le _) ?_; intro w1 hown hg; rw [made_page] at hown; have HO := hide hown; clear hown)
  go_ret2
  have hs := hg.size
  have hlt := (HO.out.lt w.heap.size rfl).2
  have e : (newD n).st.length = n := List.length_replicate
  refine ⟨w1.heap.size + 1, rfl, ⟨w.heap.size, n, w1.heap.size, .slice none 0 0, 0, .map [], newD_ok (by omega) h2, ?_, (fun m hm => by cases hm), ?_, World.ownsRow_nil _ _ _ _, ?_, shown_nil, ?_, Nat.le_refl _, hs, (fun k hk => by cases hk)⟩, ?_⟩
  · rw [e]
    have := Blk.new (w1.alloc (.map #[] 0)) 50 [.slice (some ⟨w.heap.size, 0, none⟩) n n, .slice none 0 0, .map (some w1.heap.size), .bool true, .bool false, .int .i64 0, .int .i64 0]
    rw [World.size_alloc] at this
    exact this
  · rw [e]
    exact (HO.out.alloc _).alloc _
  · exact (World.ownsMap_made w1 Try.prog 3 (plainElem Try.prog 3)).alloc _
  · show w.heap.size ≤ w1.heap.size + 1
    omega
  · exact (((Below.refl _ w).grown hg (Nat.le_refl _) (fun k hk => by cases hk)).alloc hs _).alloc (by simp; omega) _

end Go.Proofs.Ytoplhehcjgldeaa
