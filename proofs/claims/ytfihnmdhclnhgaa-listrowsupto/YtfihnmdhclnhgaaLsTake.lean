/- One word more: its postings and its place, each put behind a row that is owned. No package's function. -/
import Derived.Test.YtfihnmdhclnhgaaLsPsO
import Derived.Test.YtfihnmdhclnhgaaLsPost
namespace Go.Proofs.Ytfihnmdhclnhgaa
set_option maxRecDepth 20000
open Go.RowKit
set_option linter.unusedVariables false
set_option linter.unusedSimpArgs false
set_option maxRecDepth 100000

theorem PpO.base {w : World} {base base' : Nat} {v : Value} {xs : List PE} (h : PpO w base v xs) (hb : base' ≤ base) : PpO w base' v xs := by
  refine ⟨⟨h.row.1, ?_⟩, h.each⟩
  rcases h.row.2 with h' | ⟨g, cap, cur, e, h1, r⟩
  · exact .inl h'
  · exact .inr ⟨g, cap, cur, e, Nat.le_trans hb h1, r⟩
theorem PpO.xlt {w : World} {base : Nat} {v : Value} {xs : List PE} (h : PpO w base v xs) : ∀ x ∈ xs, ∀ j, x.1.ownBlock = some j → j < w.heap.size := fun x hx j hj => ((h.each x hx).2.lt j hj).2
theorem take_word (wr : World) (base : Nat) (v7 : Value) (us : List Value) (ls : List (List PE)) (v8 : Value) (js : List Int) (h7 : PsO wr base v7 us ls) (h8 : Ints wr base v8 js)
    (s7 : SepV v7 us ls) (s8 : SepV v8 us ls) (s78 : ∀ j, v7.ownBlock = some j → v8.ownBlock ≠ some j) (w2 : World) (hb2 : Below wr.heap.size wr w2) (a : Option Addr) (n c : Nat) (zs : List PE) (hu : PpO w2 wr.heap.size (.slice a n c) zs)
    (hfr : ∀ x ∈ zs, ∀ q, x.1.ownBlock = some q → wr.heap.size ≤ q) (hl : us.length ≤ 10) (hj : js.length ≤ 10) (hbase : base ≤ wr.heap.size) (x : Int) :
    ∃ a7 c7 w3, (Builtin.append_ #[45, 45] 45 #[v7, .slice (some ⟨w2.heap.size, 0, none⟩) 1 1]).run Try.prog (w2.alloc (.cells #[.slice a n c] 47)) = .ok (.slice a7 (us.length + 1) c7) w3 ∧
      ∃ a8 c8 w4, (Builtin.append_ #[44, 44] 44 #[v8, .slice (some ⟨w3.heap.size, 0, none⟩) 1 1]).run Try.prog (w3.alloc (.cells #[.int .i64 x] 3)) = .ok (.slice a8 (js.length + 1) c8) w4 ∧
      PsO w4 base (.slice a7 (us.length + 1) c7) (us ++ [.slice a n c]) (ls ++ [zs]) ∧ Ints w4 base (.slice a8 (js.length + 1) c8) (js ++ [x]) ∧ SepV (.slice a7 (us.length + 1) c7) (us ++ [.slice a n c]) (ls ++ [zs]) ∧ SepV (.slice a8 (js.length + 1) c8) (us ++ [.slice a n c]) (ls ++ [zs]) ∧
      (∀ j, (Value.slice a7 (us.length + 1) c7).ownBlock = some j → (Value.slice a8 (js.length + 1) c8).ownBlock ≠ some j) ∧ Below base wr w4 := by
  have hsz := hb2.size
  have l7 := h7.lt
  have l8 : ∀ j, v8.ownBlock = some j → base ≤ j ∧ j < wr.heap.size := fun j hj => h8.lt j hj
  have lu : ∀ j, (Value.slice a n c).ownBlock = some j → wr.heap.size ≤ j ∧ j < w2.heap.size := fun j hj => hu.lt j hj
  have lx : ∀ z ∈ zs, ∀ j, z.1.ownBlock = some j → wr.heap.size ≤ j ∧ j < w2.heap.size := fun z hz j hj => ⟨hfr z hz j hj, hu.xlt z hz j hj⟩
  obtain ⟨v7', w3, hr3, hp3, ho3, hv3, a7, c7, rfl⟩ := push_ps w2 base v7 us ls (h7.fresh hb2) s7 a n c zs (hu.base hbase) (fun j e e' => by have := (l7.1 j e).2; have := (lu j e').1; omega) (fun j e z hz e' => by have := (l7.1 j e).2; have := (lx z hz j e').1; omega) (by omega) (by omega)
  have hs3 := ho3.size
  have h83 : Ints w3 base v8 js := (h8.only (Only.of_below (fun _ => False) hb2) (fun _ _ h => h)).only ho3 (fun j hj e => s78 j e hj)
  obtain ⟨v8', w4, hr4, hi4, hg4, hv4, a8, c8, rfl⟩ := run_append_intL w3 base v8 js h83 x (by omega) (by omega)
  have ho4 : Only (fun j => v8.ownBlock = some j) w3 w4 := ((Only.refl _ w3).alloc _).grown hg4 (fun j e _ => e)
  have l7' : ∀ j, (Value.slice a7 (us.length + 1) c7).ownBlock = some j → v7.ownBlock = some j ∨ w2.heap.size < j ∧ j < w3.heap.size := fun j hj => by
    rcases hv3 with e | ⟨k, e, hk⟩
    · exact .inl (e ▸ hj)
    · have h2 := (hp3.lt.1 j hj).2
      rw [e] at hj
      have := Option.some.inj hj
      exact .inr ⟨by omega, h2⟩
  have l8' : ∀ j, (Value.slice a8 (js.length + 1) c8).ownBlock = some j → v8.ownBlock = some j ∨ w3.heap.size < j := fun j hj => by
    rcases hv4 with e | e
    · exact .inl (e ▸ hj)
    · rw [e] at hj
      have := Option.some.inj hj
      exact .inr (by omega)
  have mu : ∀ u ∈ us ++ [Value.slice a n c], ∀ j, u.ownBlock = some j → (u ∈ us ∧ j < wr.heap.size) ∨ (wr.heap.size ≤ j ∧ j < w2.heap.size) := fun u hu' j hj => by
    rcases List.mem_append.1 hu' with h | h
    · exact .inl ⟨h, l7.2.1 u h j hj⟩
    · rw [List.mem_singleton] at h
      subst h
      exact .inr (lu j hj)
  have ml : ∀ l ∈ ls ++ [zs], ∀ z ∈ l, ∀ j, z.1.ownBlock = some j → (l ∈ ls ∧ j < wr.heap.size) ∨ (wr.heap.size ≤ j ∧ j < w2.heap.size) := fun l hl' z hz j hj => by
    rcases List.mem_append.1 hl' with h | h
    · exact .inl ⟨h, l7.2.2 l h z hz j hj⟩
    · rw [List.mem_singleton] at h
      subst h
      exact .inr (lx z hz j hj)
  have d8 : ∀ j, v8.ownBlock = some j → (Value.slice a7 (us.length + 1) c7).ownBlock ≠ some j := fun j hj e => by
    rcases l7' j e with h | h
    · exact s78 j h hj
    · have := (l8 j hj).2; omega
  have e8u : ∀ u ∈ us ++ [Value.slice a n c], ∀ j, u.ownBlock = some j → v8.ownBlock ≠ some j := fun u hu' j hj e => by
    rcases mu u hu' j hj with h | h
    · exact (s8 j e).1 u h.1 hj
    · have := (l8 j e).2; omega
  have e8l : ∀ l ∈ ls ++ [zs], ∀ z ∈ l, ∀ j, z.1.ownBlock = some j → v8.ownBlock ≠ some j := fun l hl' z hz j hj e => by
    rcases ml l hl' z hz j hj with h | h
    · exact (s8 j e).2 l h.1 z hz hj
    · have := (l8 j e).2; omega
  refine ⟨a7, c7, w3, hr3, a8, c8, w4, hr4, hp3.only ho4 (fun j hj e => d8 j e hj) (fun u hu' j hj e => e8u u hu' j hj e) (fun l hl' z hz j hj e => e8l l hl' z hz j hj e), hi4, ?_, ?_, ?_, ?_⟩
  · intro j hj
    rcases l7' j hj with h | h
    · refine ⟨fun u hu' e => ?_, fun l hl' z hz e => ?_⟩
      · rcases mu u hu' j e with h2 | h2
        · exact (s7 j h).1 u h2.1 e
        · have := (l7.1 j h).2; omega
      · rcases ml l hl' z hz j e with h2 | h2
        · exact (s7 j h).2 l h2.1 z hz e
        · have := (l7.1 j h).2; omega
    · refine ⟨fun u hu' e => ?_, fun l hl' z hz e => ?_⟩
      · rcases mu u hu' j e with h2 | h2 <;> omega
      · rcases ml l hl' z hz j e with h2 | h2 <;> omega
  · intro j hj
    rcases l8' j hj with h | h
    · exact ⟨fun u hu' e => e8u u hu' j e h, fun l hl' z hz e => e8l l hl' z hz j e h⟩
    · refine ⟨fun u hu' e => ?_, fun l hl' z hz e => ?_⟩
      · rcases mu u hu' j e with h2 | h2 <;> omega
      · rcases ml l hl' z hz j e with h2 | h2 <;> omega
  · intro j hj e
    rcases l8' j e with h | h
    · exact d8 j h hj
    · rcases l7' j hj with h2 | h2
      · have := (l7.1 j h2).2; omega
      · omega
  · exact (hb2.mono hbase).trans ((ho3.below (by omega) (fun k hk e => by have := (l7.1 k e).1; omega)).trans (ho4.below (by omega) (fun k hk e => by have := (l8 k e).1; omega)))

end Go.Proofs.Ytfihnmdhclnhgaa
