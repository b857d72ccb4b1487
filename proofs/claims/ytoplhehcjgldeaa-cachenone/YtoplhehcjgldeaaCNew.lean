/- Contracts: cache.New; a page's bytes (incipitlaw05.page); whether two rows of numbers are the same (incipitref05.Ints). -/
import Derived.Test.YtoplhehcjgldeaaCPin
import Derived.Test.YtoplhehcjgldeaaDPage
import Derived.Test.YtoplhehcjgldeaaRCmp
namespace Go.Proofs.Ytoplhehcjgldeaa
open Go.RowKit
set_option linter.unusedVariables false
set_option maxRecDepth 100000

def newC (size : Nat) : Ch := ⟨size, [], 0, 0⟩
theorem newC_ok (n size : Nat) (h1 : 2 ≤ size) (h2 : size ≤ 64) : ChOk n (newC size) := ⟨h1, h2, Nat.zero_le _, List.nodup_nil, fun x hx => by cases hx⟩

section
variable (w0 w : World) (S X : Nat → Prop) (b : Nat) (G : Nat → Prop) (d : Dv)
theorem cnew_ok (h : Dev w b G d) (hG : ∀ k, G k → (S k ∨ w0.heap.size ≤ k) ∧ ¬ X k) (hX : ∀ k, X k → k < w.heap.size) (hS : Only S w0 w) (size : Nat) (h1 : 2 ≤ size) (h2 : size ≤ 64) :
    Calls Try.prog 8 #[dp b, .int .i64 size] w fun e w' => ∃ c, e = .returned (.tuple #[dp c, .int .i64 0]) ∧ Duos w0 S X w' c b (newC size) d ∧ Below w.heap.size w w' := by
  have HP := hide (pages_any w b G d h)
  have hp : (d.st.length : Int) ≠ 0 := by have := h.ok.pos; omega
  have i1 : ¬ (size : Int) < 2 := by omega
  have i2 : ¬ (64 : Int) < (size : Int) := by omega
  have hmm := @run_makeMap Try.prog
  have HD := hide h
  clear h
  go_enter Try.func8, Try.ntmps8
  go_wp2_with (go_at_call 27; refine HP.out.mono ?_; rintro e w1 ⟨rfl, hw⟩; subst w1; clear HP)
  go_ret2
  have hs0 := hS.size
  have hb : Below w.heap.size w ((w.alloc (.map #[] 0)).alloc (.cells #[dp b, .int .i64 size, .map (some w.heap.size), .slice none 0 0, .int .i64 0, .int .i64 0] 53)) := ((Below.refl _ w).alloc (Nat.le_refl _) _).alloc (by simp) _
  have hB := Blk.new (w.alloc (.map #[] 0)) 53 [dp b, .int .i64 size, .map (some w.heap.size), .slice none 0 0, .int .i64 0, .int .i64 0]
  rw [World.size_alloc] at hB
  refine ⟨w.heap.size + 1, rfl, ⟨fun k => k = w.heap.size ∨ k = w.heap.size + 1, fun k => G k ∧ k < w.heap.size, ⟨w.heap.size, .slice none 0 0, .map [], fun _ => 0, hB, Ints.nil _ _, ?_, .inr rfl, (fun k hk => by cases hk), Nat.zero_le _⟩, ?_, (fun k hk hg => by omega), fun k hk => ?_, fun k hk => ?_, hS.trans (Only.of_below (fun _ => False) hb) (fun _ _ h => h.elim), newC_ok _ _ h1 h2⟩, hb⟩
  · exact ⟨(World.ownsMap_made w Try.prog 3 slotElem).alloc _, (fun p => rfl), (fun x hx => by cases hx), rfl, (fun x hx => by cases hx), (fun x hx => by cases hx), List.nodup_nil, (fun x hx => by cases hx), Nat.zero_le _, .inl rfl, (fun x hx => by cases hx)⟩
  · exact (HD.out.bound).keep (Only.of_below (fun _ => False) hb) (fun _ _ h => h)
  · simp only [World.size_alloc]
    rcases hk with hk | hk
    · refine ⟨.inr (by omega), fun hx => ?_, by omega⟩
      have := hX k hx
      omega
    · exact ⟨(hG k hk.1).1, (hG k hk.1).2, by have := hk.2; omega⟩
  · simp only [World.size_alloc]
    have := hX k hk
    omega
end

def pg (z : Int) : List Int := pageS [z, z, z, z]
theorem pg_bytes {z : Int} (h0 : 0 ≤ z) (h1 : z ≤ 255) : ByteOk [z, z, z, z] := by intro y hy; simp at hy; omega
theorem pg_ok {z : Int} (h0 : 0 ≤ z) (h1 : z ≤ 255) : PageOk (pg z) := pageS_ok (pg_bytes h0 h1)
theorem page5_any (w : World) (z : Int) (h0 : 0 ≤ z) (h1 : z ≤ 255) : Calls Try.prog 11 #[.int .u8 z] w fun e w' => ∃ g, e = .returned (.slice (some ⟨g, 0, none⟩) 256 256) ∧ Blk w' g 5 (pc (pg z)) ∧ w.heap.size ≤ g ∧ Below w.heap.size w w' := by
  have HP : Hid (Calls Try.prog _ _ _ _) := page_any (w.alloc (.cells #[.int .u8 z, .int .u8 z, .int .u8 z, .int .u8 z] 5)) _ [z, z, z, z] (sl_lit w 5 [z, z, z, z] (pg_bytes h0 h1) (by simp [maxLen]))
  go_enter Try.func11, Try.ntmps11
  go_wp2_with (go_at_call 34; refine HP.out.mono ?_; rintro e w1 ⟨rfl, hp1, hb1⟩; have HQ := hide hp1; have HB := hide hb1; clear HP hp1 hb1)
  go_ret
  have k := HQ.out
  rw [World.size_alloc] at k
  exact ⟨_, rfl, k, by omega, after_alloc HB.out⟩

end Go.Proofs.Ytoplhehcjgldeaa
