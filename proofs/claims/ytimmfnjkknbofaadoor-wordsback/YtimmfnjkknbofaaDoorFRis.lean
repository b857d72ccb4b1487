/- Contracts: package fold's isRising, Plain; isNoRange asked of all ranges. -/
import Derived.Test.YtimmfnjkknbofaaDoorFChk
namespace Go.Proofs.YtimmfnjkknbofaaDoor
set_option maxRecDepth 20000
open Go.RowKit
set_option linter.unusedVariables false
set_option linter.unusedSimpArgs false
set_option maxRecDepth 100000

/-- each range begins behind the last rune that the one ahead of it folds -/
def riseL : Int → List Fd → Bool
  | _, [] => true
  | l, x :: xs => !decide (x.1 ≤ l) && riseL (x.1 + x.2.2 - 1) xs

theorem riseL_no {l : Int} {x : Fd} {xs : List Fd} (h : x.1 ≤ l) : riseL l (x :: xs) = false := by rw [riseL, decide_eq_true h]; rfl
theorem riseL_on {l : Int} {x : Fd} {xs : List Fd} (h : ¬ x.1 ≤ l) : riseL l (x :: xs) = riseL (x.1 + x.2.2 - 1) xs := by rw [riseL, decide_eq_false h]; rfl

set_option maxHeartbeats 1000000 in
theorem isRising_any (w : World) (v : Value) (xs : List Fd) (hT : Tbl w v xs) (hN : ∀ x ∈ xs, NOk x.2.2) :
    Calls Tryd.prog 61 #[v] w fun e w' => e = .returned (.bool (riseL (-1) xs)) ∧ Below w.heap.size w w' := by
  obtain ⟨ao, cap, rfl⟩ := hT.len
  have hmx := hT.max
  have HT := hide hT
  have HN := hide hN
  obtain ⟨n, hn⟩ : ∃ n, xs.length = n := ⟨_, rfl⟩
  have HL := hide hn
  rw [hn] at HT hmx ⊢
  clear hT hN hn
  go_enter Tryd.func61, Tryd.ntmps61
  go_wp2
  go_loopg [3, 9] n (fun k l i wr => ∃ (j : Nat) (z : Int), k + j = n ∧ i = .int .i64 (j : Int) ∧ l = .int .i64 z ∧ riseL z (xs.drop j) = riseL (-1) xs ∧ Below w.heap.size w wr)
  case atStart => exact ⟨0, -1, rfl, rfl, rfl, rfl, Below.refl _ w⟩
  case round =>
    obtain ⟨j, z, hk, rfl, rfl, hs, hbw⟩ := hrel
    have HS := hide hs
    have HB := hide hbw
    clear hs hbw
    cases gk with
    | zero =>
      obtain rfl : j = n := by omega
      have hlt : ¬ (j : Int) < (j : Int) := by omega
      go_wp2
      go_ret
      exact ⟨ret_bool (by rw [← HS.out, List.drop_eq_nil_of_le (by rw [HL.out]; exact Nat.le_refl _)]; rfl), HB.out⟩
    | succ k =>
      have hj : (j : Int) < (n : Int) := by omega
      obtain ⟨b, off, ⟨f, t, m⟩, rfl, hx, hok, q0, q1, q2⟩ := (HT.out.below HB.out).at j (by rw [HL.out]; omega)
      simp only at q0 q1 q2
      have hd := drop_at hx
      have hm : NOk m := HN.out _ (List.mem_of_getElem? hx)
      have hf : I32 f := hok.1
      obtain ⟨W0, hW0⟩ : ∃ W0, wr.alloc (.cells #[.int .i32 f, .int .i32 t, .int .i64 m] 54) = W0 := ⟨_, rfl⟩
      have hb0 : Below w.heap.size w W0 := by rw [← hW0]; exact HB.out.alloc HB.out.size _
      have c0 : W0.cell? ⟨wr.heap.size, 0, none⟩ = some (.int .i32 f) := by rw [← hW0, World.cell?_alloc_at _ _ _ _ rfl]; rfl
      have c1 : W0.cell? ⟨wr.heap.size, 1, none⟩ = some (.int .i32 t) := by rw [← hW0, World.cell?_alloc_at _ _ _ _ rfl]; rfl
      have c2 : W0.cell? ⟨wr.heap.size, 2, none⟩ = some (.int .i64 m) := by rw [← hW0, World.cell?_alloc_at _ _ _ _ rfl]; rfl
      have HF := hide (fromRow_any W0 f t m hf hm)
      have HB0 := hide hb0
      clear hb0 hx hok hf hm
      by_cases hin : f ≤ z
      · have HR : Hid (riseL (-1) xs = false) := by rw [← HS.out, hd]; exact riseL_no (x := (f, t, m)) hin
        clear hd
        go_wp2_with (go_at_call 80; refine HF.out.mono ?_; rintro e w1 ⟨rfl, hb⟩; have HBL := hide (HB0.out.trans (hb.mono HB0.out.size)); clear HF hb c0 c1 c2; unfold rowV)
        go_ret
        exact ⟨ret_bool HR.out.symm, HBL.out.alloc HBL.out.size _⟩
      · have HR : Hid (riseL (f + m - 1) (xs.drop (j + 1)) = riseL (-1) xs) := by rw [← HS.out, hd]; exact (riseL_on (x := (f, t, m)) hin).symm
        clear hd
        go_wp2_with (go_at_call 80; refine HF.out.mono ?_; rintro e w1 ⟨rfl, hb⟩; have HBL := hide (HB0.out.trans (hb.mono HB0.out.size)); clear HF hb c0 c1 c2; unfold rowV)
        go_roundg k
        case measure => omega
        case rel => exact ⟨j + 1, f + m - 1, by omega, by go_num, rfl, HR.out, HBL.out.alloc HBL.out.size _⟩

def plainL : List Fd := [(65, 97, 26), (192, 224, 23), (216, 248, 7), (913, 945, 17), (931, 963, 7), (1040, 1072, 32)]

end Go.Proofs.YtimmfnjkknbofaaDoor
