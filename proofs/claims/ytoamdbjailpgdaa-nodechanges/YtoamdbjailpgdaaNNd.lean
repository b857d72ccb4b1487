/- A node in memory of its own ('NdN'): rows of pairs and keys, numbers, texts that nothing else has. No package's function. -/
import Derived.Test.YtoamdbjailpgdaaNPut
namespace Go.Proofs.Ytoamdbjailpgdaa
set_option maxRecDepth 20000
open Go.RowKit
set_option linter.unusedVariables false
set_option linter.unusedSimpArgs false
set_option maxRecDepth 100000

def lenV : Value → Nat
  | .slice _ n _ => n
  | _ => 0
/-- x lies in rows of bytes from 'base' on, and, if in v's row, within v's length -/
def Held (w : World) (base : Nat) (v x : Value) : Prop := ∀ b, x.ownBlock = some b → base ≤ b ∧ (∃ cs, Blk w b 5 cs) ∧ (v.ownBlock = some b → ∃ off n c, x = .slice (some ⟨b, off, none⟩) n c ∧ off + n ≤ lenV v)

def flatP (xs : List (Value × Value)) : List Value := (xs.map fun x => [x.1, x.2]).flatten
theorem flatP_len (xs : List (Value × Value)) : (flatP xs).length = xs.length * 2 := by
  unfold flatP
  rw [flat_len (m := 2) _ (fun r hr => by obtain ⟨x, _, rfl⟩ := List.mem_map.1 hr; rfl), List.length_map]
theorem flatP_snoc (xs : List (Value × Value)) (x : Value × Value) : flatP (xs ++ [x]) = flatP xs ++ [x.1, x.2] := by simp [flatP]

theorem row_not_blk {W : World} {base : Nat} {e e' : TypeId} {size n b : Nat} {v : Value} {xs cs : List Value} (h : W.ownsRow base e size v n xs) (hb : Blk W b e' cs) (hne : e ≠ e') : v.ownBlock ≠ some b := fun he => by
  rcases h.2 with ⟨h1, _⟩ | ⟨g, cap, cur, h1, _, h3, _⟩
  · rw [h1] at he; cases he
  · rw [h1] at he
    obtain rfl : g = b := by simpa [Value.ownBlock] using he
    have := h3.symm.trans hb
    simp at this
    exact hne this.2
theorem row_blk {W : World} {base : Nat} {e : TypeId} {size n j : Nat} {v : Value} {xs : List Value} (h : W.ownsRow base e size v n xs) (hj : v.ownBlock = some j) : base ≤ j ∧ ∃ cs, Blk W j e cs := by
  rcases h.2 with ⟨h1, _⟩ | ⟨g, cap, cur, h1, h2, h3, _⟩
  · rw [h1] at hj; cases hj
  · rw [h1] at hj
    obtain rfl : g = j := by simpa [Value.ownBlock] using hj
    exact ⟨h2, cur.toList, by simpa [Blk] using h3⟩
theorem rows_ne {W : World} {base base' : Nat} {e e' : TypeId} {size size' n n' j : Nat} {v v' : Value} {xs xs' : List Value} (h : W.ownsRow base e size v n xs) (h' : W.ownsRow base' e' size' v' n' xs') (hne : e ≠ e') (hj : v.ownBlock = some j) : v'.ownBlock ≠ some j := fun hj' => by
  obtain ⟨_, cs, hB⟩ := row_blk h hj
  exact row_not_blk h' hB (fun e => hne e.symm) hj'

theorem infoPair : (Try.prog.info? 36).map (fun i => (i.zero, i.size, i.bytes)) = some (some (.agg #[.slice none 0 0, .slice none 0 0]), 2, 48) := by kernel_rfl
theorem infoRow : (Try.prog.info? 34).map (fun i => (i.zero, i.size, i.bytes)) = some (some (.slice none 0 0), 1, 24) := by kernel_rfl


/-- a node in memory of its own, from 'base' on -/
def NdN (w : World) (base : Nat) (v : Value) (n : Nd) : Prop := ∃ vp vk vc xs ys sv, v = ndv n.lf vp vk vc ∧ w.ownsRow base 36 2 vp n.ps.length (flatP xs) ∧ w.ownsRow base 34 1 vk n.ks.length ys ∧ Ints w base vc n.cs ∧ xs.length = n.ps.length ∧
  (∀ i, i < n.ps.length → (Sl w (xs.getD i nil2).1 (n.ps.getD i ([], [])).1 ∧ Held w base sv (xs.getD i nil2).1) ∧ Sl w (xs.getD i nil2).2 (n.ps.getD i ([], [])).2 ∧ Held w base sv (xs.getD i nil2).2) ∧ ∀ i, i < n.ks.length → Sl w (ys.getD i nilS) (n.ks.getD i []) ∧ Held w base sv (ys.getD i nilS)

theorem flatP_at (xs : List (Value × Value)) (i : Nat) (hi : i < xs.length) (j : Nat) (hj : j < 2) : (flatP xs)[i * 2 + j]? = [(xs.getD i nil2).1, (xs.getD i nil2).2][j]? := by
  unfold flatP
  rw [flat_get (m := 2) _ i (by simpa using hi) (fun r hr => by obtain ⟨x, _, rfl⟩ := List.mem_map.1 hr; rfl) j hj]
  simp [List.getD, hi]
theorem NdN.val {w : World} {base : Nat} {v : Value} {n : Nd} (h : NdN w base v n) : NdV w v n := by
  obtain ⟨vp, vk, vc, xs, ys, sv, rfl, h1, h2, h3, h4, h5, h6⟩ := h
  have hyl : ys.length = n.ks.length := by have := h2.1; omega
  refine ⟨vp, vk, vc, xs, ys, rfl, ⟨h4, ?_⟩, ⟨hyl, ?_⟩, h3.is⟩
  · obtain ⟨a, c, rfl⟩ := own_form' h1
    have hc := own_len h1
    refine ⟨a, c, rfl, hc.1, hc.2, fun i hi => ⟨(h5 i hi).1.1, (h5 i hi).2.1⟩, fun hne => ?_⟩
    have hpos : 0 < n.ps.length := List.length_pos_iff.2 hne
    rcases h1.2 with ⟨_, h0⟩ | ⟨g, cap, cur, hv, _⟩
    · omega
    · simp only [Value.slice.injEq, true_and] at hv
      obtain ⟨rfl, rfl⟩ := hv
      exact ⟨g, 0, rfl, fun i hi => by
        rw [Nat.zero_add]
        exact own_range h1 (i * 2) _ (fun j hj => flatP_at xs i (by omega) j hj)⟩
  · obtain ⟨a, c, rfl⟩ := own_form' h2
    have hc := own_len h2
    refine ⟨a, c, rfl, hc.1, hc.2, fun i hi => (h6 i hi).1, fun hne => ?_⟩
    have hpos : 0 < n.ks.length := List.length_pos_iff.2 hne
    rcases h2.2 with ⟨_, h0⟩ | ⟨g, cap, cur, hv, _⟩
    · omega
    · simp only [Value.slice.injEq, true_and] at hv
      obtain ⟨rfl, rfl⟩ := hv
      refine ⟨g, 0, rfl, fun i hi => ?_⟩
      rw [Nat.zero_add, World.ownsRow.cellAt h2 i (by omega)]
      simp [List.getD, show i < ys.length by omega]


theorem sizeNode : (Try.prog.info? 26).map (·.size) = some 4 := by kernel_rfl
theorem store_node {w : World} {b : Nat} {y0 y1 y2 y3 x0 x1 x2 x3 : Value} (h : Blk w b 26 [y0, y1, y2, y3]) : Blk (w.setCells b 0 [x0, x1, x2, x3]) b 26 [x0, x1, x2, x3] := by
  have := h.setMany [x0, x1, x2, x3] 0 w (by simp)
  simpa [splice] using this

theorem build_row (w : World) (a : Option Addr) (n c : Nat) : (Instr.buildSlice 23 1 #[(0, .slice a n c)]).run Try.prog w = .ok (.slice (some ⟨w.heap.size, 0, none⟩) 1 1) (w.alloc (.cells #[.slice a n c] 34)) := by kernel_rfl


theorem held_own {W : World} {base : Nat} {x : Value} {zs : List Int} (h : ownsB W base x zs) : Held W base nilS x := fun b hb => by
  obtain ⟨h1, cs, hB⟩ := row_blk h hb
  exact ⟨h1, ⟨cs, hB⟩, fun e => by cases e⟩
theorem rc_val {W : World} {base : Nat} {lf : Bool} {p k cv : Value} {cs : List Int} {xs : List (Value × Value)} {ys : List Value} {ex : List (Value × List Int)} {ps : List (List Int × List Int)} {ks : List (List Int)} (hex : ∀ q ∈ ex, ownsB W base q.1 q.2) (hp : W.ownsRow base 36 2 p xs.length (flatP xs)) (hk : W.ownsRow base 34 1 k ys.length ys) (hi : Ints W base cv cs) (hx : xs.length = ps.length) (hy : ys.length = ks.length)
    (hP : ∀ i, i < ps.length → ((xs.getD i nil2).1, (ps.getD i ([], [])).1) ∈ ex ∧ ((xs.getD i nil2).2, (ps.getD i ([], [])).2) ∈ ex) (hK : ∀ i, i < ks.length → (ys.getD i nilS, ks.getD i []) ∈ ex) (hbp : ∀ i, i < ps.length → ByteOk (ps.getD i ([], [])).1 ∧ ByteOk (ps.getD i ([], [])).2) (hbk : ∀ i, i < ks.length → ByteOk (ks.getD i [])) : NdN W base (ndv lf p k cv) ⟨lf, ps, ks, cs⟩ := by
  refine ⟨p, k, cv, xs, ys, nilS, rfl, by rw [hx] at hp; exact hp, by rw [hy] at hk; exact hk, hi, hx, fun i hi => ?_, fun i hi => ?_⟩
  · have e1 := hex _ (hP i hi).1
    have e2 := hex _ (hP i hi).2
    exact ⟨⟨sl_of_own_len e1 (hbp i hi).1, held_own e1⟩, sl_of_own_len e2 (hbp i hi).2, held_own e2⟩
  · have e1 := hex _ (hK i hi)
    exact ⟨sl_of_own_len e1 (hbk i hi), held_own e1⟩


end Go.Proofs.Ytoamdbjailpgdaa
