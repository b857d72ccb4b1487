/- Contracts: package pack's reader: bytes, numbers and texts that are taken of it. -/
import Derived.Test.YtmjkpgmmfooajaaNPk
import Derived.Lib.SliceRun
namespace Go.Proofs.Ytmjkpgmmfooajaa
set_option maxRecDepth 20000
open Go.RowKit
set_option linter.unusedVariables false

theorem own_nil (w : World) (base : Nat) (e : TypeId) : w.ownsRow base e 1 (.slice none 0 0) 0 [] := ⟨rfl, .inl ⟨rfl, rfl⟩⟩

/-- a slice that leads, if anywhere, to a block from 'base' on that is there -/
def Fresh (base : Nat) (w : World) (v : Value) : Prop := ∀ k, v.ownBlock = some k → base ≤ k ∧ k < w.heap.size

theorem Fresh.nil (base : Nat) (w : World) : Fresh base w (.slice none 0 0) := by intro k hk; cases hk

theorem own_fresh {w : World} {base : Nat} {e : TypeId} {v : Value} {n : Nat} {xs : List Value} (h : w.ownsRow base e 1 v n xs) : Fresh base w v := fun k hk => h.lt k hk

theorem heap_set1 {w : World} {b : Nat} {t x y : Value} {T : TypeId} (h : w.heap[b]? = some (.cells #[t, x, y] T (0, 0))) (x' : Value) : (w.setCell ⟨b, 1, none⟩ x').heap[b]? = some (.cells #[t, x', y] T (0, 0)) := by
  rw [heap_setCell_same w b 1 _ T x' h]; rfl

theorem heap_set2 {w : World} {b : Nat} {t x y : Value} {T : TypeId} (h : w.heap[b]? = some (.cells #[t, x, y] T (0, 0))) (y' : Value) : (w.setCell ⟨b, 2, none⟩ y').heap[b]? = some (.cells #[t, x, y'] T (0, 0)) := by
  rw [heap_setCell_same w b 2 _ T y' h]; rfl

theorem grown_set {w w' : World} {b : Nat} (h : w.grownBy w' (some b)) (j : Nat) (x : Value) : w.grownBy (w'.setCell ⟨b, j, none⟩ x) (some b) :=
  ⟨h.os, h.tape, h.output, by simpa using h.size, fun k hk hne => (heap_setCell_other w' ⟨b, j, none⟩ k x (fun e => hne (by simp [e]))).trans (h.block k hk hne)⟩

theorem own_cut (ao : Option Addr) (n l c l' c' k : Nat) (h : (Value.slice (Option.map (fun x => x.add n) ao) l c).ownBlock = some k) : (Value.slice ao l' c').ownBlock = some k := by
  cases ao with
  | none => simp [Value.ownBlock] at h
  | some a => simp [Value.ownBlock, Addr.add] at h ⊢; split at h <;> simpa using h

/-- a reader that was made lies at block b: what is left, and the first error -/
def Rd (w : World) (b : Nat) (u : Value) (zs : List Int) (er : Int) : Prop :=
  w.heap[b]? = some (.cells #[.bool true, u, .int .i64 er] 80 (0, 0)) ∧ Sl w u zs ∧ ∀ k, u.ownBlock = some k → k ≠ b ∧ k < w.heap.size

theorem Rd.cells {w : World} {b : Nat} {u : Value} {zs : List Int} {er : Int} (h : Rd w b u zs er) :
    w.cell? ⟨b, 0, none⟩ = some (.bool true) ∧ w.cell? ⟨b, 1, none⟩ = some u ∧ w.cell? ⟨b, 2, none⟩ = some (.int .i64 er) ∧ ∀ j, w.frozen? ⟨b, j, none⟩ = false := by
  refine ⟨?_, ?_, ?_, fun j => frozen_of_row w b j _ _ h.1⟩ <;> rw [cell_of_row w b _ _ _ (0, 0) h.1] <;> rfl

theorem Rd.lt {w : World} {b : Nat} {u : Value} {zs : List Int} {er : Int} (h : Rd w b u zs er) : b < w.heap.size := (Array.getElem?_eq_some_iff.1 h.1).1

theorem Rd.keep {w w' : World} {b : Nat} {u : Value} {zs : List Int} {er : Int} (h : Rd w b u zs er) (hb : Below w.heap.size w w') : Rd w' b u zs er :=
  ⟨by rw [hb.block b h.lt]; exact h.1, h.2.1.below hb, fun k hk => ⟨(h.2.2 k hk).1, Nat.lt_of_lt_of_le (h.2.2 k hk).2 hb.size⟩⟩

set_option maxHeartbeats 400000 in
theorem read_any (w : World) (v : Value) (zs : List Int) (h : Sl w v zs) (hl : zs.length ≤ 100000) :
    Calls Try.prog 38 #[v] w fun e w' => ∃ b u, e = .returned (.pointer (some ⟨b, 0, none⟩)) ∧ w.heap.size ≤ b ∧ Rd w' b u zs 0 ∧ Fresh w.heap.size w' u ∧ Below w.heap.size w w' := by
  have HC := clone_any w v zs h hl
  have hby := h.bytes
  have HL := hide h
  obtain ⟨_, ao, cap, rfl, _⟩ := h
  go_enter Try.func38, Try.ntmps38
  go_wp2_with (go_at_call 44; refine HC.mono ?_; rintro e w1 ⟨u, rfl, hown, hb⟩; have hf := own_fresh hown; have hs := sl_of_own_len hown hby; have hs' := hide hs; clear hown; obtain ⟨_, ao', cap', rfl, _⟩ := hs)
  go_ret
  have hz := hb.size
  refine ⟨w1.heap.size, .slice ao' zs.length cap', rfl, hz, ⟨heap_alloc_new w1 _, hs'.out.alloc _, fun k hk => ?_⟩, fun k hk => ?_, hb.alloc hz _⟩
  · have := hf k hk
    simp
    omega
  · have := hf k hk
    simp
    omega

theorem err_any (w : World) (b : Nat) (u : Value) (zs : List Int) (er : Int) (h : Rd w b u zs er) :
    Calls Try.prog 50 #[.pointer (some ⟨b, 0, none⟩)] w fun e w' => e = .returned (.int .i64 er) ∧ w' = w := by
  obtain ⟨c0, c1, c2, _⟩ := h.cells
  go_enter Try.func50, Try.ntmps50
  go_wp2
  go_ret
  exact ⟨rfl, rfl⟩

/-- what a take of n bytes gives, leaves, and the first error behind it -/
def takeS (zs : List Int) (er n : Int) : List Int × List Int × Int :=
  if er ≠ 0 then ([], zs, er) else if n < 0 then ([], zs, 1) else if (zs.length : Int) < n then ([], zs, 10) else (zs.take n.toNat, zs.drop n.toNat, 0)

theorem grown_below {w w1 w2 : World} {r : Option Nat} (h : w.grownBy w1 r) (h2 : Below w1.heap.size w1 w2) : w.grownBy w2 r :=
  ⟨h2.os.trans h.os, h2.tape.trans h.tape, h2.output.trans h.output, Nat.le_trans h.size h2.size, fun k hk hne => (h2.block k (Nat.lt_of_lt_of_le hk h.size)).trans (h.block k hk hne)⟩

/-- a slice that leads to no block b, and to one that is there -/
def Off (w : World) (b : Nat) (v : Value) : Prop := ∀ k, v.ownBlock = some k → k ≠ b ∧ k < w.heap.size

theorem Off.nil (w : World) (b : Nat) : Off w b (.slice none 0 0) := by intro k hk; cases hk

/-- the reader behind a store into its error -/
theorem rd_err {w : World} {b : Nat} {u : Value} {zs : List Int} {er : Int} (h : Rd w b u zs er) (x : Int) : Rd (w.setCell ⟨b, 2, none⟩ (.int .i64 x)) b u zs x := by
  have hg := grown_set (grownBy_refl w (some b)) 2 (.int .i64 x)
  exact ⟨heap_set2 h.1 _, h.2.1.keep (fun k hk hlt => hg.block k hlt (fun e => (h.2.2 k hk).1 (by simpa using e))), fun k hk => by simpa using h.2.2 k hk⟩


def numAcc (acc : Nat) : List Int → Nat
  | [] => acc
  | c :: cs => numAcc (acc * 256 + c.toNat) cs

def numOf (l : List Int) : Nat := numAcc 0 l

theorem numAcc_lt : ∀ (l : List Int) (acc k : Nat), ByteOk l → acc < 256 ^ k → numAcc acc l < 256 ^ (k + l.length)
  | [], acc, k, _, h => by simpa [numAcc] using h
  | c :: cs, acc, k, hb, h => by
    have hc := hb c (List.mem_cons_self ..)
    have := numAcc_lt cs (acc * 256 + c.toNat) (k + 1) (fun z hz => hb z (List.mem_cons_of_mem _ hz)) (by rw [Nat.pow_succ]; omega)
    rw [List.length_cons, Nat.add_comm cs.length 1, ← Nat.add_assoc]
    exact this

theorem numOf_lt (l : List Int) (n : Nat) (hb : ByteOk l) (hl : l.length ≤ n) : numOf l < 256 ^ n := by
  have := numAcc_lt l 0 0 hb (by simp)
  rw [Nat.zero_add] at this
  exact Nat.lt_of_lt_of_le this (Nat.pow_le_pow_right (by omega) hl)

theorem takeS_len (zs : List Int) (er : Int) (n : Nat) : (takeS zs er n).1.length ≤ n := by
  unfold takeS
  split
  · simp
  · split
    · simp
    · split
      · simp
      · simp; omega

theorem takeS_ok (zs : List Int) (er n : Int) (hb : ByteOk zs) : ByteOk (takeS zs er n).1 ∧ ByteOk (takeS zs er n).2.1 := by
  have h0 : ByteOk ([] : List Int) := by intro z hz; cases hz
  unfold takeS
  split
  · exact ⟨h0, hb⟩
  · split
    · exact ⟨h0, hb⟩
    · split
      · exact ⟨h0, hb⟩
      · exact ⟨hb.take _, hb.drop _⟩

theorem or_byte (acc : Nat) (x : Int) (h : acc < 72057594037927936) (h0 : 0 ≤ x) (h1 : x ≤ 255) : bits .or .u64 ((acc : Int) * 256) x = ((acc * 256 + x.toNat : Nat) : Int) := by
  have e := u64_or_nat (acc * 256) x.toNat (by omega) (by omega)
  have o : acc * 256 ||| x.toNat = acc * 256 + x.toNat := by
    have := Nat.two_pow_add_eq_or_of_lt (b := x.toNat) (i := 8) (by omega) acc
    rw [show (2 : Nat) ^ 8 * acc = acc * 256 by omega] at this
    exact this.symm
  rw [o] at e
  rw [show ((x.toNat : Nat) : Int) = x by omega] at e
  rw [Int.natCast_mul] at e
  exact e

theorem pow56 (k : Nat) (hk : k ≤ 7) : 256 ^ k ≤ 72057594037927936 := by
  have := Nat.pow_le_pow_right (n := 256) (by omega) hk
  simpa using this

set_option maxRecDepth 20000 in



theorem ownsRow_le' {w : World} {base base' n : Nat} {e : TypeId} {v : Value} {xs : List Value} (h : w.ownsRow base e 1 v n xs) (hb : base' ≤ base) : w.ownsRow base' e 1 v n xs :=
  ⟨h.1, h.2.elim .inl (fun ⟨g, cap, cur, hv, hg, r⟩ => .inr ⟨g, cap, cur, hv, Nat.le_trans hb hg, r⟩)⟩

def tlen (zs : List Int) (most : Int) : Int × Int :=
  if most < 0 then (0, 1) else if zs.length = 0 then (0, 10) else if most < zs.getD 0 0 then (0, 3) else if (zs.length : Int) - 1 < zs.getD 0 0 then (0, 10) else (zs.getD 0 0, 0)
/-- what a take of a text gives, leaves, and the first error behind it -/
def textS (zs : List Int) (er most : Int) : List Int × List Int × Int :=
  if er ≠ 0 then ([], zs, er) else if (tlen zs most).2 ≠ 0 then ([], zs, (tlen zs most).2) else ((zs.take (1 + (tlen zs most).1.toNat)).drop 1, zs.drop (1 + (tlen zs most).1.toNat), 0)

theorem tlen_ok (zs : List Int) (most : Int) (hb : ByteOk zs) (h : (tlen zs most).2 = 0) : 0 ≤ (tlen zs most).1 ∧ (tlen zs most).1 ≤ 255 ∧ (tlen zs most).1 ≤ most ∧ 1 + (tlen zs most).1 ≤ zs.length := by
  have := hb.get 0
  unfold tlen at h ⊢
  split at h
  · simp at h
  · split at h
    · simp at h
    · split at h
      · simp at h
      · split at h
        · simp at h
        · rename_i h1 h2 h3 h4
          rw [if_neg h1, if_neg h2, if_neg h3, if_neg h4]
          simp only
          omega


theorem cut1a {w : World} {ao : Option Addr} {L : List Int} {M cap : Nat} (h : Sl w (.slice ao (1 + M) cap) L) (hl : L.length = 1 + M) (hc : cap = 1) : Sl w (.slice ao M 0) (L.drop 1) := by
  rw [← hl] at h
  have := sl_cut0 1 h (by omega) hc
  rwa [show L.length - 1 = M by omega] at this
theorem cut1b {w : World} {ao : Option Addr} {L : List Int} {M cap : Nat} (h : Sl w (.slice ao (1 + M) cap) L) (hl : L.length = 1 + M) : Sl w (.slice (Option.map (fun x => (⟨x.block, x.off + 1, none⟩ : Addr)) ao) M (cap - 1)) (L.drop 1) := by
  rw [← hl] at h
  have := sl_cut 1 h (by omega)
  have e : (fun x : Addr => x.add 1) = fun x => (⟨x.block, x.off + 1, none⟩ : Addr) := by funext x; simp [Addr.add]
  rwa [show L.length - 1 = M by omega, e] at this


end Go.Proofs.Ytmjkpgmmfooajaa
