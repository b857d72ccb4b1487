/- Contracts: package pack's reader: bytes, numbers and texts that are taken of it. -/
import Derived.Test.YtimmfnjkknbofaaDoorJCut
import Derived.Lib.SliceRun
namespace Go.Proofs.YtimmfnjkknbofaaDoor
set_option maxRecDepth 20000
open Go.RowKit
set_option linter.unusedVariables false

theorem own_nil (w : World) (base : Nat) (e : TypeId) : w.ownsRow base e 1 (.slice none 0 0) 0 [] := ⟨rfl, .inl ⟨rfl, rfl⟩⟩

/-- a slice that leads, if anywhere, to a block from 'base' on that is there -/
def Fresh (base : Nat) (w : World) (v : Value) : Prop := ∀ k, v.ownBlock = some k → base ≤ k ∧ k < w.heap.size

theorem Fresh.nil (base : Nat) (w : World) : Fresh base w (.slice none 0 0) := by intro k hk; cases hk

theorem own_fresh {w : World} {base : Nat} {e : TypeId} {v : Value} {n : Nat} {xs : List Value} (h : w.ownsRow base e 1 v n xs) : Fresh base w v := fun k hk => h.lt k hk

theorem heap_set1 {w : World} {b : Nat} {t x y : Value} {T : TypeId} (h : w.heap[b]? = some (.cells #[t, x, y] T (0, 0))) (x' : Value) : (w.setCell ⟨b, 1, none⟩ x').heap[b]? = some (.cells #[t, x', y] T (0, 0)) := by
  rw [heap_setCell_same w b 1 _ T x' h]; rfl

theorem heap_set2 {w : World} {b : Nat} {t x y : Value} {T : TypeId} (h : w.heap[b]? = some (.cells #[t, x, y] T (0, 0))) (y' : Value) : (w.setCell ⟨b, 2, none⟩ y').heap[b]? = some (.cells #[t, x, y'] T (0, 0)) := by
  rw [heap_setCell_same w b 2 _ T y' h]; rfl

theorem grown_set {w w' : World} {b : Nat} (h : w.grownBy w' (some b)) (j : Nat) (x : Value) : w.grownBy (w'.setCell ⟨b, j, none⟩ x) (some b) :=
  ⟨h.os, h.tape, h.output, by simpa using h.size, fun k hk hne => (heap_setCell_other w' ⟨b, j, none⟩ k x (fun e => hne (by simp [e]))).trans (h.block k hk hne)⟩

theorem own_cut (ao : Option Addr) (n l c l' c' k : Nat) (h : (Value.slice (Option.map (fun x => x.add n) ao) l c).ownBlock = some k) : (Value.slice ao l' c').ownBlock = some k := by
  cases ao with
  | none => simp [Value.ownBlock] at h
  | some a => simp [Value.ownBlock, Addr.add] at h ⊢; split at h <;> simpa using h

/-- a reader that was made lies at block b: what is left, and the first error -/
def Rd (w : World) (b : Nat) (u : Value) (zs : List Int) (er : Int) : Prop :=
  w.heap[b]? = some (.cells #[.bool true, u, .int .i64 er] 90 (0, 0)) ∧ Sl w u zs ∧ ∀ k, u.ownBlock = some k → k ≠ b ∧ k < w.heap.size

theorem Rd.cells {w : World} {b : Nat} {u : Value} {zs : List Int} {er : Int} (h : Rd w b u zs er) :
    w.cell? ⟨b, 0, none⟩ = some (.bool true) ∧ w.cell? ⟨b, 1, none⟩ = some u ∧ w.cell? ⟨b, 2, none⟩ = some (.int .i64 er) ∧ ∀ j, w.frozen? ⟨b, j, none⟩ = false := by
  refine ⟨?_, ?_, ?_, fun j => frozen_of_row w b j _ _ h.1⟩ <;> rw [cell_of_row w b _ _ _ (0, 0) h.1] <;> rfl

theorem Rd.lt {w : World} {b : Nat} {u : Value} {zs : List Int} {er : Int} (h : Rd w b u zs er) : b < w.heap.size := (Array.getElem?_eq_some_iff.1 h.1).1

theorem Rd.keep {w w' : World} {b : Nat} {u : Value} {zs : List Int} {er : Int} (h : Rd w b u zs er) (hb : Below w.heap.size w w') : Rd w' b u zs er :=
  ⟨by rw [hb.block b h.lt]; exact h.1, h.2.1.below hb, fun k hk => ⟨(h.2.2 k hk).1, Nat.lt_of_lt_of_le (h.2.2 k hk).2 hb.size⟩⟩

set_option maxHeartbeats 400000 in
theorem read_any (w : World) (v : Value) (zs : List Int) (h : Sl w v zs) (hl : zs.length ≤ 100000) :
    Calls Tryd.prog 29 #[v] w fun e w' => ∃ b u, e = .returned (.pointer (some ⟨b, 0, none⟩)) ∧ w.heap.size ≤ b ∧ Rd w' b u zs 0 ∧ Fresh w.heap.size w' u ∧ Below w.heap.size w w' := by
  have HC := clone_any w v zs h hl
  have hby := h.bytes
  have HL := hide h
  obtain ⟨_, ao, cap, rfl, _⟩ := h
  go_enter Tryd.func29, Tryd.ntmps29
  go_wp2_with (go_at_call 54; refine HC.mono ?_; rintro e w1 ⟨u, rfl, hown, hb⟩; have hf := own_fresh hown; have hs := sl_of_own_len hown hby; have hs' := hide hs; clear hown; obtain ⟨_, ao', cap', rfl, _⟩ := hs)
  go_ret
  have hz := hb.size
  refine ⟨w1.heap.size, .slice ao' zs.length cap', rfl, hz, ⟨heap_alloc_new w1 _, hs'.out.alloc _, fun k hk => ?_⟩, fun k hk => ?_, hb.alloc hz _⟩
  · have := hf k hk
    simp
    omega
  · have := hf k hk
    simp
    omega

theorem err_any (w : World) (b : Nat) (u : Value) (zs : List Int) (er : Int) (h : Rd w b u zs er) :
    Calls Tryd.prog 56 #[.pointer (some ⟨b, 0, none⟩)] w fun e w' => e = .returned (.int .i64 er) ∧ w' = w := by
  obtain ⟨c0, c1, c2, _⟩ := h.cells
  go_enter Tryd.func56, Tryd.ntmps56
  go_wp2
  go_ret
  exact ⟨rfl, rfl⟩

/-- what a take of n bytes gives, leaves, and the first error behind it -/
def takeS (zs : List Int) (er n : Int) : List Int × List Int × Int :=
  if er ≠ 0 then ([], zs, er) else if n < 0 then ([], zs, 1) else if (zs.length : Int) < n then ([], zs, 10) else (zs.take n.toNat, zs.drop n.toNat, 0)

theorem grown_below {w w1 w2 : World} {r : Option Nat} (h : w.grownBy w1 r) (h2 : Below w1.heap.size w1 w2) : w.grownBy w2 r :=
  ⟨h2.os.trans h.os, h2.tape.trans h.tape, h2.output.trans h.output, Nat.le_trans h.size h2.size, fun k hk hne => (h2.block k (Nat.lt_of_lt_of_le hk h.size)).trans (h.block k hk hne)⟩

/-- a slice that leads to no block b, and to one that is there -/
def Off (w : World) (b : Nat) (v : Value) : Prop := ∀ k, v.ownBlock = some k → k ≠ b ∧ k < w.heap.size

theorem Off.nil (w : World) (b : Nat) : Off w b (.slice none 0 0) := by intro k hk; cases hk

/-- the reader behind a store into its error -/
theorem rd_err {w : World} {b : Nat} {u : Value} {zs : List Int} {er : Int} (h : Rd w b u zs er) (x : Int) : Rd (w.setCell ⟨b, 2, none⟩ (.int .i64 x)) b u zs x := by
  have hg := grown_set (grownBy_refl w (some b)) 2 (.int .i64 x)
  exact ⟨heap_set2 h.1 _, h.2.1.keep (fun k hk hlt => hg.block k hlt (fun e => (h.2.2 k hk).1 (by simpa using e))), fun k hk => by simpa using h.2.2 k hk⟩

set_option maxHeartbeats 400000 in
theorem take_any (w : World) (b : Nat) (u : Value) (zs : List Int) (er n : Int) (h : Rd w b u zs er) :
    Calls Tryd.prog 58 #[.pointer (some ⟨b, 0, none⟩), .int .i64 n] w fun e w' => ∃ v, e = .returned v ∧ Sl w' v (takeS zs er n).1 ∧ Off w' b v ∧ w.grownBy w' (some b) ∧ ∃ u', Rd w' b u' (takeS zs er n).2.1 (takeS zs er n).2.2 := by
  have HR := hide h
  have HE := err_any w b u zs er h
  obtain ⟨c0, c1, c2, hfr⟩ := h.cells
  obtain ⟨hg, ⟨hb, ao, cap, rfl, h1, h2, h3, h4⟩, hne⟩ := h
  unfold maxLen at h2
  have f1 := hfr 1
  have f2 := hfr 2
  have HNE := hide hne
  clear hfr h4 h3 hne
  by_cases e0 : er = 0
  · subst e0
    by_cases n0 : n < 0
    · have es : takeS zs 0 n = ([], zs, 1) := by simp [takeS, n0]
      rw [es]
      go_enter Tryd.func58, Tryd.ntmps58
      go_wp2_with (go_at_call 56; refine HE.mono ?_; rintro e w1 ⟨rfl, hw⟩; subst w1)
      go_ret
      exact ⟨_, rfl, Sl.nil _, Off.nil _ _, grown_set (grownBy_refl w _) _ _, _, rd_err HR.out 1⟩
    · by_cases n1 : (zs.length : Int) < n
      · have es : takeS zs 0 n = ([], zs, 10) := by simp [takeS, n0, n1]
        rw [es]
        go_enter Tryd.func58, Tryd.ntmps58
        go_wp2_with (go_at_call 56; refine HE.mono ?_; rintro e w1 ⟨rfl, hw⟩; subst w1)
        go_ret
        exact ⟨_, rfl, Sl.nil _, Off.nil _ _, grown_set (grownBy_refl w _) _ _, _, rd_err HR.out 10⟩
      · obtain ⟨m, rfl⟩ : ∃ m : Nat, n = m := ⟨n.toNat, by omega⟩
        have es : takeS zs 0 m = (zs.take m, zs.drop m, 0) := by simp only [takeS, if_neg n0, if_neg n1]; simp
        rw [es]
        have hm : m ≤ zs.length := by omega
        have ST := hide (sl_take m HR.out.2.1 hm)
        clear n0 n1
        by_cases hcm : cap = m
        · subst hcm
          go_enter Tryd.func58, Tryd.ntmps58
          go_wp2_with (go_at_call 56; refine HE.mono ?_; rintro e w1 ⟨rfl, hw⟩; subst w1)
          go_ret
          have hgg := grown_set (grownBy_refl w (some b)) 1 (.slice ao 0 0)
          refine ⟨_, rfl, ST.out.keep (fun k hk hlt => hgg.block k hlt (fun e => (HNE.out k (by cases ao <;> exact hk)).1 (by simpa using e))), fun k hk => by simpa using HNE.out k (by cases ao <;> exact hk), hgg, _, heap_set1 hg _, ?_, fun k hk => ?_⟩
          · have S0 : Sl w (.slice ao 0 0) (zs.drop cap) := by
              have := sl_cut0 cap HR.out.2.1 hm rfl
              rwa [show zs.length - cap = 0 by omega] at this
            exact S0.keep (fun k hk hlt => hgg.block k hlt (fun e => (HNE.out k (by cases ao <;> exact hk)).1 (by simpa using e)))
          · simpa using HNE.out k (by cases ao <;> exact hk)
        · have hcm' : (cap == m) = false := by simpa using hcm
          go_enter Tryd.func58, Tryd.ntmps58
          go_wp2_with (go_at_call 56; refine HE.mono ?_; rintro e w1 ⟨rfl, hw⟩; subst w1)
          go_ret
          have hgg := grown_set (grownBy_refl w (some b)) 1 (.slice (Option.map (fun x => x.add m) ao) (zs.length - m) (cap - m))
          refine ⟨_, rfl, ST.out.keep (fun k hk hlt => hgg.block k hlt (fun e => (HNE.out k (by cases ao <;> exact hk)).1 (by simpa using e))), fun k hk => by simpa using HNE.out k (by cases ao <;> exact hk), hgg, _, heap_set1 hg _, ?_, fun k hk => ?_⟩
          · exact (sl_cut m HR.out.2.1 hm).keep (fun k hk hlt => hgg.block k hlt (fun e => (HNE.out k (own_cut _ _ _ _ _ _ _ hk)).1 (by simpa using e)))
          · simpa using HNE.out k (own_cut _ _ _ _ _ _ _ hk)
  · have es : takeS zs er n = ([], zs, er) := by simp [takeS, e0]
    rw [es]
    have e1 : (er == 0) = false := by simpa using e0
    go_enter Tryd.func58, Tryd.ntmps58
    go_wp2_with (go_at_call 56; refine HE.mono ?_; rintro e w1 ⟨rfl, hw⟩; subst w1)
    go_ret
    exact ⟨_, rfl, Sl.nil _, Off.nil _ _, grownBy_refl _ _, _, HR.out⟩

def numAcc (acc : Nat) : List Int → Nat
  | [] => acc
  | c :: cs => numAcc (acc * 256 + c.toNat) cs

def numOf (l : List Int) : Nat := numAcc 0 l

theorem numAcc_lt : ∀ (l : List Int) (acc k : Nat), ByteOk l → acc < 256 ^ k → numAcc acc l < 256 ^ (k + l.length)
  | [], acc, k, _, h => by simpa [numAcc] using h
  | c :: cs, acc, k, hb, h => by
    have hc := hb c (List.mem_cons_self ..)
    have := numAcc_lt cs (acc * 256 + c.toNat) (k + 1) (fun z hz => hb z (List.mem_cons_of_mem _ hz)) (by rw [Nat.pow_succ]; omega)
    rw [List.length_cons, Nat.add_comm cs.length 1, ← Nat.add_assoc]
    exact this

theorem numOf_lt (l : List Int) (n : Nat) (hb : ByteOk l) (hl : l.length ≤ n) : numOf l < 256 ^ n := by
  have := numAcc_lt l 0 0 hb (by simp)
  rw [Nat.zero_add] at this
  exact Nat.lt_of_lt_of_le this (Nat.pow_le_pow_right (by omega) hl)

theorem takeS_len (zs : List Int) (er : Int) (n : Nat) : (takeS zs er n).1.length ≤ n := by
  unfold takeS
  split
  · simp
  · split
    · simp
    · split
      · simp
      · simp; omega

theorem takeS_ok (zs : List Int) (er n : Int) (hb : ByteOk zs) : ByteOk (takeS zs er n).1 ∧ ByteOk (takeS zs er n).2.1 := by
  have h0 : ByteOk ([] : List Int) := by intro z hz; cases hz
  unfold takeS
  split
  · exact ⟨h0, hb⟩
  · split
    · exact ⟨h0, hb⟩
    · split
      · exact ⟨h0, hb⟩
      · exact ⟨hb.take _, hb.drop _⟩

theorem or_byte (acc : Nat) (x : Int) (h : acc < 72057594037927936) (h0 : 0 ≤ x) (h1 : x ≤ 255) : bits .or .u64 ((acc : Int) * 256) x = ((acc * 256 + x.toNat : Nat) : Int) := by
  have e := u64_or_nat (acc * 256) x.toNat (by omega) (by omega)
  have o : acc * 256 ||| x.toNat = acc * 256 + x.toNat := by
    have := Nat.two_pow_add_eq_or_of_lt (b := x.toNat) (i := 8) (by omega) acc
    rw [show (2 : Nat) ^ 8 * acc = acc * 256 by omega] at this
    exact this.symm
  rw [o] at e
  rw [show ((x.toNat : Nat) : Int) = x by omega] at e
  rw [Int.natCast_mul] at e
  exact e

theorem pow56 (k : Nat) (hk : k ≤ 7) : 256 ^ k ≤ 72057594037927936 := by
  have := Nat.pow_le_pow_right (n := 256) (by omega) hk
  simpa using this

set_option maxRecDepth 20000 in
set_option maxHeartbeats 400000 in
theorem takeNumber_any (w : World) (b : Nat) (u : Value) (zs : List Int) (er : Int) (n : Nat) (h : Rd w b u zs er) (hn : n ≤ 8) :
    Calls Tryd.prog 55 #[.pointer (some ⟨b, 0, none⟩), .int .i64 n] w fun e w' => e = .returned (.int .u64 (numOf (takeS zs er n).1)) ∧ w.grownBy w' (some b) ∧ ∃ u', Rd w' b u' (takeS zs er n).2.1 (takeS zs er n).2.2 := by
  have HT := take_any w b u zs er n h
  have HL := takeS_len zs er n
  have HB := (takeS_ok zs er n h.2.1.bytes).1
  obtain ⟨⟨R, zs', er'⟩, hS⟩ : ∃ s, s = takeS zs er n := ⟨_, rfl⟩
  rw [← hS] at HT HL HB ⊢
  simp only at HT HL HB ⊢
  clear hS
  go_enter Tryd.func55, Tryd.ntmps55
  go_wp2_with (go_at_call 58; refine HT.mono ?_; rintro e w1 ⟨v, rfl, hs, hoff, hgr, u', hrd⟩; obtain ⟨_, ao, cap, rfl, h1, h2, h3, h4⟩ := hs; have HGR := hide hgr; have HRD := hide hrd; have H4 := hide h4; clear hgr hrd h3 h4 hoff)
  unfold maxLen at h2
  go_loop [5, 12] (fun vv i => ∃ (k acc : Nat), k ≤ R.length ∧ acc < 256 ^ k ∧ numAcc acc (R.drop k) = numOf R ∧ vv = .int .u64 acc ∧ i = .int .i64 k) (fun _ i => R.length - (intOf i).toNat)
  case atStart => exact ⟨0, 0, Nat.zero_le _, by simp, rfl, rfl, rfl⟩
  case round =>
    obtain ⟨k, acc, hk, hacc, hnum, rfl, rfl⟩ := hrel
    by_cases hlt : k < R.length
    · obtain ⟨b', o, rfl, hc⟩ := H4.out (by intro h; simp [h] at hlt)
      have c1 := hc k hlt
      have hxb := HB.get k
      have hd := drop_cons R k hlt
      obtain ⟨x, hx⟩ : ∃ x, x = R.getD k 0 := ⟨_, rfl⟩
      rw [← hx] at c1 hxb hd
      have ha := Nat.lt_of_lt_of_le hacc (pow56 k (by omega))
      have hor := or_byte acc x ha hxb.1 hxb.2
      have hnext : numAcc (acc * 256 + x.toNat) (R.drop (k + 1)) = numOf R := by rw [← hnum, hd, numAcc]
      have hlt2 : acc * 256 + x.toNat < 256 ^ (k + 1) := by rw [Nat.pow_succ]; omega
      obtain ⟨N, hN⟩ : ∃ N, N = acc * 256 + x.toNat := ⟨_, rfl⟩
      rw [← hN] at hor hnext hlt2
      have HX := hide hnext
      clear hc H4 hx hd hnum hnext hN
      go_wp2
      go_round
      case rel => exact ⟨k + 1, N, by omega, hlt2, HX.out, by go_num, by go_num⟩
      case measure => simp [intOf]; omega
    · have he : numOf R = acc := by rw [← hnum, List.drop_eq_nil_of_le (by omega), numAcc]
      have HE := hide he
      clear he hnum
      go_wp2
      go_ret
      exact ⟨ret_int (by rw [HE.out]), HGR.out, _, HRD.out⟩

theorem readerU8_any (w : World) (b : Nat) (u : Value) (zs : List Int) (er : Int) (h : Rd w b u zs er) :
    Calls Tryd.prog 30 #[.pointer (some ⟨b, 0, none⟩)] w fun e w' => e = .returned (.int .u8 (numOf (takeS zs er 1).1)) ∧ w.grownBy w' (some b) ∧ ∃ u', Rd w' b u' (takeS zs er 1).2.1 (takeS zs er 1).2.2 := by
  have HT : Calls Tryd.prog 55 #[.pointer (some ⟨b, 0, none⟩), .int .i64 1] w fun e w' => e = .returned (.int .u64 (numOf (takeS zs er 1).1)) ∧ w.grownBy w' (some b) ∧ ∃ u', Rd w' b u' (takeS zs er 1).2.1 (takeS zs er 1).2.2 := takeNumber_any w b u zs er 1 h (by omega)
  have hlt : numOf (takeS zs er 1).1 < 256 := numOf_lt _ 1 (takeS_ok zs er 1 h.2.1.bytes).1 (takeS_len zs er 1)
  obtain ⟨N, hN⟩ : ∃ N, N = numOf (takeS zs er 1).1 := ⟨_, rfl⟩
  rw [← hN] at HT hlt ⊢
  clear hN
  go_enter Tryd.func30, Tryd.ntmps30
  go_wp2_with (go_at_call 55; refine HT.mono ?_; rintro e w1 ⟨rfl, hg, u', hr⟩)
  go_ret
  exact ⟨rfl, hg, u', hr⟩

theorem readerU16_any (w : World) (b : Nat) (u : Value) (zs : List Int) (er : Int) (h : Rd w b u zs er) :
    Calls Tryd.prog 31 #[.pointer (some ⟨b, 0, none⟩)] w fun e w' => e = .returned (.int .u16 (numOf (takeS zs er 2).1)) ∧ w.grownBy w' (some b) ∧ ∃ u', Rd w' b u' (takeS zs er 2).2.1 (takeS zs er 2).2.2 := by
  have HT : Calls Tryd.prog 55 #[.pointer (some ⟨b, 0, none⟩), .int .i64 2] w fun e w' => e = .returned (.int .u64 (numOf (takeS zs er 2).1)) ∧ w.grownBy w' (some b) ∧ ∃ u', Rd w' b u' (takeS zs er 2).2.1 (takeS zs er 2).2.2 := takeNumber_any w b u zs er 2 h (by omega)
  have hlt : numOf (takeS zs er 2).1 < 65536 := numOf_lt _ 2 (takeS_ok zs er 2 h.2.1.bytes).1 (takeS_len zs er 2)
  obtain ⟨N, hN⟩ : ∃ N, N = numOf (takeS zs er 2).1 := ⟨_, rfl⟩
  rw [← hN] at HT hlt ⊢
  clear hN
  go_enter Tryd.func31, Tryd.ntmps31
  go_wp2_with (go_at_call 55; refine HT.mono ?_; rintro e w1 ⟨rfl, hg, u', hr⟩)
  go_ret
  exact ⟨rfl, hg, u', hr⟩

theorem ownsRow_le' {w : World} {base base' n : Nat} {e : TypeId} {v : Value} {xs : List Value} (h : w.ownsRow base e 1 v n xs) (hb : base' ≤ base) : w.ownsRow base' e 1 v n xs :=
  ⟨h.1, h.2.elim .inl (fun ⟨g, cap, cur, hv, hg, r⟩ => .inr ⟨g, cap, cur, hv, Nat.le_trans hb hg, r⟩)⟩

def tlen (zs : List Int) (most : Int) : Int × Int :=
  if most < 0 then (0, 1) else if zs.length = 0 then (0, 10) else if most < zs.getD 0 0 then (0, 3) else if (zs.length : Int) - 1 < zs.getD 0 0 then (0, 10) else (zs.getD 0 0, 0)
/-- what a take of a text gives, leaves, and the first error behind it -/
def textS (zs : List Int) (er most : Int) : List Int × List Int × Int :=
  if er ≠ 0 then ([], zs, er) else if (tlen zs most).2 ≠ 0 then ([], zs, (tlen zs most).2) else ((zs.take (1 + (tlen zs most).1.toNat)).drop 1, zs.drop (1 + (tlen zs most).1.toNat), 0)

theorem tlen_ok (zs : List Int) (most : Int) (hb : ByteOk zs) (h : (tlen zs most).2 = 0) : 0 ≤ (tlen zs most).1 ∧ (tlen zs most).1 ≤ 255 ∧ (tlen zs most).1 ≤ most ∧ 1 + (tlen zs most).1 ≤ zs.length := by
  have := hb.get 0
  unfold tlen at h ⊢
  split at h
  · simp at h
  · split at h
    · simp at h
    · split at h
      · simp at h
      · split at h
        · simp at h
        · rename_i h1 h2 h3 h4
          rw [if_neg h1, if_neg h2, if_neg h3, if_neg h4]
          simp only
          omega

theorem textLength_any (w : World) (v : Value) (zs : List Int) (most : Int) (h : Sl w v zs) :
    Calls Tryd.prog 57 #[v, .int .i64 most] w fun e w' => e = .returned (.tuple #[.int .i64 (tlen zs most).1, .int .i64 (tlen zs most).2]) ∧ w' = w := by
  have hb0 := h.bytes.get 0
  obtain ⟨hb, ao, cap, rfl, h1, h2, h3, h4⟩ := h
  unfold maxLen at h2
  by_cases m0 : most < 0
  · have es : tlen zs most = (0, 1) := by simp [tlen, m0]
    rw [es]
    go_enter Tryd.func57, Tryd.ntmps57
    go_wp2
    go_ret2
    exact ⟨rfl, rfl⟩
  · have d0 : decide (most < 0) = false := decide_eq_false m0
    by_cases z0 : zs.length = 0
    · have es : tlen zs most = (0, 10) := by rw [tlen, if_neg m0, if_pos z0]
      rw [es]
      obtain rfl : zs = [] := List.eq_nil_of_length_eq_zero z0
      go_enter Tryd.func57, Tryd.ntmps57
      go_wp2
      go_ret2
      exact ⟨rfl, rfl⟩
    · have i0 : (0 : Int) < (zs.length : Int) := by omega
      have i1 : ((zs.length : Int) == 0) = false := by simp; exact fun h => z0 (by simp [h])
      obtain ⟨b, o, rfl, hc⟩ := h4 (by intro h; simp [h] at z0)
      have c1 := hc 0 (by omega)
      have ht : tlen zs most = if most < zs.getD 0 0 then (0, 3) else if (zs.length : Int) - 1 < zs.getD 0 0 then (0, 10) else (zs.getD 0 0, 0) := by rw [tlen, if_neg m0, if_neg z0]
      obtain ⟨x, hx⟩ : ∃ x, x = zs.getD 0 0 := ⟨_, rfl⟩
      rw [← hx] at c1 ht hb0
      rw [Nat.add_zero] at c1
      clear hx hc h4 h3
      by_cases x1 : most < x
      · rw [if_pos x1] at ht
        rw [ht]
        go_enter Tryd.func57, Tryd.ntmps57
        go_wp2
        go_ret2
        exact ⟨rfl, rfl⟩
      · have d1 : decide (most < x) = false := decide_eq_false x1
        by_cases x2 : (zs.length : Int) - 1 < x
        · rw [if_neg x1, if_pos x2] at ht
          rw [ht]
          go_enter Tryd.func57, Tryd.ntmps57
          go_wp2
          go_ret2
          exact ⟨rfl, rfl⟩
        · have d2 : decide ((zs.length : Int) - 1 < x) = false := decide_eq_false x2
          rw [if_neg x1, if_neg x2] at ht
          rw [ht]
          go_enter Tryd.func57, Tryd.ntmps57
          go_wp2
          go_ret2
          exact ⟨rfl, rfl⟩

theorem cut1a {w : World} {ao : Option Addr} {L : List Int} {M cap : Nat} (h : Sl w (.slice ao (1 + M) cap) L) (hl : L.length = 1 + M) (hc : cap = 1) : Sl w (.slice ao M 0) (L.drop 1) := by
  rw [← hl] at h
  have := sl_cut0 1 h (by omega) hc
  rwa [show L.length - 1 = M by omega] at this
theorem cut1b {w : World} {ao : Option Addr} {L : List Int} {M cap : Nat} (h : Sl w (.slice ao (1 + M) cap) L) (hl : L.length = 1 + M) : Sl w (.slice (Option.map (fun x => (⟨x.block, x.off + 1, none⟩ : Addr)) ao) M (cap - 1)) (L.drop 1) := by
  rw [← hl] at h
  have := sl_cut 1 h (by omega)
  have e : (fun x : Addr => x.add 1) = fun x => (⟨x.block, x.off + 1, none⟩ : Addr) := by funext x; simp [Addr.add]
  rwa [show L.length - 1 = M by omega, e] at this

set_option maxHeartbeats 400000 in
theorem readerText_any (w : World) (b : Nat) (u : Value) (zs : List Int) (er most : Int) (h : Rd w b u zs er) :
    Calls Tryd.prog 32 #[.pointer (some ⟨b, 0, none⟩), .int .i64 most] w fun e w' => ∃ v, e = .returned v ∧ w'.ownsRow w.heap.size 5 1 v (textS zs er most).1.length ((textS zs er most).1.map (Value.int .u8)) ∧ w.grownBy w' (some b) ∧ ∃ u', Rd w' b u' (textS zs er most).2.1 (textS zs er most).2.2 := by
  have HR := hide h
  have HE := err_any w b u zs er h
  have HT := textLength_any w u zs most h.2.1
  have hok := tlen_ok zs most h.2.1.bytes
  obtain ⟨c0, c1, c2, hfr⟩ := h.cells
  have f2 := hfr 2
  have hu : ∃ ao cap, u = .slice ao zs.length cap := by obtain ⟨_, ⟨_, ao, cap, rfl, _⟩, _⟩ := h; exact ⟨ao, cap, rfl⟩
  obtain ⟨ao, cap, rfl⟩ := hu
  clear hfr h
  by_cases e0 : er = 0
  · subst e0
    obtain ⟨⟨m, te⟩, hS⟩ : ∃ s, s = tlen zs most := ⟨_, rfl⟩
    have ht : textS zs 0 most = if te ≠ 0 then ([], zs, te) else ((zs.take (1 + m.toNat)).drop 1, zs.drop (1 + m.toNat), 0) := by rw [textS, if_neg (by simp), ← hS]
    rw [← hS] at HT hok
    simp only at HT hok
    clear hS
    by_cases t0 : te = 0
    · subst t0
      rw [if_neg (by simp)] at ht
      rw [ht]
      obtain ⟨hm0, hm255, _, hm1⟩ := hok rfl
      obtain ⟨M, rfl⟩ : ∃ M : Nat, m = M := ⟨m.toNat, by omega⟩
      rw [show ((M : Nat) : Int).toNat = M by omega]
      clear ht hok
      have HK := take_any w b _ zs 0 (1 + (M : Int)) HR.out
      have es : takeS zs 0 (1 + (M : Int)) = (zs.take (1 + M), zs.drop (1 + M), 0) := by
        rw [takeS, if_neg (by simp), if_neg (by omega), if_neg (by omega), show (1 + (M : Int)).toNat = 1 + M by omega]
      rw [es] at HK
      simp only at HK
      have hl : (zs.take (1 + M)).length = 1 + M := by simp; omega
      have HL := hide hl
      have HL2 : Hid (((zs.take (1 + M)).drop 1).length ≤ 100000) := by show _ ≤ _; rw [List.length_drop]; omega
      clear es hl
      go_enter Tryd.func32, Tryd.ntmps32
      go_wp2_with (first
        | (go_at_call 56; refine HE.mono ?_; rintro e w1 ⟨rfl, hw⟩; subst w1; clear HE)
        | (go_at_call 57; refine HT.mono ?_; rintro e w1 ⟨rfl, hw⟩; subst w1; clear HT)
        | (go_at_call 58; refine HK.mono ?_; rintro e w1 ⟨v, rfl, hs, hoff, hgr, u', hrd⟩; clear HK; have HS1 := hide hs; obtain ⟨_, ao1, cap1, rfl, hc1, hc2, _⟩ := hs; rw [HL.out]; rw [HL.out] at hc1 HS1; have hc3 : cap1 ≤ 2 ^ 63 - 1 := hc2; have K1 := hide (cut1a HS1.out HL.out); have K2 := hide (cut1b HS1.out HL.out); clear HS1))
      · refine (clone_any w1 _ _ (K1.out ‹_›) HL2.out).mono ?_
        rintro e w2 ⟨v2, rfl, hs2, hb2⟩
        go_wp2
        go_ret
        exact ⟨_, rfl, ownsRow_le' hs2 hgr.size, grown_below hgr hb2, u', hrd.keep hb2⟩
      · refine (clone_any w1 _ _ K2.out HL2.out).mono ?_
        rintro e w2 ⟨v2, rfl, hs2, hb2⟩
        go_wp2
        go_ret
        exact ⟨_, rfl, ownsRow_le' hs2 hgr.size, grown_below hgr hb2, u', hrd.keep hb2⟩
    · rw [if_pos t0] at ht
      rw [ht]
      have e1 : (te == 0) = false := by simpa using t0
      clear ht hok
      go_enter Tryd.func32, Tryd.ntmps32
      go_wp2_with (first
        | (go_at_call 56; refine HE.mono ?_; rintro e w1 ⟨rfl, hw⟩; subst w1; clear HE)
        | (go_at_call 57; refine HT.mono ?_; rintro e w1 ⟨rfl, hw⟩; subst w1; clear HT))
      go_ret
      exact ⟨_, rfl, own_nil _ _ _, grown_set (grownBy_refl w _) _ _, _, rd_err HR.out te⟩
  · have es : textS zs er most = ([], zs, er) := by simp [textS, e0]
    rw [es]
    have e1 : (er == 0) = false := by simpa using e0
    go_enter Tryd.func32, Tryd.ntmps32
    go_wp2_with (go_at_call 56; refine HE.mono ?_; rintro e w1 ⟨rfl, hw⟩; subst w1)
    go_ret
    exact ⟨_, rfl, own_nil _ _ _, grownBy_refl _ _, _, HR.out⟩

end Go.Proofs.YtimmfnjkknbofaaDoor
