/- strings.Builder: what the shelf's contracts ask of the program, each fact by the kernel; Grow, WriteRune, String. -/
import Derived.Test.YtimmfnjkknbofaaDoorOwn
import Derived.Test.YtimmfnjkknbofaaDoorJFCount
import Derived.Test.YtimmfnjkknbofaaDoorJFRange
import Derived.Test.YtimmfnjkknbofaaDoorJFCk
import Derived.Shelf.Lays
import Derived.Shelf.Strings.Builder2
import Derived.Shelf.Strings.BuilderK
import Derived.Shelf.Strings.BuilderRune
namespace Go.Proofs.YtimmfnjkknbofaaDoor
set_option maxRecDepth 20000
open Go.RowKit Go.Shelf
set_option maxRecDepth 1000000
set_option linter.unusedVariables false

def renB : Ren := ⟨fun | 165 => 86 | 168 => 88 | 169 => 90 | 240 => 108 | 241 => 109 | 242 => 111 | 276 => 119 | 277 => 120 | 278 => 121 | n => n, fun | 0 => 0 | 3 => 3 | 4 => 4 | 5 => 5 | 9 => 9 | 20 => 20 | 21 => 21 | 37 => 26 | 46 => 111 | 51 => 145 | 70 => 123 | 72 => 125 | 75 => 131 | 80 => 134 | 127 => 153 | 164 => 161 | n => n, fun n => n⟩
theorem layGrow : Lays.n165 Tryd.prog renB := {
  mixed := by kernel_rfl,
  f165 := by kernel_rfl,
  f240 := by kernel_rfl,
  f241 := by kernel_rfl,
  f276 := by kernel_rfl,
  f277 := by kernel_rfl,
  t0 := by kernel_rfl,
  a0 := fun _ => by kernel_rfl,
  z0 := fun _ => by kernel_rfl,
  v0 := fun _ => by kernel_rfl,
  t3 := by kernel_rfl,
  a3 := fun _ => by kernel_rfl,
  z3 := fun _ => by kernel_rfl,
  v3 := fun _ => by kernel_rfl,
  t4 := by kernel_rfl,
  a4 := fun _ => by kernel_rfl,
  z4 := fun _ => by kernel_rfl,
  v4 := fun _ => by kernel_rfl,
  t9 := by kernel_rfl,
  a9 := fun _ => by kernel_rfl,
  z9 := fun _ => by kernel_rfl,
  v9 := fun _ => by kernel_rfl,
  t20 := by kernel_rfl,
  a20 := fun _ => by kernel_rfl,
  z20 := fun _ => by kernel_rfl,
  v20 := fun _ => by kernel_rfl,
  t37 := by kernel_rfl,
  a37 := fun _ => by kernel_rfl,
  z37 := fun _ => by kernel_rfl,
  v37 := fun _ => by kernel_rfl,
  t70 := by kernel_rfl,
  a70 := fun _ => by kernel_rfl,
  z70 := fun _ => by kernel_rfl,
  v70 := fun _ => by kernel_rfl,
  t72 := by kernel_rfl,
  a72 := fun _ => by kernel_rfl,
  z72 := fun _ => by kernel_rfl,
  v72 := fun _ => by kernel_rfl,
  t164 := by kernel_rfl,
  a164 := fun _ => by kernel_rfl,
  z164 := fun _ => by kernel_rfl,
  v164 := fun _ => by kernel_rfl }

theorem layWRune : Lays.n168 Tryd.prog renB := {
  mixed := by kernel_rfl,
  f168 := by kernel_rfl,
  f240 := by kernel_rfl,
  f242 := by kernel_rfl,
  f276 := by kernel_rfl,
  f278 := by kernel_rfl,
  t0 := by kernel_rfl,
  a0 := fun _ => by kernel_rfl,
  z0 := fun _ => by kernel_rfl,
  v0 := fun _ => by kernel_rfl,
  t3 := by kernel_rfl,
  a3 := fun _ => by kernel_rfl,
  z3 := fun _ => by kernel_rfl,
  v3 := fun _ => by kernel_rfl,
  t4 := by kernel_rfl,
  a4 := fun _ => by kernel_rfl,
  z4 := fun _ => by kernel_rfl,
  v4 := fun _ => by kernel_rfl,
  t5 := by kernel_rfl,
  a5 := fun _ => by kernel_rfl,
  z5 := fun _ => by kernel_rfl,
  v5 := fun _ => by kernel_rfl,
  t9 := by kernel_rfl,
  a9 := fun _ => by kernel_rfl,
  z9 := fun _ => by kernel_rfl,
  v9 := fun _ => by kernel_rfl,
  t20 := by kernel_rfl,
  a20 := fun _ => by kernel_rfl,
  z20 := fun _ => by kernel_rfl,
  v20 := fun _ => by kernel_rfl,
  t21 := by kernel_rfl,
  a21 := fun _ => by kernel_rfl,
  z21 := fun _ => by kernel_rfl,
  v21 := fun _ => by kernel_rfl,
  t37 := by kernel_rfl,
  a37 := fun _ => by kernel_rfl,
  z37 := fun _ => by kernel_rfl,
  v37 := fun _ => by kernel_rfl,
  t46 := by kernel_rfl,
  a46 := fun _ => by kernel_rfl,
  z46 := fun _ => by kernel_rfl,
  v46 := fun _ => by kernel_rfl,
  t51 := by kernel_rfl,
  a51 := fun _ => by kernel_rfl,
  z51 := fun _ => by kernel_rfl,
  v51 := fun _ => by kernel_rfl,
  t70 := by kernel_rfl,
  a70 := fun _ => by kernel_rfl,
  z70 := fun _ => by kernel_rfl,
  v70 := fun _ => by kernel_rfl,
  t72 := by kernel_rfl,
  a72 := fun _ => by kernel_rfl,
  z72 := fun _ => by kernel_rfl,
  v72 := fun _ => by kernel_rfl,
  t75 := by kernel_rfl,
  a75 := fun _ => by kernel_rfl,
  z75 := fun _ => by kernel_rfl,
  v75 := fun _ => by kernel_rfl,
  t164 := by kernel_rfl,
  a164 := fun _ => by kernel_rfl,
  z164 := fun _ => by kernel_rfl,
  v164 := fun _ => by kernel_rfl }

theorem layStr : Lays.n169 Tryd.prog renB := {
  mixed := by kernel_rfl,
  f169 := by kernel_rfl,
  t0 := by kernel_rfl,
  a0 := fun _ => by kernel_rfl,
  z0 := fun _ => by kernel_rfl,
  v0 := fun _ => by kernel_rfl,
  t3 := by kernel_rfl,
  a3 := fun _ => by kernel_rfl,
  z3 := fun _ => by kernel_rfl,
  v3 := fun _ => by kernel_rfl,
  t9 := by kernel_rfl,
  a9 := fun _ => by kernel_rfl,
  z9 := fun _ => by kernel_rfl,
  v9 := fun _ => by kernel_rfl,
  t37 := by kernel_rfl,
  a37 := fun _ => by kernel_rfl,
  z37 := fun _ => by kernel_rfl,
  v37 := fun _ => by kernel_rfl,
  t70 := by kernel_rfl,
  a70 := fun _ => by kernel_rfl,
  z70 := fun _ => by kernel_rfl,
  v70 := fun _ => by kernel_rfl,
  t72 := by kernel_rfl,
  a72 := fun _ => by kernel_rfl,
  z72 := fun _ => by kernel_rfl,
  v72 := fun _ => by kernel_rfl,
  t127 := by kernel_rfl,
  a127 := fun _ => by kernel_rfl,
  z127 := fun _ => by kernel_rfl,
  v127 := fun _ => by kernel_rfl }

theorem bldX : Builder.Extra Tryd.prog renB := {
  sizeBuilder := by kernel_rfl,
  liesBuilder := by kernel_rfl,
  t5 := by kernel_rfl,
  a5 := fun _ => by kernel_rfl,
  z5 := fun _ => by kernel_rfl,
  v5 := fun _ => by kernel_rfl,
  infoByte := by kernel_rfl,
  cellsByte := by kernel_rfl,
  sizeByte := by kernel_rfl,
  neB5 := by decide }

abbrev IsB (b : Nat) (bs : List Value) (w : World) : Prop := Lib.IsBuilderF 125 5 b b bs w
theorem bldGrow_any (b n : Nat) (w : World) (hbk : w.heap[b]? = some (.cells #[.pointer none, .slice none 0 0] 125 (0, 0))) (hBw : b ≤ w.heap.size) (hn : n ≤ 281474976710656) :
    Calls Tryd.prog 86 #[.pointer (some ⟨b, 0, none⟩), .int .i64 n] w fun e w' => e = .returned (.tuple #[]) ∧ IsB b [] w' ∧ Below b w w' :=
  (Any.Builder_Grow_fresh layGrow bldX b b n w (Nat.le_refl _) hbk hBw hn).mono fun e w' ⟨h1, h2, h3⟩ => ⟨h1, Lib.IsBuilderF.of (Or.inr h2), h3⟩
theorem bldRune_any (b : Nat) (bs : List Value) (r : Int) (hr0 : -2147483648 ≤ r) (hr1 : r ≤ 2147483647) (w : World) (h : IsB b bs w) (hlen : bs.length + 4 ≤ 140737488355328) (hBw : b ≤ w.heap.size) :
    Calls Tryd.prog 88 #[.pointer (some ⟨b, 0, none⟩), .int .i32 r] w fun e w' => e = .returned (.tuple #[.int .i64 (Lib.runeCells r).length, .nilIface]) ∧ IsB b (bs ++ Lib.runeCells r) w' ∧ Below b w w' ∧ Lib.OthersKept 5 (some b) w w' :=
  (Any.Builder_WriteRune_k layWRune bldX b b bs r hr0 hr1 w h hlen hBw).mono fun e w' ⟨h1, h2, h3, h4⟩ => ⟨h1, Or.inr h2, h3, h4⟩
theorem bldStr_any (b : Nat) (l : List UInt8) (w : World) (h : IsB b (Lib.byteCells l) w) (hBw : b ≤ w.heap.size) :
    Calls Tryd.prog 90 #[.pointer (some ⟨b, 0, none⟩)] w fun e w' => e = .returned (.string ⟨l.toArray⟩) ∧ Below b w w' ∧ Lib.OthersKept 5 (some b) w w' :=
  (Any.Builder_String_any_k layStr bldX b b l w h hBw).mono fun e w' ⟨h1, _, h3, h4⟩ => ⟨h1, h3, h4⟩

end Go.Proofs.YtimmfnjkknbofaaDoor
/- Contract: package fold's Text. -/
namespace Go.Proofs.YtimmfnjkknbofaaDoor
set_option maxRecDepth 20000
open Go.RowKit Go.Shelf
set_option linter.unusedVariables false
set_option maxRecDepth 100000
attribute [local go_sem] Oper.semAt_some

/-- the runes of a text, each folded, as bytes -/
def foldZ (xs : List Fd) (l : List (Nat × Nat)) : List Int := l.flatMap fun p => Lib.encodeRuneZ (foldL xs (p.2 : Int))
def foldU (xs : List Fd) (l : List (Nat × Nat)) : List UInt8 := l.flatMap fun p => Lib.encodeRune (foldL xs (p.2 : Int))
theorem foldZ_str (xs : List Fd) (l : List (Nat × Nat)) : strOfNums (foldZ xs l) = ⟨(foldU xs l).toArray⟩ := by
  have : ∀ l : List (Nat × Nat), (foldZ xs l).map (fun n => UInt8.ofNat n.toNat) = foldU xs l := fun l => by
    induction l with
    | nil => rfl
    | cons p l ih =>
      simp only [foldZ, foldU, List.flatMap_cons, List.map_append] at ih ⊢
      rw [ih]
      rfl
  unfold strOfNums
  rw [this]
theorem foldU_snoc (xs : List Fd) (l : List (Nat × Nat)) (k : Nat) (hk : k < l.length) : foldU xs (l.take (k + 1)) = foldU xs (l.take k) ++ Lib.encodeRune (foldL xs (l[k].2 : Int)) := by
  rw [List.take_succ_eq_append_getElem hk]
  unfold foldU
  rw [List.flatMap_append, List.flatMap_cons, List.flatMap_nil, List.append_nil]
theorem foldU_len (xs : List Fd) : ∀ l : List (Nat × Nat), (foldU xs l).length ≤ 4 * l.length
  | [] => by simp [foldU]
  | p :: l => by
    have h1 := foldU_len xs l
    have h2 := Lib.encodeRuneZ_length (foldL xs (p.2 : Int))
    simp only [foldU, List.flatMap_cons, List.length_append, List.length_cons] at h1 ⊢
    have : (Lib.encodeRune (foldL xs (p.2 : Int))).length = (Lib.encodeRuneZ (foldL xs (p.2 : Int))).length := by simp [Lib.encodeRune]
    omega
theorem foldL_i32 (xs : List Fd) (h : AllN xs) (r : Int) (hr : I32 r) : I32 (foldL xs r) := by
  induction xs with
  | nil => exact hr
  | cons x xs ih =>
    unfold foldL
    have hx := h x (List.mem_cons_self ..)
    split
    · rename_i hin
      obtain ⟨⟨h1, h2⟩, h3, h4, h5, h6⟩ := hx
      exact ⟨by omega, by omega⟩
    · exact ih (fun y hy => h y (List.mem_cons_of_mem _ hy))

theorem IsB.only {b : Nat} {bs : List Value} {w w' : World} {S : Nat → Prop} (h : IsB b bs w) (ho : Only S w w') (hS : ∀ j, S j → noC w j) : IsB b bs w' := by
  have key : ∀ p, Lib.BuilderAtF 125 5 b b p bs w → Lib.BuilderAtF 125 5 b b p bs w' := fun p hp => by
    obtain ⟨hB, v, hb, hown, hne⟩ := hp
    have kp : ∀ k c t f, w.heap[k]? = some (Obj.cells c t f) → w'.heap[k]? = some (Obj.cells c t f) := fun k c t f e => (ho.block k (Array.getElem?_eq_some_iff.1 e).1 (fun hs => hS k hs c t f e)).trans e
    refine ⟨hB, v, kp _ _ _ _ hb, ⟨hown.1, ?_⟩, hne⟩
    rcases hown.2 with hn | ⟨g, cap, cur, fz, hv, hbg, hg, rest⟩
    · exact .inl hn
    · exact .inr ⟨g, cap, cur, fz, hv, hbg, kp _ _ _ _ hg, rest⟩
  exact h.elim (fun x => .inl (key _ x)) (fun x => .inr (key _ x))

/-- between two rounds of Text: the world w1 behind 'usable', its table's value u, the bytes so far -/
structure TxI (w w1 : World) (u : Value) (xs : List Fd) (s : ByteArray) (B7 : Nat) (acc : List UInt8) (Y : Nat → Prop) (W : World) : Prop where
  box : Blk W w1.heap.size 22 [u]
  str : Blk W B7 9 [.string s]
  bld : IsB (w1.heap.size + 1) (Lib.byteCells acc) W
  n1 : noC W (B7 + 1)
  n2 : noC W (B7 + 1 + 1)
  below : Below w1.heap.size w1 W
  size : B7 + 3 ≤ W.heap.size
  ys : ∀ j, Y j → B7 + 3 ≤ j ∧ j < W.heap.size
  no : allNo Y W
theorem TxI.keep {w w1 : World} {u : Value} {xs : List Fd} {s : ByteArray} {B7 : Nat} {acc : List UInt8} {Y : Nat → Prop} {W W' : World} (h : TxI w w1 u xs s B7 acc Y W) (hB : w1.heap.size + 2 ≤ B7) (ho : Only (fun j => j = B7 + 1 ∨ j = B7 + 1 + 1) W W') (h1 : noC W' (B7 + 1)) (h2 : noC W' (B7 + 1 + 1)) : TxI w w1 u xs s B7 acc Y W' :=
  ⟨h.box.only ho (by omega), h.str.only ho (by omega), h.bld.only ho (fun j hj => hj.elim (fun e => e ▸ h.n1) (fun e => e ▸ h.n2)), h1, h2, h.below.trans (ho.below h.below.size (fun j hj e => by omega)), Nat.le_trans h.size ho.size, fun j hj => ⟨(h.ys j hj).1, Nat.lt_of_lt_of_le (h.ys j hj).2 ho.size⟩,
    h.no.keep (fun j hj => ho.block j (h.ys j hj).2 (by have := (h.ys j hj).1; omega))⟩
theorem noC.only {W W' : World} {j : Nat} {S : Nat → Prop} (h : noC W j) (ho : Only S W W') (hj : j < W.heap.size) (hS : ¬ S j) : noC W' j := fun cs t f e => h cs t f ((ho.block j hj hS).symm.trans e)
theorem TxI.grow {w w1 : World} {u : Value} {xs : List Fd} {s : ByteArray} {B7 : Nat} {acc : List UInt8} {Y : Nat → Prop} {W W' : World} (h : TxI w w1 u xs s B7 acc Y W) (hB : w1.heap.size + 2 ≤ B7) (ho : Only Y W W') (hno : allNo (more Y W W') W') : TxI w w1 u xs s B7 acc (more Y W W') W' := by
  have hs := h.size
  have hy := h.ys
  refine ⟨h.box.only ho (fun e => by have := (hy _ e).1; omega), h.str.only ho (fun e => by have := (hy _ e).1; omega), h.bld.only ho (fun j hj => (h.no j hj).2), h.n1.only ho (by omega) (fun e => by have := (hy _ e).1; omega), h.n2.only ho (by omega) (fun e => by have := (hy _ e).1; omega), h.below.trans (ho.below h.below.size (fun j hj e => by have := (hy _ e).1; omega)), Nat.le_trans h.size ho.size, fun j hj => ?_, hno⟩
  rcases hj with hj | hj
  · exact ⟨(hy j hj).1, Nat.lt_of_lt_of_le (hy j hj).2 ho.size⟩
  · exact ⟨by omega, hj.2⟩
theorem TxI.below' {w w1 : World} {u : Value} {xs : List Fd} {s : ByteArray} {B7 : Nat} {acc : List UInt8} {Y : Nat → Prop} {W W' : World} (h : TxI w w1 u xs s B7 acc Y W) (hb : Below W.heap.size W W') : TxI w w1 u xs s B7 acc Y W' := by
  have ho : Only (fun _ => False) W W' := Only.of_below _ hb
  have hs := h.size
  exact ⟨h.box.only ho (fun h => h), h.str.only ho (fun h => h), h.bld.only ho (fun j hj => hj.elim), h.n1.only ho (by omega) (fun h => h), h.n2.only ho (by omega) (fun h => h), h.below.trans (hb.mono h.below.size), Nat.le_trans h.size hb.size, fun j hj => ⟨(h.ys j hj).1, Nat.lt_of_lt_of_le (h.ys j hj).2 hb.size⟩, h.no.keep (fun j hj => ho.block j (h.ys j hj).2 (fun h => h))⟩
/-- behind WriteRune -/
theorem TxI.write {w w1 : World} {u : Value} {xs : List Fd} {s : ByteArray} {B7 : Nat} {acc acc' : List UInt8} {Y : Nat → Prop} {W W' : World} (h : TxI w w1 u xs s B7 acc Y W) (hB : w1.heap.size + 2 ≤ B7) (hI : IsB (w1.heap.size + 1) (Lib.byteCells acc') W') (hb : Below (w1.heap.size + 1) W W') (hk : Lib.OthersKept 5 (some (w1.heap.size + 1)) W W') :
    TxI w w1 u xs s B7 acc' Y W' ∧ Keeps2 (B7 + 1) W W' ∧ KeepsY Y W W' := by
  have hs := h.size
  have hblk : ∀ b t vs, t ≠ 5 → b ≠ w1.heap.size + 1 → Blk W b t vs → Blk W' b t vs := fun b t vs ht hne hB => hk b _ hB (fun e => hne (Option.some.inj e)) (fun c fz e => by cases e; exact ht rfl)
  have hno : ∀ j, j < W.heap.size → j ≠ w1.heap.size + 1 → noC W j → W'.heap[j]? = W.heap[j]? := fun j hj hne hn => by
    have he : W.heap[j]? = some W.heap[j] := by simp [hj]
    exact (hk j _ he (fun e => hne (Option.some.inj e)) (fun c fz e => hn c 5 fz (he.trans (congrArg some e)))).trans he.symm
  have k1 := hno (B7 + 1) (by omega) (by omega) h.n1
  have k2 := hno (B7 + 1 + 1) (by omega) (by omega) h.n2
  have kY : KeepsY Y W W' := fun j hj => hno j (h.ys j hj).2 (by have := (h.ys j hj).1; omega) (h.no j hj).2
  refine ⟨⟨hblk _ _ _ (by decide) (by omega) h.box, hblk _ _ _ (by decide) (by omega) h.str, hI, fun cs t f e => h.n1 cs t f (k1.symm.trans e), fun cs t f e => h.n2 cs t f (k2.symm.trans e), h.below.trans (hb.mono (by omega)), Nat.le_trans h.size hb.size, fun j hj => ⟨(h.ys j hj).1, Nat.lt_of_lt_of_le (h.ys j hj).2 hb.size⟩, h.no.keep kY⟩, fun j hj o ho => ?_, kY⟩
  rcases hj with rfl | rfl
  · exact k1.trans ho
  · exact k2.trans ho

/-- Grow, of the builder that Text has just laid -/
theorem text_grow (w1 : World) (ua : Option Addr) (n uc m : Nat) (hm : m ≤ 1000000) :
    Calls Tryd.prog 86 #[.pointer (some ⟨w1.heap.size + 1, 0, none⟩), .int .i64 (m : Int)] ((w1.alloc (.cells #[.slice ua n uc] 22)).alloc (.cells #[.pointer none, .slice none 0 0] 125)) fun e w' =>
      e = .returned (.tuple #[]) ∧ IsB (w1.heap.size + 1) [] w' ∧ Below w1.heap.size w1 w' ∧ Blk w' w1.heap.size 22 [.slice ua n uc] ∧ w1.heap.size + 2 ≤ w'.heap.size := by
  obtain ⟨W0, hW0⟩ : ∃ W0, (w1.alloc (.cells #[.slice ua n uc] 22)).alloc (.cells #[.pointer none, .slice none 0 0] 125) = W0 := ⟨_, rfl⟩
  have hs0 : W0.heap.size = w1.heap.size + 2 := by rw [← hW0]; simp
  have hh : W0.heap[w1.heap.size + 1]? = some (.cells #[.pointer none, .slice none 0 0] 125 (0, 0)) := by
    rw [← hW0]
    have := World.alloc_heap_new (w1.alloc (.cells #[.slice ua n uc] 22)) (.cells #[.pointer none, .slice none 0 0] 125)
    rw [World.size_alloc] at this
    exact this
  have hx : Blk W0 w1.heap.size 22 [.slice ua n uc] := by rw [← hW0]; exact (Blk.new w1 _ _).alloc _
  have hb : Below w1.heap.size w1 W0 := by rw [← hW0]; exact ((Below.refl _ w1).alloc (Nat.le_refl _) _).alloc (by simp) _
  rw [hW0]
  refine (bldGrow_any (w1.heap.size + 1) m W0 hh (by omega) (by omega)).mono ?_
  rintro e w' ⟨rfl, h1, h2⟩
  have h3 := h2.size
  exact ⟨rfl, h1, hb.trans (h2.mono (by omega)), (h2.block _ (by omega)).trans hx, by omega⟩

set_option maxHeartbeats 4000000 in
theorem text_any (w : World) (v : Value) (xs : List Fd) (hT : Tbl w v xs) (bv : Value) (zs : List Int) (hS : Sl w bv zs) (hl : zs.length ≤ 1000000) (hL : Let w) :
    Calls Tryd.prog 69 #[v, bv] w fun e w' => e = .returned (.string (strOfNums (foldZ (useL xs) (runesN zs)))) ∧ Below w.heap.size w w' := by
  have HU := hide (usable_any w v xs hT hL)
  have HOK := hide (useL_ok xs)
  rw [foldZ_str]
  generalize useL xs = us at *
  have HS := hide hS
  have hle := runesN_len zs
  have HIT : Hid (∀ B, Iter4 Tryd.prog 110 #[.pointer (some ⟨B, 0, none⟩)] encN (runesN zs) (RnV B (strOfNums zs))) := fun B => runes_iter B zs (by omega)
  have HRU : Hid (∀ W, Below w.heap.size w W → Calls Tryd.prog 87 #[bv] W fun e w' => e = .returned (.func (.func 110) #[] #[.pointer (some ⟨W.heap.size, 0, none⟩)]) ∧ w' = W.alloc (.cells #[.string (strOfNums zs)] 9)) := fun W hb => runes_any W bv zs (hS.below hb)
  have HFO : Hid (∀ u W r, Tbl W u us → I32 r → Calls Tryd.prog 89 #[u, .int .i32 r] W fun e w' => e = .returned (.int .i32 (foldL us r)) ∧ Below W.heap.size W w') := fun u W r h hr => foldedBy_any W u _ r h HOK.out hr
  generalize strOfNums zs = s at *
  have hR32 : ∀ p ∈ runesN zs, p.2 ≤ 2147483647 := runesN_i32 zs
  generalize runesN zs = R at *
  obtain ⟨bo, bn, bc, rfl⟩ := sl_form hS
  have hbn : bn = zs.length := by obtain ⟨_, ao', cap', he, _⟩ := hS; simp at he; exact he.2.1
  obtain ⟨ao, cap, rfl⟩ := hT.len
  clear hT hL hS
  refine (callsIn_wide (n := 3)).1 ?_
  refine callsIn_of_wp_marks Tryd.func69 rfl trivial ?_ rfl
  simp only [Tryd.ntmps69, List.size_toArray, List.length_cons, List.length_nil, Nat.reduceAdd, Nat.reduceSub, Array.replicate_succ, Array.replicate_zero, List.push_toArray, List.append_toArray, List.nil_append, List.cons_append]
  have HBN := hide hbn
  clear hbn
  have hlen : ((bn : Nat) : Int) ≤ 1000000 := by have := HBN.out; omega
  gi_wp2_with (first
    | (refine ⟨trivial, ?_⟩; gi_at_call 85; refine (callsIn_wide.2 HU.out).mono ?_; rintro e w1 ⟨u, rfl, ht, hb⟩; obtain ⟨ua, uc, rfl⟩ := ht.len; have HT := hide (ht.below hb); have HB1 := hide hb; have HG := hide (text_grow w1 ua us.length uc bn (by have := HBN.out; omega)); clear HU ht hb)
    | (refine ⟨trivial, ?_⟩; gi_at_call 86; refine (callsIn_wide.2 HG.out).mono ?_; rintro e w2 ⟨rfl, hI, hb, hx, hsz⟩; have HI := hide hI; have HB2 := hide hb; have HX2 := hide hx; have HSZ := hide hsz; clear HG hI hb hx hsz)
    | (refine ⟨trivial, ?_⟩; gi_at_call 87; refine (callsIn_wide.2 (HRU.out w2 (HB1.out.trans (HB2.out.mono HB1.out.size)))).mono ?_; rintro e w3 ⟨rfl, hw⟩; subst w3; clear HRU))
  obtain ⟨W3, hW3⟩ : ∃ W3, w2.alloc (.cells #[.string s] 9) = W3 := ⟨_, rfl⟩
  have hs3 : W3.heap.size = w2.heap.size + 1 := by rw [← hW3]; simp
  have hBS : Blk W3 w2.heap.size 9 [.string s] := by rw [← hW3]; exact Blk.new w2 _ _
  have hBX : Blk W3 w1.heap.size 22 [.slice ua us.length uc] := by rw [← hW3]; exact Blk.alloc HX2.out _
  have hIB : IsB (w1.heap.size + 1) (Lib.byteCells []) W3 := by rw [← hW3]; exact Lib.IsBuilderF.alloc HI.out _
  have hb3 : Below w1.heap.size w1 W3 := by rw [← hW3]; exact HB2.out.alloc (by have := HSZ.out; omega) _
  have hB7 : w1.heap.size + 2 ≤ w2.heap.size := HSZ.out
  have HBW : Hid (Below w.heap.size w w1) := HB1
  rw [hW3]
  obtain ⟨n, hn⟩ : ∃ n, us.length = n := ⟨_, rfl⟩
  rw [hn] at hBX HT ⊢
  clear hW3
  refine wp_range9 (gf := 110) (lb := #[.pointer (some ⟨w2.heap.size, 0, none⟩)]) (xs := R) (encs := encN) (V := RnV w2.heap.size s) rfl enters_runes (HIT.out _) (fun _ => rfl) (fun Y k W => TxI w w1 (.slice ua n uc) us s w2.heap.size (foldU us (R.take k)) Y W) (fun _ _ _ _ => False) ?_ ?_ (fun _ _ _ _ _ h _ => h) (fun _ _ _ _ _ h _ _ => h) ?_ ?_
    (fun x => { tmps := #[.slice ao xs.length cap, .slice bo bn bc, undef, undef, .string ⟨#[]⟩, .pointer (some ⟨w1.heap.size, 0, none⟩), .pointer (some ⟨w1.heap.size + 1, 0, none⟩), undef, .int .i32 (x.2 : Int), .slice ao xs.length cap, .slice ua n uc, .slice bo bn bc, .int .i64 (bn : Int), .tuple #[], .slice bo bn bc, .func (.func 110) #[] #[.pointer (some ⟨w2.heap.size, 0, none⟩)], .int .i64 (x.1 : Int), .int .i32 (x.2 : Int), undef, undef, undef, undef, undef], defers := [] }) ?assign ?body ?done (fun _ _ _ _ _ h _ => h.elim)
  · intro Y k W W' h ho h1 h2
    exact h.keep hB7 (by rw [hs3] at ho; exact ho) (by rw [hs3] at h1; exact h1) (by rw [hs3] at h2; exact h2)
  · intro Y k W W' h ho hno
    exact h.grow hB7 ho hno
  · intro Y k W h
    exact h.str.cell 0
  · intro W1 ho hs h1 h2
    rw [hs3] at hs h1 h2
    exact ⟨hBX.only ho (fun h => h), hBS.only ho (fun h => h), hIB.only ho (fun j hj => hj.elim), h1, h2, hb3.trans ((ho.below (Nat.le_refl _) (fun _ _ h => h)).mono (by omega)), by omega, (fun _ h => h.elim), (fun _ h => h.elim)⟩
  case assign =>
    intro l k hk W K hK
    gi_wp2
    first | exact hK | simpa using hK
  case body =>
    intro l Y k hk W h
    have hr := hR32 _ (List.getElem_mem hk)
    have hacc := foldU_len us (R.take k)
    have hstep := foldU_snoc us R k hk
    obtain ⟨x, hx⟩ : ∃ x, R[k] = x := ⟨_, rfl⟩
    rw [hx] at hr hstep ⊢
    obtain ⟨p, r⟩ := x
    simp only at hr hstep
    have c5 : W.cell? ⟨w1.heap.size, 0, none⟩ = some (.slice ua n uc) := h.box.cell 0
    have hI32 : I32 (r : Int) := ⟨by omega, by omega⟩
    have HF := hide (HFO.out _ W r (HT.out.below h.below) hI32)
    have hv := foldL_i32 us HOK.out r hI32
    have HW : Hid (∀ W', Below W.heap.size W W' → Calls Tryd.prog 88 #[.pointer (some ⟨w1.heap.size + 1, 0, none⟩), .int .i32 (foldL us r)] W' fun e w' => e = .returned (.tuple #[.int .i64 (Lib.runeCells (foldL us r)).length, .nilIface]) ∧ TxI w w1 (.slice ua n uc) us s w2.heap.size (foldU us (R.take (k + 1))) Y w' ∧ Keeps2 (w2.heap.size + 1) W' w' ∧ KeepsY Y W' w') := fun W' hb => by
      have h' := h.below' hb
      refine (bldRune_any (w1.heap.size + 1) (Lib.byteCells (foldU us (R.take k))) (foldL us r) hv.1 hv.2 W' h'.bld (by rw [Lib.byteCells_length]; simp at hacc; omega) (by have := h'.size; omega)).mono ?_
      rintro e w' ⟨he, h1, h2, h3⟩
      refine ⟨he, h'.write hB7 ?_ h2 h3⟩
      rw [hstep, Lib.byteCells_append, Lib.byteCells_encodeRune]
      exact h1
    have HH := hide h
    have HHZ : Hid (w2.heap.size + 3 ≤ W.heap.size) := h.size
    generalize foldL us r = q at *
    clear h hI32 hstep hacc hv
    gi_wp2_with (first
      | (refine ⟨trivial, ?_⟩; gi_at_call 89; refine (calls_wideR HF.out _ _).mono ?_; rintro e w4 ⟨rfl, hb⟩; have HB4 := hide hb; clear HF hb)
      | (refine ⟨trivial, ?_⟩; gi_at_call 88; refine (calls_wideR (HW.out w4 HB4.out) _ _).mono ?_; rintro e w5 ⟨rfl, hh, hk2, hkY⟩; have HH5 := hide hh; have HK2 := hide hk2; have HKY := hide hkY; clear HW hh hk2 hkY))
    have ho : Only (fun _ => False) W w4 := Only.of_below _ HB4.out
    refine ⟨?_, ?_, HH5.out⟩
    · rw [hs3]; exact (Keeps2.of_only ho (fun h => h) (fun h => h)).trans HK2.out
    · exact KeepsY.trans (fun j hj => ho.block j (HH.out.ys j hj).2 (fun h => h)) HKY.out
  case done =>
    intro Y W h hD
    rw [List.take_of_length_le (Nat.le_refl _)] at h
    have HST := hide (bldStr_any (w1.heap.size + 1) (foldU us R) W h.bld (by have := h.size; omega))
    have HH := hide h
    have HD := hide hD
    clear h hD
    gi_wp2_with (refine ⟨trivial, ?_⟩; gi_at_call 90; refine (callsIn_wide.2 HST.out).mono ?_; rintro e w6 ⟨rfl, hb, hk⟩; have HB6 := hide hb; have HK6 := hide hk; clear HST hb hk)
    have hD6 := HK6.out _ _ HD.out (fun e => by have := Option.some.inj e; omega) (fun c fz e => by cases e)
    rw [hs3] at hD6
    refine ⟨by simp, .inl ⟨_, _, rfl, run_takeDeferred hD6, ?_⟩⟩
    have hoD : Only (· = w2.heap.size + 1) w6 (w6.putObj (w2.heap.size + 1) (.deferred none)) := only_put1 w6 _ _ _ rfl
    have hb6 : Below w1.heap.size w1 w6 := HH.out.below.trans (HB6.out.mono (by omega))
    exact ⟨_, results_tmp (t := 4) rfl _ _ _, rfl, (HB1.out.trans (hb6.mono HB1.out.size)).trans (hoD.below (by have := HB1.out.size; have := hb6.size; omega) (fun j hj e => by have := HB1.out.size; omega))⟩

end Go.Proofs.YtimmfnjkknbofaaDoor
