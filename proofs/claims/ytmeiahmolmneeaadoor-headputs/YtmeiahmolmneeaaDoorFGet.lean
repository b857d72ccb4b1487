/- Contract: the frame of bytes (frame.Get). -/
import Derived.Test.YtmeiahmolmneeaaDoorFPutF
import Derived.Laws.ResultCell
namespace Go.Proofs.YtmeiahmolmneeaaDoor
set_option maxRecDepth 20000
open Go.RowKit
set_option linter.unusedVariables false

theorem sizeFrame : (Tryd.prog.info? 59).map (·.size) = some 4 := by kernel_rfl

/-- what is returned of a frame's cells and an error -/
theorem ret_frame {fn : Func} {p u : Tmp} (h : fn.results = #[.cell p 59, .tmp u]) (tmps : Array Value) (w : World) (b : Nat) (x0 x1 x2 x3 er : Value) (hp : tmps.getD p undef = .pointer (some ⟨b, 0, none⟩)) (hu : tmps.getD u undef = er) (hB : Blk w b 59 [x0, x1, x2, x3]) :
    (results fn tmps).run Tryd.prog w = .ok (.tuple #[.agg #[x0, x1, x2, x3], er]) w := by
  rw [results_cell_tmp h, hp, hu]
  have := run_loadVar_row (P := Tryd.prog) w b 59 59 #[x0, x1, x2, x3] (0, 0) _ hB Tryd.underlying59 rfl sizeFrame
  simp only [asAddr, Sem.run_pure, Result.andThen_ok]
  rw [this]
  rfl

/-- a frame's cells laid into the result's block -/
theorem store_frame {w : World} {b : Nat} {y0 y1 y2 y3 x0 x1 x2 x3 : Value} (h : Blk w b 59 [y0, y1, y2, y3]) : Blk (w.setCells b 0 [x0, x1, x2, x3]) b 59 [x0, x1, x2, x3] := by
  have := h.setMany [x0, x1, x2, x3] 0 w (by simp)
  simpa [splice] using this

/-- so far: what was there is as it was, and the result's block holds no frame -/
def St (w w1 : World) : Prop := Below w.heap.size w w1 ∧ Blk w1 w.heap.size 59 [.int .i64 0, .int .i64 0, .int .u64 0, .slice none 0 0]
theorem St.new (w : World) : St w (w.alloc (.cells #[.int .i64 0, .int .i64 0, .int .u64 0, .slice none 0 0] 59)) := ⟨(Below.refl _ w).alloc (Nat.le_refl _) _, Blk.new w _ [.int .i64 0, .int .i64 0, .int .u64 0, .slice none 0 0]⟩
theorem St.below {w w1 w2 : World} (h : St w w1) (hb : Below w1.heap.size w1 w2) : St w w2 := ⟨h.1.trans (hb.mono h.1.size), h.2.below hb h.2.lt⟩
theorem St.grown {w w1 w2 : World} {b : Nat} (h : St w w1) (hg : w1.grownBy w2 (some b)) (hb : w.heap.size < b) : St w w2 :=
  ⟨h.1.grown hg h.1.size (fun k hk => by cases hk; omega), (hg.block _ h.2.lt (by simp; omega)).trans h.2⟩
theorem St.there {w w1 : World} (h : St w w1) : w1.there w.heap.size 0 4 := h.2.there 0 4 (by simp)
/-- a frame's cells laid into the result's block, one by one -/
def laidF (w1 : World) (b : Nat) (x0 x1 x2 x3 : Value) : World := (((w1.setCell ⟨b, 0, none⟩ x0).setCell ⟨b, 1, none⟩ x1).setCell ⟨b, 2, none⟩ x2).setCell ⟨b, 3, none⟩ x3
theorem St.store {w w1 : World} (h : St w w1) (x0 x1 x2 x3 : Value) : Blk (laidF w1 w.heap.size x0 x1 x2 x3) w.heap.size 59 [x0, x1, x2, x3] ∧ Below w.heap.size w (laidF w1 w.heap.size x0 x1 x2 x3) ∧ ∀ k, k ≠ w.heap.size → (laidF w1 w.heap.size x0 x1 x2 x3).heap[k]? = w1.heap[k]? := by
  refine ⟨store_frame h.2, ?_, fun k hk => ?_⟩
  · have o0 : Only (fun k => w.heap.size ≤ k) w w1 := ⟨h.1.os, h.1.tape, h.1.output, h.1.size, fun k hk _ => h.1.block k hk⟩
    exact (Only.setCells w.heap.size [x0, x1, x2, x3] 0 _ o0 (fun _ => Nat.le_refl _)).below (Nat.le_refl _) (fun k hk h => by omega)
  · unfold laidF
    rw [Below.heap_setCell _ _ _ _ hk, Below.heap_setCell _ _ _ _ hk, Below.heap_setCell _ _ _ _ hk, Below.heap_setCell _ _ _ _ hk]
/-- what a store into it asks for -/
theorem St.cells {w w1 : World} (h : St w w1) : (w1.cell? ⟨w.heap.size, 0, none⟩ = some (.int .i64 0) ∧ w1.cell? ⟨w.heap.size, 1, none⟩ = some (.int .i64 0) ∧ w1.cell? ⟨w.heap.size, 2, none⟩ = some (.int .u64 0) ∧ w1.cell? ⟨w.heap.size, 3, none⟩ = some (.slice none 0 0)) ∧
    w1.frozen? ⟨w.heap.size, 0, none⟩ = false ∧ w1.frozen? ⟨w.heap.size, 1, none⟩ = false ∧ w1.frozen? ⟨w.heap.size, 2, none⟩ = false ∧ w1.frozen? ⟨w.heap.size, 3, none⟩ = false :=
  ⟨box_cells h.2, h.2.frozen 0, h.2.frozen 1, h.2.frozen 2, h.2.frozen 3⟩

theorem takeS_yes (zs : List Int) (n : Nat) (h : n ≤ zs.length) : takeS zs 0 n = (zs.take n, zs.drop n, 0) := by
  unfold takeS
  rw [if_neg (by simp), if_neg (by omega), if_neg (by omega)]
  simp

/-- what the reader takes of a page's bytes behind the sum -/
theorem reads {x : List Int} (hx : ByteOk x) (hl : x.length = 252) :
    takeS x 0 1 = ([kindOf x], x.drop 1, 0) ∧ takeS (x.drop 1) 0 1 = ([x.getD 1 0], x.drop 2, 0) ∧ takeS (x.drop 2) 0 2 = ([x.getD 2 0, x.getD 3 0], x.drop 4, 0) ∧ takeS (x.drop 4) 0 8 = ((x.drop 4).take 8, x.drop 12, 0) ∧ takeS (x.drop 12) 0 240 = (x.drop 12, [], 0) := by
  have e1 := takeS_yes x 1 (by omega)
  have e2 := takeS_yes (x.drop 1) 1 (by simp; omega)
  have e3 := takeS_yes (x.drop 2) 2 (by simp; omega)
  have e4 := takeS_yes (x.drop 4) 8 (by simp; omega)
  have e5 := takeS_yes (x.drop 12) 240 (by simp; omega)
  rw [List.drop_drop] at e2 e3 e4 e5
  have f5 : (x.drop 12).take 240 = x.drop 12 := List.take_of_length_le (by simp; omega)
  have g5 : x.drop (12 + 240) = [] := List.drop_of_length_le (by omega)
  rw [f5, g5] at e5
  rcases x with _ | ⟨a, _ | ⟨b, _ | ⟨c, _ | ⟨d, r⟩⟩⟩⟩
  · simp at hl
  · simp at hl
  · simp at hl
  · simp at hl
  · refine ⟨?_, ?_, ?_, e4, e5⟩
    · have := e1; simp only [List.take_succ_cons, List.take_zero] at this; exact this
    · have := e2; simp only [List.drop_succ_cons, List.drop_zero, List.take_succ_cons, List.take_zero] at this; exact this
    · have := e3; simp only [List.drop_succ_cons, List.drop_zero, List.take_succ_cons, List.take_zero] at this; exact this

theorem num1 {a : Int} (h : 0 ≤ a) : ((numOf [a] : Nat) : Int) = a := by simp [numOf, numAcc]; omega
theorem num2 {a b : Int} (h : 0 ≤ a) (h2 : 0 ≤ b) : ((numOf [a, b] : Nat) : Int) = a * 256 + b := by simp [numOf, numAcc]; omega

/-- a frame that was answered: its value, with bytes of the call's own -/
def Gives (w : World) (g : Fr) (r : Ending) (w' : World) : Prop :=
  ∃ a n c, r = .returned (.tuple #[.agg #[.int .i64 g.kind, .int .i64 g.page, .int .u64 g.epoch, .slice a n c], .int .i64 g.err]) ∧ w'.ownsRow w.heap.size 5 1 (.slice a n c) g.data.length (g.data.map (Value.int .u8)) ∧ Below w.heap.size w w'
theorem Gives.no {w w' : World} (e : Int) (hb : Below w.heap.size w w') : Gives w (noFr e) (.returned (.tuple #[.agg #[.int .i64 0, .int .i64 0, .int .u64 0, .slice none 0 0], .int .i64 e])) w' :=
  ⟨none, 0, 0, rfl, ⟨rfl, .inl ⟨rfl, rfl⟩⟩, hb⟩

theorem zeroFrameRun (w : World) : (zeroValue 59).run Tryd.prog w = .ok (.agg #[.int .i64 0, .int .i64 0, .int .u64 0, .slice none 0 0]) w := by kernel_rfl

set_option maxHeartbeats 1000000 in
theorem get_len (w : World) (v : Value) (zs : List Int) (q : Int) (h : Sl w v zs) (hl : zs.length ≠ 256) :
    Calls Tryd.prog 77 #[v, .int .i64 q] w (Gives w (getS zs q)) := by
  have es : getS zs q = noFr 1 := by unfold getS; rw [if_pos hl]
  rw [es]
  obtain ⟨ao, cap, rfl⟩ := sl_form' h
  have hne : ((zs.length : Int) != 256) = true := by simp; omega
  have hne2 : ¬ ((zs.length : Int) = 256) := by omega
  clear h es
  go_enter Tryd.func77, Tryd.ntmps77
  go_wp2
  (try simp only [Exit.inBlock, Exit.then])
  refine bodyPost_ret (ret_frame rfl _ _ w.heap.size _ _ _ _ _ rfl rfl (St.new w).2) rfl ?_
  exact Gives.no 1 (St.new w).1

theorem zeroFrame_all : (#[Value.int .i64 0, .int .i64 0, .int .u64 0, .slice none 0 0] : Array Value).all (·.oneCell') = true := by kernel_rfl

/-- the sum is opened, and the frame is not whole -/
theorem open_st (w : World) (v : Value) (zs : List Int) (h : Sl w v zs) (hT : Tab w) (hz : zs.length ≤ 100000) (hw : World) (hs : St w hw) :
    Calls Tryd.prog 84 #[v] hw fun r w' => ∃ a n c, r = .returned (.tuple #[.slice a n c, .bool (sealB zs)]) ∧ Sl w' (.slice a n c) (openB zs) ∧ St w w' := by
  refine (crcOpen_any hw v zs (h.below hs.1) (hT.below hs.1) hz).mono ?_
  rintro r w' ⟨u, rfl, ho, hb⟩
  have hok : ByteOk (openB zs) := by
    unfold openB
    split
    · exact h.bytes.drop 4
    · intro z hz; cases hz
  have hS := sl_of_own_len ho hok
  obtain ⟨a, n, c, rfl⟩ := sl_form hS
  exact ⟨a, n, c, rfl, hS, hs.below hb⟩

set_option maxHeartbeats 1000000 in
theorem get_sum (w : World) (v : Value) (zs : List Int) (q : Int) (h : Sl w v zs) (hT : Tab w) (hl : zs.length = 256) (hs : sealB zs = false) :
    Calls Tryd.prog 77 #[v, .int .i64 q] w (Gives w (getS zs q)) := by
  have es : getS zs q = noFr 40 := by unfold getS; rw [if_neg (by omega), if_pos hs]
  rw [es]
  have HO := hide (open_st w v zs h hT (by omega))
  rw [hs] at HO
  obtain ⟨ao, cap, rfl⟩ := sl_form' h
  have hli : (zs.length : Int) = 256 := by omega
  rw [hl] at HO ⊢
  have HN := hide (St.new w)
  clear h es hT hs
  go_enter Tryd.func77, Tryd.ntmps77
  go_wp2_with (first
    | (go_at_call 84; refine (HO.out _ HN.out).mono ?_; rintro e1 w1 ⟨a1, n1, l1, rfl, S1, st1⟩; obtain ⟨⟨c0, c1, c2, c3⟩, f0, f1, f2, f3⟩ := st1.cells; have HST := hide st1; clear HO HN S1 st1))
  (try simp only [Exit.inBlock, Exit.then])
  refine bodyPost_ret (ret_frame rfl _ _ w.heap.size _ _ _ _ _ rfl rfl (HST.out.store (.int .i64 0) (.int .i64 0) (.int .u64 0) (.slice none 0 0)).1) rfl ?_
  exact Gives.no 40 (HST.out.store _ _ _ _).2.1

end Go.Proofs.YtmeiahmolmneeaaDoor
