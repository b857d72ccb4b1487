/- Contract: package node's halves. -/
import Derived.Test.YthnppkeifhnceaaNGv
import Derived.Test.YthnppkeifhnceaaNSlc
import Derived.Test.YthnppkeifhnceaaNCheck
import Derived.Test.YthnppkeifhnceaaRegionC
import Derived.Test.YthnppkeifhnceaaNMid
import Derived.Test.YthnppkeifhnceaaNOwn
namespace Go.Proofs.Ythnppkeifhnceaa
set_option maxRecDepth 20000
open Go.RowKit Go.Shelf
set_option linter.unusedVariables false
set_option linter.unusedSimpArgs false
set_option maxRecDepth 100000
attribute [local go_sem] Oper.semAt_some

def halfA (n : Nd) (i : Nat) : Nd := if n.lf then ⟨true, n.ps.take i, [], []⟩ else ⟨false, [], n.ks.take i, n.cs.take (i + 1)⟩
def halfB (n : Nd) (i : Nat) : Nd := if n.lf then ⟨true, n.ps.drop i, [], []⟩ else ⟨false, [], n.ks.drop (i + 1), n.cs.drop (i + 1)⟩
def halfK (n : Nd) (i : Nat) : List Int := if n.lf then (n.ps.getD i ([], [])).1 else n.ks.getD i []

theorem results3 {fn : Func} {p u q : Tmp} {ty : TypeId} (h : fn.results = #[.cell p ty, .tmp u, .cell q ty]) (tmps : Array Value) (P : Program) (w : World) :
    (results fn tmps).run P w = ((asAddr (tmps.getD p undef)).run P w).andThen fun a w₁ => ((loadVar ty a).run P w₁).andThen fun v w₂ => ((asAddr (tmps.getD q undef)).run P w₂).andThen fun a' w₃ => ((loadVar ty a').run P w₃).andThen fun v' w₄ => .ok (.tuple #[v, tmps.getD u undef, v']) w₄ := by
  simp only [results, h]
  simp [Sem.run_bind, Result.andThen]
theorem ret_node3 {fn : Func} {p u q : Tmp} (h : fn.results = #[.cell p 26, .tmp u, .cell q 26]) (tmps : Array Value) (w : World) (b d : Nat) (x0 x1 x2 x3 y0 y1 y2 y3 k : Value) (hp : tmps.getD p undef = .pointer (some ⟨b, 0, none⟩)) (hu : tmps.getD u undef = k) (hq : tmps.getD q undef = .pointer (some ⟨d, 0, none⟩)) (hB : Blk w b 26 [x0, x1, x2, x3]) (hD : Blk w d 26 [y0, y1, y2, y3]) :
    (results fn tmps).run Try.prog w = .ok (.tuple #[.agg #[x0, x1, x2, x3], k, .agg #[y0, y1, y2, y3]]) w := by
  rw [results3 h, hp, hu, hq]
  simp only [asAddr, Sem.run_pure, Result.andThen_ok]
  rw [load_node w b x0 x1 x2 x3 hB]
  simp only [Result.andThen_ok]
  rw [load_node w d y0 y1 y2 y3 hD]
  rfl

/-- two results are stored, one behind the other -/
def TwS (F : World → Prop) (b1 b2 : Nat) (V1 V2 : List Value) : Nat → (Nat → Value) → World → Prop := fun i vals W => match i with
  | 0 => F W ∧ Blk W b1 26 zeroC ∧ Blk W b2 26 zeroC
  | 1 => F W ∧ Blk W b1 26 V1 ∧ Blk W b2 26 zeroC
  | _ => F W ∧ Blk W b1 26 V1 ∧ Blk W b2 26 V2
theorem TwS.f {F : World → Prop} {b1 b2 : Nat} {V1 V2 : List Value} {i : Nat} {vals : Nat → Value} {W : World} (h : TwS F b1 b2 V1 V2 i vals W) : F W := by
  match i, h with
  | 0, h => exact h.1
  | 1, h => exact h.1
  | _ + 2, h => exact h.1
/-- a node is boxed -/
def AsS (F : World → Prop) (B : Nat) (V : List Value) (op : Nat) : Nat → (Nat → Value) → World → Prop := fun i vals W => match i with
  | 0 => F W ∧ B ≤ W.heap.size
  | 1 => F W ∧ ∃ g, vals op = .pointer (some ⟨g, 0, none⟩) ∧ B ≤ g ∧ Blk W g 26 zeroC
  | _ => F W ∧ ∃ g, vals op = .pointer (some ⟨g, 0, none⟩) ∧ B ≤ g ∧ Blk W g 26 V
theorem AsS.f {F : World → Prop} {B : Nat} {V : List Value} {op i : Nat} {vals : Nat → Value} {W : World} (h : AsS F B V op i vals W) : F W := by
  match i, h with
  | 0, h => exact h.1
  | 1, h => exact h.1
  | _ + 2, h => exact h.1

/-- what holds in halves throughout -/
structure Hf (w : World) (nd : List Value) (W : World) : Prop where
  below : Below w.heap.size w W
  box : Blk W w.heap.size 26 nd
  size : w.heap.size + 3 ≤ W.heap.size
theorem Hf.only {w : World} {nd : List Value} {W W' : World} {S : Nat → Prop} (h : Hf w nd W) (ho : Only S W W') (hS : ∀ j, S j → w.heap.size < j) : Hf w nd W' :=
  ⟨h.below.trans (ho.below h.below.size (fun j hj hs => by have := hS j hs; omega)), h.box.only ho (fun hs => by have := hS _ hs; omega), Nat.le_trans h.size ho.size⟩

set_option maxHeartbeats 8000000 in
theorem halves_any (w0 w : World) (hb0 : Below w0.heap.size w0 w) (v : Value) (n : Nd) (h : NdV w0 v n) (i : Nat) (h0 : 0 < i) (hl : n.lf = true → i < n.ps.length ∧ n.ps.length ≤ 1000) (hi : n.lf = false → i + 1 < n.ks.length ∧ n.cs.length = n.ks.length + 1 ∧ n.ks.length ≤ 1000) :
    Calls Try.prog 81 #[v, .int .i64 (i : Int)] w fun e w' => ∃ u1 k1 k2 k3 u2, e = .returned (.tuple #[u1, .slice k1 k2 k3, u2]) ∧ NdV w0 u1 (halfA n i) ∧ Sl w0 (.slice k1 k2 k3) (halfK n i) ∧ NdV w0 u2 (halfB n i) ∧ Below w.heap.size w w' := by
  have HHA : Hid (halfA n i = if n.lf then ⟨true, n.ps.take i, [], []⟩ else ⟨false, [], n.ks.take i, n.cs.take (i + 1)⟩) := rfl
  have HHB : Hid (halfB n i = if n.lf then ⟨true, n.ps.drop i, [], []⟩ else ⟨false, [], n.ks.drop (i + 1), n.cs.drop (i + 1)⟩) := rfl
  have HHK : Hid (halfK n i = if n.lf then (n.ps.getD i ([], [])).1 else n.ks.getD i []) := rfl
  obtain ⟨pa, pc, ka, kc, ca, cc, xs, ys, rfl, hp1, hk1, hc1, hp2, hk2, hc2, hP, hK, hC⟩ := h.open
  have hza : ∀ wx : World, (zeroValue 26).run Try.prog wx = .ok (.agg #[.bool false, .slice none 0 0, .slice none 0 0, .slice none 0 0]) wx := fun wx => by kernel_rfl
  unfold ndv
  have hA0 := fun (v0 v1 v2 v3 : Value) => ((Blk.new w 26 [v0, v1, v2, v3]).alloc (.cells #[.bool false, .slice none 0 0, .slice none 0 0, .slice none 0 0] 26)).alloc (.cells #[.bool false, .slice none 0 0, .slice none 0 0, .slice none 0 0] 26)
  cases hlf : n.lf with
  | true =>
    obtain ⟨hin, hpl⟩ := hl hlf
    rw [hlf] at HHA HHB HHK
    simp only [if_true] at HHA HHB HHK
    obtain ⟨b, off, rfl, hrg, hsk, -⟩ := hP.at i hin
    have HPA := hide (hP.take i i (by omega) (Nat.le_refl _) (by unfold maxLen; omega))
    have HPB := hide (hP.drop i (by omega))
    obtain ⟨x1, hx1⟩ : ∃ x, x = (xs.getD i nil2).1 := ⟨_, rfl⟩
    rw [← hx1] at hsk
    obtain ⟨k1, k2, k3, hkf⟩ := sl_form hsk
    rw [hkf] at hsk
    have hcell : w0.cell? ⟨b, off + i * 2, none⟩ = some (.slice k1 k2 k3) := by rw [← hkf, hx1]; exact hrg 0 _ rfl
    obtain ⟨np, hnp⟩ : ∃ m, n.ps.length = m := ⟨_, rfl⟩
    rw [hnp] at hin hp1 hpl HPB ⊢
    generalize n.ks.length = nk at *
    generalize n.cs.length = nc at *
    obtain ⟨IT, hIT⟩ : ∃ x, x = i * 2 := ⟨_, rfl⟩
    obtain ⟨NI, hNI⟩ : ∃ x, x = np - i := ⟨_, rfl⟩
    obtain ⟨CI, hCI⟩ : ∃ x, x = pc - i := ⟨_, rfl⟩
    have hct := fun wx => cut_max (P := Try.prog) 22 36 2 Try.underlying22 sizePairE (some ⟨b, off, none⟩) np pc i i (Nat.le_refl _) (by omega) (by unfold maxLen; omega) wx
    have hcl := fun wx => cut_low (P := Try.prog) 22 36 2 Try.underlying22 sizePairE (some ⟨b, off, none⟩) np pc i (by omega) hp1 (by omega) (by unfold maxLen; omega) wx
    simp only [Option.map_some, Addr.add_mid, ← hIT, ← hNI, ← hCI] at hct hcl
    simp only [Option.map_some, Addr.add_mid, ← hIT, ← hNI, ← hCI] at HPB
    rw [← hIT] at hcell
    have hii : (i : Int) < (np : Int) := by omega
    have HSK := hide hsk
    have HCE := hide hcell
    obtain ⟨W, hW⟩ : ∃ W, W = ((((w.alloc (.cells #[.bool true, .slice (some ⟨b, off, none⟩) np pc, .slice ka nk kc, .slice ca nc cc] 26)).alloc (.cells #[.bool false, .slice none 0 0, .slice none 0 0, .slice none 0 0] 26)).alloc (.cells #[.bool false, .slice none 0 0, .slice none 0 0, .slice none 0 0] 26)).alloc (.cells #[(.bool true), (.slice (some ⟨b, off, none⟩) i i), (.slice none 0 0), (.slice none 0 0)] 26)).alloc (.cells #[(.bool true), (.slice (some ⟨b, off + IT, none⟩) NI CI), (.slice none 0 0), (.slice none 0 0)] 26) := ⟨_, rfl⟩
    have HF0 : Hid (Hf w [.bool true, .slice (some ⟨b, off, none⟩) np pc, .slice ka nk kc, .slice ca nc cc] W) := by
      rw [hW]
      exact ⟨(((((Below.refl _ w).alloc (Nat.le_refl _) _).alloc (by simp) _).alloc (by simp <;> omega) _).alloc (by simp <;> omega) _).alloc (by simp <;> omega) _, ((hA0 _ _ _ _).alloc _).alloc _, by simp <;> omega⟩
    have HA1 : Hid (Blk W (w.heap.size + 1 + 1 + 1) 26 [(.bool true), (.slice (some ⟨b, off, none⟩) i i), (.slice none 0 0), (.slice none 0 0)]) := by
      rw [hW]
      have := (Blk.new (((w.alloc (.cells #[.bool true, .slice (some ⟨b, off, none⟩) np pc, .slice ka nk kc, .slice ca nc cc] 26)).alloc (.cells #[.bool false, .slice none 0 0, .slice none 0 0, .slice none 0 0] 26)).alloc (.cells #[.bool false, .slice none 0 0, .slice none 0 0, .slice none 0 0] 26)) 26 [(.bool true), (.slice (some ⟨b, off, none⟩) i i), (.slice none 0 0), (.slice none 0 0)]).alloc (.cells #[(.bool true), (.slice (some ⟨b, off + IT, none⟩) NI CI), (.slice none 0 0), (.slice none 0 0)] 26)
      rw [World.size_alloc, World.size_alloc, World.size_alloc] at this
      exact this
    have HA2 : Hid (Blk W (w.heap.size + 1 + 1 + 1 + 1) 26 [(.bool true), (.slice (some ⟨b, off + IT, none⟩) NI CI), (.slice none 0 0), (.slice none 0 0)]) := by
      rw [hW]
      have := Blk.new ((((w.alloc (.cells #[.bool true, .slice (some ⟨b, off, none⟩) np pc, .slice ka nk kc, .slice ca nc cc] 26)).alloc (.cells #[.bool false, .slice none 0 0, .slice none 0 0, .slice none 0 0] 26)).alloc (.cells #[.bool false, .slice none 0 0, .slice none 0 0, .slice none 0 0] 26)).alloc (.cells #[(.bool true), (.slice (some ⟨b, off, none⟩) i i), (.slice none 0 0), (.slice none 0 0)] 26)) 26 [(.bool true), (.slice (some ⟨b, off + IT, none⟩) NI CI), (.slice none 0 0), (.slice none 0 0)]
      rw [World.size_alloc, World.size_alloc, World.size_alloc, World.size_alloc] at this
      exact this
    have HZ1 : Hid (Blk W (w.heap.size + 1) 26 zeroC) := by
      rw [hW]
      have := (((Blk.new (w.alloc (.cells #[.bool true, .slice (some ⟨b, off, none⟩) np pc, .slice ka nk kc, .slice ca nc cc] 26)) 26 zeroC).alloc (.cells #[.bool false, .slice none 0 0, .slice none 0 0, .slice none 0 0] 26)).alloc (.cells #[(.bool true), (.slice (some ⟨b, off, none⟩) i i), (.slice none 0 0), (.slice none 0 0)] 26)).alloc (.cells #[(.bool true), (.slice (some ⟨b, off + IT, none⟩) NI CI), (.slice none 0 0), (.slice none 0 0)] 26)
      rw [World.size_alloc] at this
      exact this
    have HZ2 : Hid (Blk W (w.heap.size + 1 + 1) 26 zeroC) := by
      rw [hW]
      have := ((Blk.new ((w.alloc (.cells #[.bool true, .slice (some ⟨b, off, none⟩) np pc, .slice ka nk kc, .slice ca nc cc] 26)).alloc (.cells #[.bool false, .slice none 0 0, .slice none 0 0, .slice none 0 0] 26)) 26 zeroC).alloc (.cells #[(.bool true), (.slice (some ⟨b, off, none⟩) i i), (.slice none 0 0), (.slice none 0 0)] 26)).alloc (.cells #[(.bool true), (.slice (some ⟨b, off + IT, none⟩) NI CI), (.slice none 0 0), (.slice none 0 0)] 26)
      rw [World.size_alloc, World.size_alloc] at this
      exact this
    have HW := hide hW
    have HIT := hide hIT
    clear hP hK hC h hA0 hrg hsk hcell hW hx1 hkf hl hi hIT hNI hCI
    go_enter Try.func81, Try.ntmps81
    go_wp2
    rw [← HW.out]
    have HCX : Hid (∀ wx, Below w.heap.size w wx → wx.cell? ⟨b, off + i * 2, none⟩ = some (.slice k1 k2 k3)) := fun wx hb => by
      have := HCE.out
      rw [HIT.out] at this
      rw [World.cell?_of_block (w := w0) ((hb0.trans (hb.mono hb0.size)).block b (World.block_lt_of_cell? w0 _ this))]
      exact this
    refine wp_region_chain [some (.agg #[(.bool true), (.slice (some ⟨b, off, none⟩) i i), (.slice none 0 0), (.slice none 0 0)]), some (.pointer (some ⟨w.heap.size, 1, none⟩)), some (.slice (some ⟨b, off, none⟩) np pc), some (.int .i64 (i : Int)), some (.pointer (some ⟨b, off + i * 2, none⟩)), some (.pointer (some ⟨b, off + i * 2, none⟩)), some (.slice k1 k2 k3), some (.agg #[(.bool true), (.slice (some ⟨b, off + IT, none⟩) NI CI), (.slice none 0 0), (.slice none 0 0)]), none, some (.slice k1 k2 k3), none] [8, 10] (TwS (fun W => Hf w [.bool true, .slice (some ⟨b, off, none⟩) np pc, .slice ka nk kc, .slice ca nc cc] W ∧ Blk W (w.heap.size + 1 + 1 + 1) 26 [(.bool true), (.slice (some ⟨b, off, none⟩) i i), (.slice none 0 0), (.slice none 0 0)] ∧ Blk W (w.heap.size + 1 + 1 + 1 + 1) 26 [(.bool true), (.slice (some ⟨b, off + IT, none⟩) NI CI), (.slice none 0 0), (.slice none 0 0)]) (w.heap.size + 1) (w.heap.size + 1 + 1) [(.bool true), (.slice (some ⟨b, off, none⟩) i i), (.slice none 0 0), (.slice none 0 0)] [(.bool true), (.slice (some ⟨b, off + IT, none⟩) NI CI), (.slice none 0 0), (.slice none 0 0)]) 63 (by kernel_rfl) (by kernel_rfl) (by kernel_rfl) (by kernel_rfl) rfl ?_ ?_ ?_
    · intro vals0
      have ho := (Only.refl (fun _ => False) W).drew
      exact (⟨⟨HF0.out.only ho (fun _ h => h.elim), HA1.out.only ho (fun h => h), HA2.out.only ho (fun h => h)⟩, HZ1.out.only ho (fun h => h), HZ2.out.only ho (fun h => h)⟩ : (fun W => Hf w [.bool true, .slice (some ⟨b, off, none⟩) np pc, .slice ka nk kc, .slice ca nc cc] W ∧ Blk W (w.heap.size + 1 + 1 + 1) 26 [(.bool true), (.slice (some ⟨b, off, none⟩) i i), (.slice none 0 0), (.slice none 0 0)] ∧ Blk W (w.heap.size + 1 + 1 + 1 + 1) 26 [(.bool true), (.slice (some ⟨b, off + IT, none⟩) NI CI), (.slice none 0 0), (.slice none 0 0)]) W.drew ∧ Blk W.drew (w.heap.size + 1) 26 zeroC ∧ Blk W.drew (w.heap.size + 1 + 1) 26 zeroC)
    · refine ⟨?_, ?_, ?_, ?_, ?_, ?_, ?_, ?_, ?_, ?_, ?_, trivial⟩
      · intro k vals act wx hk h hs
        have e7 : act.eval (.tmp 7) = .pointer (some ⟨w.heap.size + 1 + 1 + 1, 0, none⟩) := h.old 7 (by kernel_rfl)
        clear h
        have hF : (fun W => Hf w [.bool true, .slice (some ⟨b, off, none⟩) np pc, .slice ka nk kc, .slice ca nc cc] W ∧ Blk W (w.heap.size + 1 + 1 + 1) 26 [(.bool true), (.slice (some ⟨b, off, none⟩) i i), (.slice none 0 0), (.slice none 0 0)] ∧ Blk W (w.heap.size + 1 + 1 + 1 + 1) 26 [(.bool true), (.slice (some ⟨b, off + IT, none⟩) NI CI), (.slice none 0 0), (.slice none 0 0)]) wx := TwS.f hs
        obtain ⟨⟨x0, x1', x2, x3⟩, _⟩ := node_cells hF.2.1
        refine gives_by rfl act.eval rfl ?_
        generalize act.eval = ρ at *
        intro hf hc
        go_simp
        exact ⟨rfl, hs⟩
      · intro k vals act wx hk h hs
        have e2 : act.eval (.tmp 2) = .pointer (some ⟨w.heap.size, 0, none⟩) := h.old 2 (by kernel_rfl)
        clear h
        refine gives_by rfl act.eval rfl ?_
        generalize act.eval = ρ at *
        intro hf hc
        go_simp
        exact ⟨rfl, hs⟩
      · intro k vals act wx hk h hs
        have e25 : act.eval (.tmp 25) = .pointer (some ⟨w.heap.size, 1, none⟩) := h.q 1 25 (by kernel_rfl) rfl
        clear h
        have hF : (fun W => Hf w [.bool true, .slice (some ⟨b, off, none⟩) np pc, .slice ka nk kc, .slice ca nc cc] W ∧ Blk W (w.heap.size + 1 + 1 + 1) 26 [(.bool true), (.slice (some ⟨b, off, none⟩) i i), (.slice none 0 0), (.slice none 0 0)] ∧ Blk W (w.heap.size + 1 + 1 + 1 + 1) 26 [(.bool true), (.slice (some ⟨b, off + IT, none⟩) NI CI), (.slice none 0 0), (.slice none 0 0)]) wx := TwS.f hs
        obtain ⟨⟨x0, x1', x2, x3⟩, _⟩ := node_cells hF.1.box
        refine gives_by rfl act.eval rfl ?_
        generalize act.eval = ρ at *
        intro hf hc
        go_simp
        exact ⟨rfl, hs⟩
      · intro k vals act wx hk h hs
        have e1 : act.eval (.tmp 1) = .int .i64 (i : Int) := h.old 1 (by kernel_rfl)
        clear h
        refine gives_by rfl act.eval rfl ?_
        generalize act.eval = ρ at *
        intro hf hc
        go_simp
        exact ⟨rfl, hs⟩
      · intro k vals act wx hk h hs
        have e26 : act.eval (.tmp 26) = .slice (some ⟨b, off, none⟩) np pc := h.q 2 26 (by kernel_rfl) rfl
        have e27 : act.eval (.tmp 27) = .int .i64 (i : Int) := h.q 3 27 (by kernel_rfl) rfl
        clear h
        have hF : (fun W => Hf w [.bool true, .slice (some ⟨b, off, none⟩) np pc, .slice ka nk kc, .slice ca nc cc] W ∧ Blk W (w.heap.size + 1 + 1 + 1) 26 [(.bool true), (.slice (some ⟨b, off, none⟩) i i), (.slice none 0 0), (.slice none 0 0)] ∧ Blk W (w.heap.size + 1 + 1 + 1 + 1) 26 [(.bool true), (.slice (some ⟨b, off + IT, none⟩) NI CI), (.slice none 0 0), (.slice none 0 0)]) wx := TwS.f hs
        refine gives_by rfl act.eval rfl ?_
        generalize act.eval = ρ at *
        intro hf hc
        go_simp
        exact ⟨rfl, hs⟩
      · intro k vals act wx hk h hs
        have e28 : act.eval (.tmp 28) = .pointer (some ⟨b, off + i * 2, none⟩) := h.q 4 28 (by kernel_rfl) rfl
        clear h
        refine gives_by rfl act.eval rfl ?_
        generalize act.eval = ρ at *
        intro hf hc
        go_simp
        exact ⟨rfl, hs⟩
      · intro k vals act wx hk h hs
        have e29 : act.eval (.tmp 29) = .pointer (some ⟨b, off + i * 2, none⟩) := h.q 5 29 (by kernel_rfl) rfl
        clear h
        have hF : (fun W => Hf w [.bool true, .slice (some ⟨b, off, none⟩) np pc, .slice ka nk kc, .slice ca nc cc] W ∧ Blk W (w.heap.size + 1 + 1 + 1) 26 [(.bool true), (.slice (some ⟨b, off, none⟩) i i), (.slice none 0 0), (.slice none 0 0)] ∧ Blk W (w.heap.size + 1 + 1 + 1 + 1) 26 [(.bool true), (.slice (some ⟨b, off + IT, none⟩) NI CI), (.slice none 0 0), (.slice none 0 0)]) wx := TwS.f hs
        have cx : wx.cell? ⟨b, off + i * 2, none⟩ = some (.slice k1 k2 k3) := (HCX.out wx hF.1.below)
        refine gives_by rfl act.eval rfl ?_
        generalize act.eval = ρ at *
        intro hf hc
        go_simp
        exact ⟨rfl, hs⟩
      · intro k vals act wx hk h hs
        have e8 : act.eval (.tmp 8) = .pointer (some ⟨w.heap.size + 1 + 1 + 1 + 1, 0, none⟩) := h.old 8 (by kernel_rfl)
        clear h
        have hF : (fun W => Hf w [.bool true, .slice (some ⟨b, off, none⟩) np pc, .slice ka nk kc, .slice ca nc cc] W ∧ Blk W (w.heap.size + 1 + 1 + 1) 26 [(.bool true), (.slice (some ⟨b, off, none⟩) i i), (.slice none 0 0), (.slice none 0 0)] ∧ Blk W (w.heap.size + 1 + 1 + 1 + 1) 26 [(.bool true), (.slice (some ⟨b, off + IT, none⟩) NI CI), (.slice none 0 0), (.slice none 0 0)]) wx := TwS.f hs
        obtain ⟨⟨x0, x1', x2, x3⟩, _⟩ := node_cells hF.2.2
        refine gives_by rfl act.eval rfl ?_
        generalize act.eval = ρ at *
        intro hf hc
        go_simp
        exact ⟨rfl, hs⟩
      · intro vals act wx h hs
        have e4 : act.eval (.tmp 4) = .pointer (some ⟨w.heap.size + 1, 0, none⟩) := h.old 4 (by kernel_rfl)
        have e24 : act.eval (.tmp 24) = .agg #[(.bool true), (.slice (some ⟨b, off, none⟩) i i), (.slice none 0 0), (.slice none 0 0)] := h.q 0 24 (by kernel_rfl) rfl
        clear h
        obtain ⟨hF, hb1, hb2⟩ : (fun W => Hf w [.bool true, .slice (some ⟨b, off, none⟩) np pc, .slice ka nk kc, .slice ca nc cc] W ∧ Blk W (w.heap.size + 1 + 1 + 1) 26 [(.bool true), (.slice (some ⟨b, off, none⟩) i i), (.slice none 0 0), (.slice none 0 0)] ∧ Blk W (w.heap.size + 1 + 1 + 1 + 1) 26 [(.bool true), (.slice (some ⟨b, off + IT, none⟩) NI CI), (.slice none 0 0), (.slice none 0 0)]) wx ∧ Blk wx (w.heap.size + 1) 26 zeroC ∧ Blk wx (w.heap.size + 1 + 1) 26 zeroC := hs
        obtain ⟨⟨d0, d1, d2, d3⟩, k0, k1, k2', k3'⟩ := node_cells hb1
        have ho := laidN_only wx (w.heap.size + 1) (.bool true) (.slice (some ⟨b, off, none⟩) i i) (.slice none 0 0) (.slice none 0 0)
        have hfin : (fun W => Hf w [.bool true, .slice (some ⟨b, off, none⟩) np pc, .slice ka nk kc, .slice ca nc cc] W ∧ Blk W (w.heap.size + 1 + 1 + 1) 26 [(.bool true), (.slice (some ⟨b, off, none⟩) i i), (.slice none 0 0), (.slice none 0 0)] ∧ Blk W (w.heap.size + 1 + 1 + 1 + 1) 26 [(.bool true), (.slice (some ⟨b, off + IT, none⟩) NI CI), (.slice none 0 0), (.slice none 0 0)]) (laidN wx (w.heap.size + 1) (.bool true) (.slice (some ⟨b, off, none⟩) i i) (.slice none 0 0) (.slice none 0 0)) ∧ Blk (laidN wx (w.heap.size + 1) (.bool true) (.slice (some ⟨b, off, none⟩) i i) (.slice none 0 0) (.slice none 0 0)) (w.heap.size + 1) 26 [(.bool true), (.slice (some ⟨b, off, none⟩) i i), (.slice none 0 0), (.slice none 0 0)] ∧ Blk (laidN wx (w.heap.size + 1) (.bool true) (.slice (some ⟨b, off, none⟩) i i) (.slice none 0 0) (.slice none 0 0)) (w.heap.size + 1 + 1) 26 zeroC := ⟨⟨hF.1.only ho (fun j hj => by omega), hF.2.1.only ho (by omega), hF.2.2.only ho (by omega)⟩, laidN_blk hb1 _ _ _ _, hb2.only ho (by omega)⟩
        clear hF hb1 hb2
        refine gives_by rfl act.eval rfl ?_
        generalize act.eval = ρ at *
        intro hf hc
        go_simp
        exact hfin
      · intro k vals act wx hk h hs
        have e30 : act.eval (.tmp 30) = .slice k1 k2 k3 := h.q 6 30 (by kernel_rfl) rfl
        clear h
        refine gives_by rfl act.eval rfl ?_
        generalize act.eval = ρ at *
        intro hf hc
        go_simp
        exact ⟨rfl, hs⟩
      · intro vals act wx h hs
        have e6 : act.eval (.tmp 6) = .pointer (some ⟨w.heap.size + 1 + 1, 0, none⟩) := h.old 6 (by kernel_rfl)
        have e31 : act.eval (.tmp 31) = .agg #[(.bool true), (.slice (some ⟨b, off + IT, none⟩) NI CI), (.slice none 0 0), (.slice none 0 0)] := h.q 7 31 (by kernel_rfl) rfl
        clear h
        obtain ⟨hF, hb1, hb2⟩ : (fun W => Hf w [.bool true, .slice (some ⟨b, off, none⟩) np pc, .slice ka nk kc, .slice ca nc cc] W ∧ Blk W (w.heap.size + 1 + 1 + 1) 26 [(.bool true), (.slice (some ⟨b, off, none⟩) i i), (.slice none 0 0), (.slice none 0 0)] ∧ Blk W (w.heap.size + 1 + 1 + 1 + 1) 26 [(.bool true), (.slice (some ⟨b, off + IT, none⟩) NI CI), (.slice none 0 0), (.slice none 0 0)]) wx ∧ Blk wx (w.heap.size + 1) 26 [(.bool true), (.slice (some ⟨b, off, none⟩) i i), (.slice none 0 0), (.slice none 0 0)] ∧ Blk wx (w.heap.size + 1 + 1) 26 zeroC := hs
        obtain ⟨⟨d0, d1, d2, d3⟩, k0, k1, k2', k3'⟩ := node_cells hb2
        have ho := laidN_only wx (w.heap.size + 1 + 1) (.bool true) (.slice (some ⟨b, off + IT, none⟩) NI CI) (.slice none 0 0) (.slice none 0 0)
        have hfin : (fun W => Hf w [.bool true, .slice (some ⟨b, off, none⟩) np pc, .slice ka nk kc, .slice ca nc cc] W ∧ Blk W (w.heap.size + 1 + 1 + 1) 26 [(.bool true), (.slice (some ⟨b, off, none⟩) i i), (.slice none 0 0), (.slice none 0 0)] ∧ Blk W (w.heap.size + 1 + 1 + 1 + 1) 26 [(.bool true), (.slice (some ⟨b, off + IT, none⟩) NI CI), (.slice none 0 0), (.slice none 0 0)]) (laidN wx (w.heap.size + 1 + 1) (.bool true) (.slice (some ⟨b, off + IT, none⟩) NI CI) (.slice none 0 0) (.slice none 0 0)) ∧ Blk (laidN wx (w.heap.size + 1 + 1) (.bool true) (.slice (some ⟨b, off + IT, none⟩) NI CI) (.slice none 0 0) (.slice none 0 0)) (w.heap.size + 1) 26 [(.bool true), (.slice (some ⟨b, off, none⟩) i i), (.slice none 0 0), (.slice none 0 0)] ∧ Blk (laidN wx (w.heap.size + 1 + 1) (.bool true) (.slice (some ⟨b, off + IT, none⟩) NI CI) (.slice none 0 0) (.slice none 0 0)) (w.heap.size + 1 + 1) 26 [(.bool true), (.slice (some ⟨b, off + IT, none⟩) NI CI), (.slice none 0 0), (.slice none 0 0)] := ⟨⟨hF.1.only ho (fun j hj => by omega), hF.2.1.only ho (by omega), hF.2.2.only ho (by omega)⟩, hb1.only ho (by omega), laidN_blk hb2 _ _ _ _⟩
        clear hF hb1 hb2
        refine gives_by rfl act.eval rfl ?_
        generalize act.eval = ρ at *
        intro hf hc
        go_simp
        exact hfin
    · intro vals w' hq hs
      have h5 : vals 9 = .slice k1 k2 k3 := hq 9 _ rfl
      obtain ⟨hF, hb1, hb2⟩ : (fun W => Hf w [.bool true, .slice (some ⟨b, off, none⟩) np pc, .slice ka nk kc, .slice ca nc cc] W ∧ Blk W (w.heap.size + 1 + 1 + 1) 26 [(.bool true), (.slice (some ⟨b, off, none⟩) i i), (.slice none 0 0), (.slice none 0 0)] ∧ Blk W (w.heap.size + 1 + 1 + 1 + 1) 26 [(.bool true), (.slice (some ⟨b, off + IT, none⟩) NI CI), (.slice none 0 0), (.slice none 0 0)]) w' ∧ Blk w' (w.heap.size + 1) 26 [(.bool true), (.slice (some ⟨b, off, none⟩) i i), (.slice none 0 0), (.slice none 0 0)] ∧ Blk w' (w.heap.size + 1 + 1) 26 [(.bool true), (.slice (some ⟨b, off + IT, none⟩) NI CI), (.slice none 0 0), (.slice none 0 0)] := hs
      have HF := hide hF
      have HR1 := hide hb1
      have HR2 := hide hb2
      clear hq hF hb1 hb2
      simp only [putAll, Act.put, List.setIfInBounds_toArray, List.set_cons_zero, List.set_cons_succ, Nat.zero_add, Nat.reduceAdd, h5]
      (try go_wp2)
      (try simp only [Exit.inBlock, Exit.then])
      refine bodyPost_ret (ret_node3 rfl _ _ (w.heap.size + 1) (w.heap.size + 1 + 1) _ _ _ _ _ _ _ _ _ rfl rfl rfl HR1.out HR2.out) rfl ?_
      have hb := HF.out.1.below
      rw [HHA.out, HHB.out, HHK.out]
      exact ⟨_, k1, k2, k3, _, rfl, ⟨_, _, _, _, [], rfl, HPA.out, Bss.nil _, Is.nil' _⟩, HSK.out, ⟨_, _, _, _, [], rfl, HPB.out, Bss.nil _, Is.nil' _⟩, hb⟩
  | false =>
    obtain ⟨hin, hcn, hkl⟩ := hi hlf
    rw [hlf] at HHA HHB HHK
    simp only [Bool.false_eq_true, if_false] at HHA HHB HHK
    obtain ⟨b, off, rfl, hrg, hsk⟩ := hK.at i (by omega)
    obtain ⟨b', off', rfl, -⟩ := hC.at 0 (by omega)
    have HKA := hide (hK.take i i (by omega) (Nat.le_refl _) (by unfold maxLen; omega))
    have HKB := hide (hK.drop (i + 1) (by omega))
    have HCA := hide (hC.take (n := i + 1) (by omega) (i + 1) (Nat.le_refl _) (by unfold maxLen; omega))
    have HCB := hide (hC.drop (i + 1) (by omega))
    obtain ⟨x1, hx1⟩ : ∃ x, x = ys.getD i nilS := ⟨_, rfl⟩
    rw [← hx1] at hsk hrg
    obtain ⟨k1, k2, k3, hkf⟩ := sl_form hsk
    rw [hkf] at hsk hrg
    obtain ⟨nk, hnk⟩ : ∃ m, n.ks.length = m := ⟨_, rfl⟩
    obtain ⟨nc, hnc⟩ : ∃ m, n.cs.length = m := ⟨_, rfl⟩
    rw [hnk] at hin hk1 hkl hcn HKB ⊢
    rw [hnc] at hcn hc1 HCB ⊢
    generalize n.ps.length = np at *
    obtain ⟨I1, hI1⟩ : ∃ x, x = i + 1 := ⟨_, rfl⟩
    obtain ⟨NK, hNK⟩ : ∃ x, x = nk - I1 := ⟨_, rfl⟩
    obtain ⟨CK, hCK⟩ : ∃ x, x = kc - I1 := ⟨_, rfl⟩
    obtain ⟨NC, hNC⟩ : ∃ x, x = nc - I1 := ⟨_, rfl⟩
    obtain ⟨CC, hCC⟩ : ∃ x, x = cc - I1 := ⟨_, rfl⟩
    have ct1 := fun wx => cut_max (P := Try.prog) 23 34 1 Try.underlying23 sizeRowE (some ⟨b, off, none⟩) nk kc i i (Nat.le_refl _) (by omega) (by unfold maxLen; omega) wx
    have ct2 := fun wx => cut_max (P := Try.prog) 24 3 1 Try.underlying24 sizeIntE (some ⟨b', off', none⟩) nc cc I1 I1 (Nat.le_refl _) (by omega) (by unfold maxLen; omega) wx
    have ct3 := fun wx => cut_low (P := Try.prog) 23 34 1 Try.underlying23 sizeRowE (some ⟨b, off, none⟩) nk kc I1 (by omega) hk1 (by omega) (by unfold maxLen; omega) wx
    have ct4 := fun wx => cut_low (P := Try.prog) 24 3 1 Try.underlying24 sizeIntE (some ⟨b', off', none⟩) nc cc I1 (by omega) hc1 (by omega) (by unfold maxLen; omega) wx
    simp only [← hI1] at HKB HCA HCB HHA HHB
    simp only [Option.map_some, Addr.add_mid, Nat.mul_one, ← hNK, ← hCK, ← hNC, ← hCC] at ct3 ct4 HKB HCB
    have hii : (i : Int) < (nk : Int) := by omega
    have hI1i : (i : Int) + 1 = (I1 : Int) := by omega
    have hwI : IntKind.i64.wrap (I1 : Int) = (I1 : Int) := IntWalk.i64_in _ (by omega)
    have HSK := hide hsk
    have HCE := hide hrg
    obtain ⟨W, hW⟩ : ∃ W, W = (((w.alloc (.cells #[.bool false, .slice pa np pc, .slice (some ⟨b, off, none⟩) nk kc, .slice (some ⟨b', off', none⟩) nc cc] 26)).alloc (.cells #[.bool false, .slice none 0 0, .slice none 0 0, .slice none 0 0] 26)).alloc (.cells #[.bool false, .slice none 0 0, .slice none 0 0, .slice none 0 0] 26)) := ⟨_, rfl⟩
    have HF0 : Hid (Hf w [.bool false, .slice pa np pc, .slice (some ⟨b, off, none⟩) nk kc, .slice (some ⟨b', off', none⟩) nc cc] W) := by
      rw [hW]
      exact ⟨(((Below.refl _ w).alloc (Nat.le_refl _) _).alloc (by simp) _).alloc (by simp <;> omega) _, hA0 _ _ _ _, by simp <;> omega⟩
    have HZ1 : Hid (Blk W (w.heap.size + 1) 26 zeroC) := by
      rw [hW]
      have := (Blk.new (w.alloc (.cells #[.bool false, .slice pa np pc, .slice (some ⟨b, off, none⟩) nk kc, .slice (some ⟨b', off', none⟩) nc cc] 26)) 26 zeroC).alloc (.cells #[.bool false, .slice none 0 0, .slice none 0 0, .slice none 0 0] 26)
      rw [World.size_alloc] at this
      exact this
    have HZ2 : Hid (Blk W (w.heap.size + 1 + 1) 26 zeroC) := by
      rw [hW]
      have := Blk.new ((w.alloc (.cells #[.bool false, .slice pa np pc, .slice (some ⟨b, off, none⟩) nk kc, .slice (some ⟨b', off', none⟩) nc cc] 26)).alloc (.cells #[.bool false, .slice none 0 0, .slice none 0 0, .slice none 0 0] 26)) 26 zeroC
      rw [World.size_alloc, World.size_alloc] at this
      exact this
    have HCX : Hid (∀ wx, Below w.heap.size w wx → wx.cell? ⟨b, off + i, none⟩ = some (.slice k1 k2 k3)) := fun wx hb => by
      rw [World.cell?_of_block (w := w0) ((hb0.trans (hb.mono hb0.size)).block b (World.block_lt_of_cell? w0 _ HCE.out))]
      exact HCE.out
    have HW := hide hW
    have hIb : I1 ≤ 1001 := by omega
    clear hP hK hC h hA0 hrg hsk hW hx1 hkf hl hi hNK hCK hNC hCC hI1 hcn
    go_enter Try.func81, Try.ntmps81
    go_wp2
    rw [← HW.out]
    refine wp_region_chain [some (.pointer (some ⟨w.heap.size, 2, none⟩)), some (.slice (some ⟨b, off, none⟩) nk kc), some (.int .i64 (i : Int)), some (.int .i64 (i : Int)), some (.slice (some ⟨b, off, none⟩) i i), some (.pointer (some ⟨w.heap.size, 3, none⟩)), some (.slice (some ⟨b', off', none⟩) nc cc), some (.int .i64 (i : Int)), some (.int .i64 (I1 : Int)), some (.int .i64 (i : Int)), some (.int .i64 (I1 : Int)), some (.slice (some ⟨b', off', none⟩) I1 I1), some (.agg #[(.bool false), (.slice none 0 0), (.slice (some ⟨b, off, none⟩) i i), (.slice (some ⟨b', off', none⟩) I1 I1)]), none, none] [13, 14] (AsS (fun W => Hf w [.bool false, .slice pa np pc, .slice (some ⟨b, off, none⟩) nk kc, .slice (some ⟨b', off', none⟩) nc cc] W ∧ Blk W (w.heap.size + 1) 26 zeroC ∧ Blk W (w.heap.size + 1 + 1) 26 zeroC) (w.heap.size + 3) [(.bool false), (.slice none 0 0), (.slice (some ⟨b, off, none⟩) i i), (.slice (some ⟨b', off', none⟩) I1 I1)] 13) 63 (by kernel_rfl) (by kernel_rfl) (by kernel_rfl) (by kernel_rfl) rfl ?_ ?_ ?_
    · intro vals0
      have ho := (Only.refl (fun _ => False) W).drew
      exact (⟨⟨HF0.out.only ho (fun _ h => h.elim), HZ1.out.only ho (fun h => h), HZ2.out.only ho (fun h => h)⟩, HF0.out.size⟩ : (fun W => Hf w [.bool false, .slice pa np pc, .slice (some ⟨b, off, none⟩) nk kc, .slice (some ⟨b', off', none⟩) nc cc] W ∧ Blk W (w.heap.size + 1) 26 zeroC ∧ Blk W (w.heap.size + 1 + 1) 26 zeroC) W.drew ∧ w.heap.size + 3 ≤ W.drew.heap.size)
    · refine ⟨?_, ?_, ?_, ?_, ?_, ?_, ?_, ?_, ?_, ?_, ?_, ?_, ?_, ?_, ?_, trivial⟩
      · intro k vals act wx hk h hs
        have e2 : act.eval (.tmp 2) = .pointer (some ⟨w.heap.size, 0, none⟩) := h.old 2 (by kernel_rfl)
        clear h
        refine gives_by rfl act.eval rfl ?_
        generalize act.eval = ρ at *
        intro hf hc
        go_simp
        exact ⟨rfl, hs⟩
      · intro k vals act wx hk h hs
        have e32 : act.eval (.tmp 32) = .pointer (some ⟨w.heap.size, 2, none⟩) := h.q 0 32 (by kernel_rfl) rfl
        clear h
        have hF : (fun W => Hf w [.bool false, .slice pa np pc, .slice (some ⟨b, off, none⟩) nk kc, .slice (some ⟨b', off', none⟩) nc cc] W ∧ Blk W (w.heap.size + 1) 26 zeroC ∧ Blk W (w.heap.size + 1 + 1) 26 zeroC) wx := AsS.f hs
        obtain ⟨⟨x0, x1', x2, x3⟩, _⟩ := node_cells hF.1.box
        refine gives_by rfl act.eval rfl ?_
        generalize act.eval = ρ at *
        intro hf hc
        go_simp
        exact ⟨rfl, hs⟩
      · intro k vals act wx hk h hs
        have e1 : act.eval (.tmp 1) = .int .i64 (i : Int) := h.old 1 (by kernel_rfl)
        clear h
        refine gives_by rfl act.eval rfl ?_
        generalize act.eval = ρ at *
        intro hf hc
        go_simp
        exact ⟨rfl, hs⟩
      · intro k vals act wx hk h hs
        have e1 : act.eval (.tmp 1) = .int .i64 (i : Int) := h.old 1 (by kernel_rfl)
        clear h
        refine gives_by rfl act.eval rfl ?_
        generalize act.eval = ρ at *
        intro hf hc
        go_simp
        exact ⟨rfl, hs⟩
      · intro k vals act wx hk h hs
        have e33 : act.eval (.tmp 33) = .slice (some ⟨b, off, none⟩) nk kc := h.q 1 33 (by kernel_rfl) rfl
        have e34 : act.eval (.tmp 34) = .int .i64 (i : Int) := h.q 2 34 (by kernel_rfl) rfl
        have e35 : act.eval (.tmp 35) = .int .i64 (i : Int) := h.q 3 35 (by kernel_rfl) rfl
        clear h
        refine gives_by rfl act.eval rfl ?_
        generalize act.eval = ρ at *
        intro hf hc
        go_simp
        exact ⟨rfl, hs⟩
      · intro k vals act wx hk h hs
        have e2 : act.eval (.tmp 2) = .pointer (some ⟨w.heap.size, 0, none⟩) := h.old 2 (by kernel_rfl)
        clear h
        refine gives_by rfl act.eval rfl ?_
        generalize act.eval = ρ at *
        intro hf hc
        go_simp
        exact ⟨rfl, hs⟩
      · intro k vals act wx hk h hs
        have e37 : act.eval (.tmp 37) = .pointer (some ⟨w.heap.size, 3, none⟩) := h.q 5 37 (by kernel_rfl) rfl
        clear h
        have hF : (fun W => Hf w [.bool false, .slice pa np pc, .slice (some ⟨b, off, none⟩) nk kc, .slice (some ⟨b', off', none⟩) nc cc] W ∧ Blk W (w.heap.size + 1) 26 zeroC ∧ Blk W (w.heap.size + 1 + 1) 26 zeroC) wx := AsS.f hs
        obtain ⟨⟨x0, x1', x2, x3⟩, _⟩ := node_cells hF.1.box
        refine gives_by rfl act.eval rfl ?_
        generalize act.eval = ρ at *
        intro hf hc
        go_simp
        exact ⟨rfl, hs⟩
      · intro k vals act wx hk h hs
        have e1 : act.eval (.tmp 1) = .int .i64 (i : Int) := h.old 1 (by kernel_rfl)
        clear h
        refine gives_by rfl act.eval rfl ?_
        generalize act.eval = ρ at *
        intro hf hc
        go_simp
        exact ⟨rfl, hs⟩
      · intro k vals act wx hk h hs
        have e39 : act.eval (.tmp 39) = .int .i64 (i : Int) := h.q 7 39 (by kernel_rfl) rfl
        clear h
        refine gives_by rfl act.eval rfl ?_
        generalize act.eval = ρ at *
        intro hf hc
        go_simp
        exact ⟨rfl, hs⟩
      · intro k vals act wx hk h hs
        have e1 : act.eval (.tmp 1) = .int .i64 (i : Int) := h.old 1 (by kernel_rfl)
        clear h
        refine gives_by rfl act.eval rfl ?_
        generalize act.eval = ρ at *
        intro hf hc
        go_simp
        exact ⟨rfl, hs⟩
      · intro k vals act wx hk h hs
        have e41 : act.eval (.tmp 41) = .int .i64 (i : Int) := h.q 9 41 (by kernel_rfl) rfl
        clear h
        refine gives_by rfl act.eval rfl ?_
        generalize act.eval = ρ at *
        intro hf hc
        go_simp
        exact ⟨rfl, hs⟩
      · intro k vals act wx hk h hs
        have e38 : act.eval (.tmp 38) = .slice (some ⟨b', off', none⟩) nc cc := h.q 6 38 (by kernel_rfl) rfl
        have e40 : act.eval (.tmp 40) = .int .i64 (I1 : Int) := h.q 8 40 (by kernel_rfl) rfl
        have e42 : act.eval (.tmp 42) = .int .i64 (I1 : Int) := h.q 10 42 (by kernel_rfl) rfl
        clear h
        refine gives_by rfl act.eval rfl ?_
        generalize act.eval = ρ at *
        intro hf hc
        go_simp
        exact ⟨rfl, hs⟩
      · intro k vals act wx hk h hs
        have e36 : act.eval (.tmp 36) = .slice (some ⟨b, off, none⟩) i i := h.q 4 36 (by kernel_rfl) rfl
        have e43 : act.eval (.tmp 43) = .slice (some ⟨b', off', none⟩) I1 I1 := h.q 11 43 (by kernel_rfl) rfl
        clear h
        refine gives_by rfl act.eval rfl ?_
        generalize act.eval = ρ at *
        intro hf hc
        go_simp
        exact ⟨rfl, hs⟩
      · intro vals act wx h hs
        clear h
        obtain ⟨hF, hsz⟩ : (fun W => Hf w [.bool false, .slice pa np pc, .slice (some ⟨b, off, none⟩) nk kc, .slice (some ⟨b', off', none⟩) nc cc] W ∧ Blk W (w.heap.size + 1) 26 zeroC ∧ Blk W (w.heap.size + 1 + 1) 26 zeroC) wx ∧ w.heap.size + 3 ≤ wx.heap.size := hs
        have ho : Only (fun _ => False) wx (wx.alloc (.cells #[.bool false, .slice none 0 0, .slice none 0 0, .slice none 0 0] 26)) := (Only.refl _ wx).alloc _
        have hfin : (fun W => Hf w [.bool false, .slice pa np pc, .slice (some ⟨b, off, none⟩) nk kc, .slice (some ⟨b', off', none⟩) nc cc] W ∧ Blk W (w.heap.size + 1) 26 zeroC ∧ Blk W (w.heap.size + 1 + 1) 26 zeroC) (wx.alloc (.cells #[.bool false, .slice none 0 0, .slice none 0 0, .slice none 0 0] 26)) ∧ ∃ gg, (.pointer (some ⟨wx.heap.size, 0, none⟩) : Value) = .pointer (some ⟨gg, 0, none⟩) ∧ w.heap.size + 3 ≤ gg ∧ Blk (wx.alloc (.cells #[.bool false, .slice none 0 0, .slice none 0 0, .slice none 0 0] 26)) gg 26 zeroC := ⟨⟨hF.1.only ho (fun _ h => h.elim), hF.2.1.only ho (fun h => h.elim), hF.2.2.only ho (fun h => h.elim)⟩, wx.heap.size, rfl, hsz, Blk.new wx _ zeroC⟩
        clear hF
        refine gives_by rfl act.eval rfl ?_
        generalize act.eval = ρ at *
        intro hf hc
        go_simp
        exact hfin
      · intro vals act wx h hs
        have e9 : act.eval (.tmp 9) = vals 13 := h.val 13 9 (by kernel_rfl)
        have e44 : act.eval (.tmp 44) = .agg #[(.bool false), (.slice none 0 0), (.slice (some ⟨b, off, none⟩) i i), (.slice (some ⟨b', off', none⟩) I1 I1)] := h.q 12 44 (by kernel_rfl) rfl
        clear h
        obtain ⟨hF, g, hg, hgl, hB⟩ : (fun W => Hf w [.bool false, .slice pa np pc, .slice (some ⟨b, off, none⟩) nk kc, .slice (some ⟨b', off', none⟩) nc cc] W ∧ Blk W (w.heap.size + 1) 26 zeroC ∧ Blk W (w.heap.size + 1 + 1) 26 zeroC) wx ∧ ∃ gg, vals 13 = .pointer (some ⟨gg, 0, none⟩) ∧ w.heap.size + 3 ≤ gg ∧ Blk wx gg 26 zeroC := hs
        rw [hg] at e9
        obtain ⟨⟨d0, d1, d2, d3⟩, f0, f1, f2, f3⟩ := node_cells hB
        have ho := laidN_only wx g (.bool false) (.slice none 0 0) (.slice (some ⟨b, off, none⟩) i i) (.slice (some ⟨b', off', none⟩) I1 I1)
        have hfin : (fun W => Hf w [.bool false, .slice pa np pc, .slice (some ⟨b, off, none⟩) nk kc, .slice (some ⟨b', off', none⟩) nc cc] W ∧ Blk W (w.heap.size + 1) 26 zeroC ∧ Blk W (w.heap.size + 1 + 1) 26 zeroC) (laidN wx g (.bool false) (.slice none 0 0) (.slice (some ⟨b, off, none⟩) i i) (.slice (some ⟨b', off', none⟩) I1 I1)) ∧ ∃ gg, vals 13 = .pointer (some ⟨gg, 0, none⟩) ∧ w.heap.size + 3 ≤ gg ∧ Blk (laidN wx g (.bool false) (.slice none 0 0) (.slice (some ⟨b, off, none⟩) i i) (.slice (some ⟨b', off', none⟩) I1 I1)) gg 26 [(.bool false), (.slice none 0 0), (.slice (some ⟨b, off, none⟩) i i), (.slice (some ⟨b', off', none⟩) I1 I1)] := ⟨⟨hF.1.only ho (fun j hj => by omega), hF.2.1.only ho (by omega), hF.2.2.only ho (by omega)⟩, g, hg, hgl, laidN_blk hB _ _ _ _⟩
        clear hF hB hg
        refine gives_by rfl act.eval rfl ?_
        generalize act.eval = ρ at *
        intro hf hc
        go_simp
        exact hfin
    · intro vals w5 hq hs
      obtain ⟨hF, ga, hga, hgal, hBa⟩ : (fun W => Hf w [.bool false, .slice pa np pc, .slice (some ⟨b, off, none⟩) nk kc, .slice (some ⟨b', off', none⟩) nc cc] W ∧ Blk W (w.heap.size + 1) 26 zeroC ∧ Blk W (w.heap.size + 1 + 1) 26 zeroC) w5 ∧ ∃ gg, vals 13 = .pointer (some ⟨gg, 0, none⟩) ∧ w.heap.size + 3 ≤ gg ∧ Blk w5 gg 26 [(.bool false), (.slice none 0 0), (.slice (some ⟨b, off, none⟩) i i), (.slice (some ⟨b', off', none⟩) I1 I1)] := hs
      have HFA := hide hF
      have HBA := hide hBa
      have hs5 : w.heap.size + 3 ≤ w5.heap.size := hF.1.size
      have hga5 : ga < w5.heap.size := hBa.lt
      clear hq hF hBa
      simp only [putAll, Act.put, List.setIfInBounds_toArray, List.set_cons_zero, List.set_cons_succ, Nat.zero_add, Nat.reduceAdd, hga]
      clear hga
      go_wp2
      refine wp_region_chain [some (.pointer (some ⟨w.heap.size, 2, none⟩)), some (.slice (some ⟨b, off, none⟩) nk kc), some (.int .i64 (i : Int)), some (.int .i64 (I1 : Int)), some (.slice (some ⟨b, off + I1, none⟩) NK CK), some (.pointer (some ⟨w.heap.size, 3, none⟩)), some (.slice (some ⟨b', off', none⟩) nc cc), some (.int .i64 (i : Int)), some (.int .i64 (I1 : Int)), some (.slice (some ⟨b', off' + I1, none⟩) NC CC), some (.agg #[(.bool false), (.slice none 0 0), (.slice (some ⟨b, off + I1, none⟩) NK CK), (.slice (some ⟨b', off' + I1, none⟩) NC CC)]), none, none] [11, 12] (AsS (fun W => Hf w [.bool false, .slice pa np pc, .slice (some ⟨b, off, none⟩) nk kc, .slice (some ⟨b', off', none⟩) nc cc] W ∧ Blk W (w.heap.size + 1) 26 zeroC ∧ Blk W (w.heap.size + 1 + 1) 26 zeroC ∧ Blk W ga 26 [(.bool false), (.slice none 0 0), (.slice (some ⟨b, off, none⟩) i i), (.slice (some ⟨b', off', none⟩) I1 I1)]) w5.heap.size [(.bool false), (.slice none 0 0), (.slice (some ⟨b, off + I1, none⟩) NK CK), (.slice (some ⟨b', off' + I1, none⟩) NC CC)] 11) 63 (by kernel_rfl) (by kernel_rfl) (by kernel_rfl) (by kernel_rfl) rfl ?_ ?_ ?_
      · intro vals0
        have ho := (Only.refl (fun _ => False) w5).drew
        have hF := HFA.out
        exact (⟨⟨hF.1.only ho (fun _ h => h.elim), hF.2.1.only ho (fun h => h), hF.2.2.only ho (fun h => h), HBA.out.only ho (fun h => h)⟩, Nat.le_refl _⟩ : (fun W => Hf w [.bool false, .slice pa np pc, .slice (some ⟨b, off, none⟩) nk kc, .slice (some ⟨b', off', none⟩) nc cc] W ∧ Blk W (w.heap.size + 1) 26 zeroC ∧ Blk W (w.heap.size + 1 + 1) 26 zeroC ∧ Blk W ga 26 [(.bool false), (.slice none 0 0), (.slice (some ⟨b, off, none⟩) i i), (.slice (some ⟨b', off', none⟩) I1 I1)]) w5.drew ∧ w5.heap.size ≤ w5.drew.heap.size)
      · refine ⟨?_, ?_, ?_, ?_, ?_, ?_, ?_, ?_, ?_, ?_, ?_, ?_, ?_, trivial⟩
        · intro k vals act wx hk h hs
          have e2 : act.eval (.tmp 2) = .pointer (some ⟨w.heap.size, 0, none⟩) := h.old 2 (by kernel_rfl)
          clear h
          refine gives_by rfl act.eval rfl ?_
          generalize act.eval = ρ at *
          intro hf hc
          go_simp
          exact ⟨rfl, hs⟩
        · intro k vals act wx hk h hs
          have e45 : act.eval (.tmp 45) = .pointer (some ⟨w.heap.size, 2, none⟩) := h.q 0 45 (by kernel_rfl) rfl
          clear h
          have hF : (fun W => Hf w [.bool false, .slice pa np pc, .slice (some ⟨b, off, none⟩) nk kc, .slice (some ⟨b', off', none⟩) nc cc] W ∧ Blk W (w.heap.size + 1) 26 zeroC ∧ Blk W (w.heap.size + 1 + 1) 26 zeroC ∧ Blk W ga 26 [(.bool false), (.slice none 0 0), (.slice (some ⟨b, off, none⟩) i i), (.slice (some ⟨b', off', none⟩) I1 I1)]) wx := AsS.f hs
          obtain ⟨⟨x0, x1', x2, x3⟩, _⟩ := node_cells hF.1.box
          refine gives_by rfl act.eval rfl ?_
          generalize act.eval = ρ at *
          intro hf hc
          go_simp
          exact ⟨rfl, hs⟩
        · intro k vals act wx hk h hs
          have e1 : act.eval (.tmp 1) = .int .i64 (i : Int) := h.old 1 (by kernel_rfl)
          clear h
          refine gives_by rfl act.eval rfl ?_
          generalize act.eval = ρ at *
          intro hf hc
          go_simp
          exact ⟨rfl, hs⟩
        · intro k vals act wx hk h hs
          have e47 : act.eval (.tmp 47) = .int .i64 (i : Int) := h.q 2 47 (by kernel_rfl) rfl
          clear h
          refine gives_by rfl act.eval rfl ?_
          generalize act.eval = ρ at *
          intro hf hc
          go_simp
          exact ⟨rfl, hs⟩
        · intro k vals act wx hk h hs
          have e46 : act.eval (.tmp 46) = .slice (some ⟨b, off, none⟩) nk kc := h.q 1 46 (by kernel_rfl) rfl
          have e48 : act.eval (.tmp 48) = .int .i64 (I1 : Int) := h.q 3 48 (by kernel_rfl) rfl
          clear h
          refine gives_by rfl act.eval rfl ?_
          generalize act.eval = ρ at *
          intro hf hc
          go_simp
          exact ⟨rfl, hs⟩
        · intro k vals act wx hk h hs
          have e2 : act.eval (.tmp 2) = .pointer (some ⟨w.heap.size, 0, none⟩) := h.old 2 (by kernel_rfl)
          clear h
          refine gives_by rfl act.eval rfl ?_
          generalize act.eval = ρ at *
          intro hf hc
          go_simp
          exact ⟨rfl, hs⟩
        · intro k vals act wx hk h hs
          have e50 : act.eval (.tmp 50) = .pointer (some ⟨w.heap.size, 3, none⟩) := h.q 5 50 (by kernel_rfl) rfl
          clear h
          have hF : (fun W => Hf w [.bool false, .slice pa np pc, .slice (some ⟨b, off, none⟩) nk kc, .slice (some ⟨b', off', none⟩) nc cc] W ∧ Blk W (w.heap.size + 1) 26 zeroC ∧ Blk W (w.heap.size + 1 + 1) 26 zeroC ∧ Blk W ga 26 [(.bool false), (.slice none 0 0), (.slice (some ⟨b, off, none⟩) i i), (.slice (some ⟨b', off', none⟩) I1 I1)]) wx := AsS.f hs
          obtain ⟨⟨x0, x1', x2, x3⟩, _⟩ := node_cells hF.1.box
          refine gives_by rfl act.eval rfl ?_
          generalize act.eval = ρ at *
          intro hf hc
          go_simp
          exact ⟨rfl, hs⟩
        · intro k vals act wx hk h hs
          have e1 : act.eval (.tmp 1) = .int .i64 (i : Int) := h.old 1 (by kernel_rfl)
          clear h
          refine gives_by rfl act.eval rfl ?_
          generalize act.eval = ρ at *
          intro hf hc
          go_simp
          exact ⟨rfl, hs⟩
        · intro k vals act wx hk h hs
          have e52 : act.eval (.tmp 52) = .int .i64 (i : Int) := h.q 7 52 (by kernel_rfl) rfl
          clear h
          refine gives_by rfl act.eval rfl ?_
          generalize act.eval = ρ at *
          intro hf hc
          go_simp
          exact ⟨rfl, hs⟩
        · intro k vals act wx hk h hs
          have e51 : act.eval (.tmp 51) = .slice (some ⟨b', off', none⟩) nc cc := h.q 6 51 (by kernel_rfl) rfl
          have e53 : act.eval (.tmp 53) = .int .i64 (I1 : Int) := h.q 8 53 (by kernel_rfl) rfl
          clear h
          refine gives_by rfl act.eval rfl ?_
          generalize act.eval = ρ at *
          intro hf hc
          go_simp
          exact ⟨rfl, hs⟩
        · intro k vals act wx hk h hs
          have e49 : act.eval (.tmp 49) = .slice (some ⟨b, off + I1, none⟩) NK CK := h.q 4 49 (by kernel_rfl) rfl
          have e54 : act.eval (.tmp 54) = .slice (some ⟨b', off' + I1, none⟩) NC CC := h.q 9 54 (by kernel_rfl) rfl
          clear h
          refine gives_by rfl act.eval rfl ?_
          generalize act.eval = ρ at *
          intro hf hc
          go_simp
          exact ⟨rfl, hs⟩
        · intro vals act wx h hs
          clear h
          obtain ⟨hF, hsz⟩ : (fun W => Hf w [.bool false, .slice pa np pc, .slice (some ⟨b, off, none⟩) nk kc, .slice (some ⟨b', off', none⟩) nc cc] W ∧ Blk W (w.heap.size + 1) 26 zeroC ∧ Blk W (w.heap.size + 1 + 1) 26 zeroC ∧ Blk W ga 26 [(.bool false), (.slice none 0 0), (.slice (some ⟨b, off, none⟩) i i), (.slice (some ⟨b', off', none⟩) I1 I1)]) wx ∧ w5.heap.size ≤ wx.heap.size := hs
          have ho : Only (fun _ => False) wx (wx.alloc (.cells #[.bool false, .slice none 0 0, .slice none 0 0, .slice none 0 0] 26)) := (Only.refl _ wx).alloc _
          have hfin : (fun W => Hf w [.bool false, .slice pa np pc, .slice (some ⟨b, off, none⟩) nk kc, .slice (some ⟨b', off', none⟩) nc cc] W ∧ Blk W (w.heap.size + 1) 26 zeroC ∧ Blk W (w.heap.size + 1 + 1) 26 zeroC ∧ Blk W ga 26 [(.bool false), (.slice none 0 0), (.slice (some ⟨b, off, none⟩) i i), (.slice (some ⟨b', off', none⟩) I1 I1)]) (wx.alloc (.cells #[.bool false, .slice none 0 0, .slice none 0 0, .slice none 0 0] 26)) ∧ ∃ gg, (.pointer (some ⟨wx.heap.size, 0, none⟩) : Value) = .pointer (some ⟨gg, 0, none⟩) ∧ w5.heap.size ≤ gg ∧ Blk (wx.alloc (.cells #[.bool false, .slice none 0 0, .slice none 0 0, .slice none 0 0] 26)) gg 26 zeroC := ⟨⟨hF.1.only ho (fun _ h => h.elim), hF.2.1.only ho (fun h => h), hF.2.2.1.only ho (fun h => h), hF.2.2.2.only ho (fun h => h)⟩, wx.heap.size, rfl, hsz, Blk.new wx _ zeroC⟩
          clear hF
          refine gives_by rfl act.eval rfl ?_
          generalize act.eval = ρ at *
          intro hf hc
          go_simp
          exact hfin
        · intro vals act wx h hs
          have e10 : act.eval (.tmp 10) = vals 11 := h.val 11 10 (by kernel_rfl)
          have e55 : act.eval (.tmp 55) = .agg #[(.bool false), (.slice none 0 0), (.slice (some ⟨b, off + I1, none⟩) NK CK), (.slice (some ⟨b', off' + I1, none⟩) NC CC)] := h.q 10 55 (by kernel_rfl) rfl
          clear h
          obtain ⟨hF, g, hg, hgl, hB⟩ : (fun W => Hf w [.bool false, .slice pa np pc, .slice (some ⟨b, off, none⟩) nk kc, .slice (some ⟨b', off', none⟩) nc cc] W ∧ Blk W (w.heap.size + 1) 26 zeroC ∧ Blk W (w.heap.size + 1 + 1) 26 zeroC ∧ Blk W ga 26 [(.bool false), (.slice none 0 0), (.slice (some ⟨b, off, none⟩) i i), (.slice (some ⟨b', off', none⟩) I1 I1)]) wx ∧ ∃ gg, vals 11 = .pointer (some ⟨gg, 0, none⟩) ∧ w5.heap.size ≤ gg ∧ Blk wx gg 26 zeroC := hs
          rw [hg] at e10
          obtain ⟨⟨d0, d1, d2, d3⟩, f0, f1, f2, f3⟩ := node_cells hB
          have ho := laidN_only wx g (.bool false) (.slice none 0 0) (.slice (some ⟨b, off + I1, none⟩) NK CK) (.slice (some ⟨b', off' + I1, none⟩) NC CC)
          have hfin : (fun W => Hf w [.bool false, .slice pa np pc, .slice (some ⟨b, off, none⟩) nk kc, .slice (some ⟨b', off', none⟩) nc cc] W ∧ Blk W (w.heap.size + 1) 26 zeroC ∧ Blk W (w.heap.size + 1 + 1) 26 zeroC ∧ Blk W ga 26 [(.bool false), (.slice none 0 0), (.slice (some ⟨b, off, none⟩) i i), (.slice (some ⟨b', off', none⟩) I1 I1)]) (laidN wx g (.bool false) (.slice none 0 0) (.slice (some ⟨b, off + I1, none⟩) NK CK) (.slice (some ⟨b', off' + I1, none⟩) NC CC)) ∧ ∃ gg, vals 11 = .pointer (some ⟨gg, 0, none⟩) ∧ w5.heap.size ≤ gg ∧ Blk (laidN wx g (.bool false) (.slice none 0 0) (.slice (some ⟨b, off + I1, none⟩) NK CK) (.slice (some ⟨b', off' + I1, none⟩) NC CC)) gg 26 [(.bool false), (.slice none 0 0), (.slice (some ⟨b, off + I1, none⟩) NK CK), (.slice (some ⟨b', off' + I1, none⟩) NC CC)] := ⟨⟨hF.1.only ho (fun j hj => by omega), hF.2.1.only ho (by omega), hF.2.2.1.only ho (by omega), hF.2.2.2.only ho (by omega)⟩, g, hg, hgl, laidN_blk hB _ _ _ _⟩
          clear hF hB hg
          refine gives_by rfl act.eval rfl ?_
          generalize act.eval = ρ at *
          intro hf hc
          go_simp
          exact hfin
      · intro vals w6 hq hs
        obtain ⟨hF, gb, hgb, hgbl, hBb⟩ : (fun W => Hf w [.bool false, .slice pa np pc, .slice (some ⟨b, off, none⟩) nk kc, .slice (some ⟨b', off', none⟩) nc cc] W ∧ Blk W (w.heap.size + 1) 26 zeroC ∧ Blk W (w.heap.size + 1 + 1) 26 zeroC ∧ Blk W ga 26 [(.bool false), (.slice none 0 0), (.slice (some ⟨b, off, none⟩) i i), (.slice (some ⟨b', off', none⟩) I1 I1)]) w6 ∧ ∃ gg, vals 11 = .pointer (some ⟨gg, 0, none⟩) ∧ w5.heap.size ≤ gg ∧ Blk w6 gg 26 [(.bool false), (.slice none 0 0), (.slice (some ⟨b, off + I1, none⟩) NK CK), (.slice (some ⟨b', off' + I1, none⟩) NC CC)] := hs
        have HFB := hide hF
        have HBB := hide hBb
        clear hq hF hBb
        simp only [putAll, Act.put, List.setIfInBounds_toArray, List.set_cons_zero, List.set_cons_succ, Nat.zero_add, Nat.reduceAdd, hgb]
        clear hgb
        go_wp2
        refine wp_region_chain [some (.agg #[(.bool false), (.slice none 0 0), (.slice (some ⟨b, off, none⟩) i i), (.slice (some ⟨b', off', none⟩) I1 I1)]), some (.pointer (some ⟨w.heap.size, 2, none⟩)), some (.slice (some ⟨b, off, none⟩) nk kc), some (.int .i64 (i : Int)), some (.pointer (some ⟨b, off + i, none⟩)), some (.slice k1 k2 k3), some (.agg #[(.bool false), (.slice none 0 0), (.slice (some ⟨b, off + I1, none⟩) NK CK), (.slice (some ⟨b', off' + I1, none⟩) NC CC)]), none, some (.slice k1 k2 k3), none] [7, 9] (TwS (fun W => Hf w [.bool false, .slice pa np pc, .slice (some ⟨b, off, none⟩) nk kc, .slice (some ⟨b', off', none⟩) nc cc] W ∧ Blk W ga 26 [(.bool false), (.slice none 0 0), (.slice (some ⟨b, off, none⟩) i i), (.slice (some ⟨b', off', none⟩) I1 I1)] ∧ Blk W gb 26 [(.bool false), (.slice none 0 0), (.slice (some ⟨b, off + I1, none⟩) NK CK), (.slice (some ⟨b', off' + I1, none⟩) NC CC)]) (w.heap.size + 1) (w.heap.size + 1 + 1) [(.bool false), (.slice none 0 0), (.slice (some ⟨b, off, none⟩) i i), (.slice (some ⟨b', off', none⟩) I1 I1)] [(.bool false), (.slice none 0 0), (.slice (some ⟨b, off + I1, none⟩) NK CK), (.slice (some ⟨b', off' + I1, none⟩) NC CC)]) 63 (by kernel_rfl) (by kernel_rfl) (by kernel_rfl) (by kernel_rfl) rfl ?_ ?_ ?_
        · intro vals0
          have ho := (Only.refl (fun _ => False) w6).drew
          have hF := HFB.out
          exact (⟨⟨hF.1.only ho (fun _ h => h.elim), hF.2.2.2.only ho (fun h => h), HBB.out.only ho (fun h => h)⟩, hF.2.1.only ho (fun h => h), hF.2.2.1.only ho (fun h => h)⟩ : (fun W => Hf w [.bool false, .slice pa np pc, .slice (some ⟨b, off, none⟩) nk kc, .slice (some ⟨b', off', none⟩) nc cc] W ∧ Blk W ga 26 [(.bool false), (.slice none 0 0), (.slice (some ⟨b, off, none⟩) i i), (.slice (some ⟨b', off', none⟩) I1 I1)] ∧ Blk W gb 26 [(.bool false), (.slice none 0 0), (.slice (some ⟨b, off + I1, none⟩) NK CK), (.slice (some ⟨b', off' + I1, none⟩) NC CC)]) w6.drew ∧ Blk w6.drew (w.heap.size + 1) 26 zeroC ∧ Blk w6.drew (w.heap.size + 1 + 1) 26 zeroC)
        · refine ⟨?_, ?_, ?_, ?_, ?_, ?_, ?_, ?_, ?_, ?_, trivial⟩
          · intro k vals act wx hk h hs
            have e9 : act.eval (.tmp 9) = .pointer (some ⟨ga, 0, none⟩) := h.old 9 (by kernel_rfl)
            clear h
            have hF : (fun W => Hf w [.bool false, .slice pa np pc, .slice (some ⟨b, off, none⟩) nk kc, .slice (some ⟨b', off', none⟩) nc cc] W ∧ Blk W ga 26 [(.bool false), (.slice none 0 0), (.slice (some ⟨b, off, none⟩) i i), (.slice (some ⟨b', off', none⟩) I1 I1)] ∧ Blk W gb 26 [(.bool false), (.slice none 0 0), (.slice (some ⟨b, off + I1, none⟩) NK CK), (.slice (some ⟨b', off' + I1, none⟩) NC CC)]) wx := TwS.f hs
            obtain ⟨⟨x0, x1', x2, x3⟩, _⟩ := node_cells hF.2.1
            refine gives_by rfl act.eval rfl ?_
            generalize act.eval = ρ at *
            intro hf hc
            go_simp
            exact ⟨rfl, hs⟩
          · intro k vals act wx hk h hs
            have e2 : act.eval (.tmp 2) = .pointer (some ⟨w.heap.size, 0, none⟩) := h.old 2 (by kernel_rfl)
            clear h
            refine gives_by rfl act.eval rfl ?_
            generalize act.eval = ρ at *
            intro hf hc
            go_simp
            exact ⟨rfl, hs⟩
          · intro k vals act wx hk h hs
            have e57 : act.eval (.tmp 57) = .pointer (some ⟨w.heap.size, 2, none⟩) := h.q 1 57 (by kernel_rfl) rfl
            clear h
            have hF : (fun W => Hf w [.bool false, .slice pa np pc, .slice (some ⟨b, off, none⟩) nk kc, .slice (some ⟨b', off', none⟩) nc cc] W ∧ Blk W ga 26 [(.bool false), (.slice none 0 0), (.slice (some ⟨b, off, none⟩) i i), (.slice (some ⟨b', off', none⟩) I1 I1)] ∧ Blk W gb 26 [(.bool false), (.slice none 0 0), (.slice (some ⟨b, off + I1, none⟩) NK CK), (.slice (some ⟨b', off' + I1, none⟩) NC CC)]) wx := TwS.f hs
            obtain ⟨⟨x0, x1', x2, x3⟩, _⟩ := node_cells hF.1.box
            refine gives_by rfl act.eval rfl ?_
            generalize act.eval = ρ at *
            intro hf hc
            go_simp
            exact ⟨rfl, hs⟩
          · intro k vals act wx hk h hs
            have e1 : act.eval (.tmp 1) = .int .i64 (i : Int) := h.old 1 (by kernel_rfl)
            clear h
            refine gives_by rfl act.eval rfl ?_
            generalize act.eval = ρ at *
            intro hf hc
            go_simp
            exact ⟨rfl, hs⟩
          · intro k vals act wx hk h hs
            have e58 : act.eval (.tmp 58) = .slice (some ⟨b, off, none⟩) nk kc := h.q 2 58 (by kernel_rfl) rfl
            have e59 : act.eval (.tmp 59) = .int .i64 (i : Int) := h.q 3 59 (by kernel_rfl) rfl
            clear h
            have hF : (fun W => Hf w [.bool false, .slice pa np pc, .slice (some ⟨b, off, none⟩) nk kc, .slice (some ⟨b', off', none⟩) nc cc] W ∧ Blk W ga 26 [(.bool false), (.slice none 0 0), (.slice (some ⟨b, off, none⟩) i i), (.slice (some ⟨b', off', none⟩) I1 I1)] ∧ Blk W gb 26 [(.bool false), (.slice none 0 0), (.slice (some ⟨b, off + I1, none⟩) NK CK), (.slice (some ⟨b', off' + I1, none⟩) NC CC)]) wx := TwS.f hs
            refine gives_by rfl act.eval rfl ?_
            generalize act.eval = ρ at *
            intro hf hc
            go_simp
            exact ⟨rfl, hs⟩
          · intro k vals act wx hk h hs
            have e60 : act.eval (.tmp 60) = .pointer (some ⟨b, off + i, none⟩) := h.q 4 60 (by kernel_rfl) rfl
            clear h
            have hF : (fun W => Hf w [.bool false, .slice pa np pc, .slice (some ⟨b, off, none⟩) nk kc, .slice (some ⟨b', off', none⟩) nc cc] W ∧ Blk W ga 26 [(.bool false), (.slice none 0 0), (.slice (some ⟨b, off, none⟩) i i), (.slice (some ⟨b', off', none⟩) I1 I1)] ∧ Blk W gb 26 [(.bool false), (.slice none 0 0), (.slice (some ⟨b, off + I1, none⟩) NK CK), (.slice (some ⟨b', off' + I1, none⟩) NC CC)]) wx := TwS.f hs
            have cx := HCX.out wx hF.1.below
            refine gives_by rfl act.eval rfl ?_
            generalize act.eval = ρ at *
            intro hf hc
            go_simp
            exact ⟨rfl, hs⟩
          · intro k vals act wx hk h hs
            have e10 : act.eval (.tmp 10) = .pointer (some ⟨gb, 0, none⟩) := h.old 10 (by kernel_rfl)
            clear h
            have hF : (fun W => Hf w [.bool false, .slice pa np pc, .slice (some ⟨b, off, none⟩) nk kc, .slice (some ⟨b', off', none⟩) nc cc] W ∧ Blk W ga 26 [(.bool false), (.slice none 0 0), (.slice (some ⟨b, off, none⟩) i i), (.slice (some ⟨b', off', none⟩) I1 I1)] ∧ Blk W gb 26 [(.bool false), (.slice none 0 0), (.slice (some ⟨b, off + I1, none⟩) NK CK), (.slice (some ⟨b', off' + I1, none⟩) NC CC)]) wx := TwS.f hs
            obtain ⟨⟨x0, x1', x2, x3⟩, _⟩ := node_cells hF.2.2
            refine gives_by rfl act.eval rfl ?_
            generalize act.eval = ρ at *
            intro hf hc
            go_simp
            exact ⟨rfl, hs⟩
          · intro vals act wx h hs
            have e4 : act.eval (.tmp 4) = .pointer (some ⟨w.heap.size + 1, 0, none⟩) := h.old 4 (by kernel_rfl)
            have e56 : act.eval (.tmp 56) = .agg #[(.bool false), (.slice none 0 0), (.slice (some ⟨b, off, none⟩) i i), (.slice (some ⟨b', off', none⟩) I1 I1)] := h.q 0 56 (by kernel_rfl) rfl
            clear h
            obtain ⟨hF, hb1, hb2⟩ : (fun W => Hf w [.bool false, .slice pa np pc, .slice (some ⟨b, off, none⟩) nk kc, .slice (some ⟨b', off', none⟩) nc cc] W ∧ Blk W ga 26 [(.bool false), (.slice none 0 0), (.slice (some ⟨b, off, none⟩) i i), (.slice (some ⟨b', off', none⟩) I1 I1)] ∧ Blk W gb 26 [(.bool false), (.slice none 0 0), (.slice (some ⟨b, off + I1, none⟩) NK CK), (.slice (some ⟨b', off' + I1, none⟩) NC CC)]) wx ∧ Blk wx (w.heap.size + 1) 26 zeroC ∧ Blk wx (w.heap.size + 1 + 1) 26 zeroC := hs
            obtain ⟨⟨d0, d1, d2, d3⟩, k0, k1, k2', k3'⟩ := node_cells hb1
            have ho := laidN_only wx (w.heap.size + 1) (.bool false) (.slice none 0 0) (.slice (some ⟨b, off, none⟩) i i) (.slice (some ⟨b', off', none⟩) I1 I1)
            have hfin : (fun W => Hf w [.bool false, .slice pa np pc, .slice (some ⟨b, off, none⟩) nk kc, .slice (some ⟨b', off', none⟩) nc cc] W ∧ Blk W ga 26 [(.bool false), (.slice none 0 0), (.slice (some ⟨b, off, none⟩) i i), (.slice (some ⟨b', off', none⟩) I1 I1)] ∧ Blk W gb 26 [(.bool false), (.slice none 0 0), (.slice (some ⟨b, off + I1, none⟩) NK CK), (.slice (some ⟨b', off' + I1, none⟩) NC CC)]) (laidN wx (w.heap.size + 1) (.bool false) (.slice none 0 0) (.slice (some ⟨b, off, none⟩) i i) (.slice (some ⟨b', off', none⟩) I1 I1)) ∧ Blk (laidN wx (w.heap.size + 1) (.bool false) (.slice none 0 0) (.slice (some ⟨b, off, none⟩) i i) (.slice (some ⟨b', off', none⟩) I1 I1)) (w.heap.size + 1) 26 [(.bool false), (.slice none 0 0), (.slice (some ⟨b, off, none⟩) i i), (.slice (some ⟨b', off', none⟩) I1 I1)] ∧ Blk (laidN wx (w.heap.size + 1) (.bool false) (.slice none 0 0) (.slice (some ⟨b, off, none⟩) i i) (.slice (some ⟨b', off', none⟩) I1 I1)) (w.heap.size + 1 + 1) 26 zeroC := ⟨⟨hF.1.only ho (fun j hj => by omega), hF.2.1.only ho (by omega), hF.2.2.only ho (by omega)⟩, laidN_blk hb1 _ _ _ _, hb2.only ho (by omega)⟩
            clear hF hb1 hb2
            refine gives_by rfl act.eval rfl ?_
            generalize act.eval = ρ at *
            intro hf hc
            go_simp
            exact hfin
          · intro k vals act wx hk h hs
            have e61 : act.eval (.tmp 61) = .slice k1 k2 k3 := h.q 5 61 (by kernel_rfl) rfl
            clear h
            refine gives_by rfl act.eval rfl ?_
            generalize act.eval = ρ at *
            intro hf hc
            go_simp
            exact ⟨rfl, hs⟩
          · intro vals act wx h hs
            have e6 : act.eval (.tmp 6) = .pointer (some ⟨w.heap.size + 1 + 1, 0, none⟩) := h.old 6 (by kernel_rfl)
            have e62 : act.eval (.tmp 62) = .agg #[(.bool false), (.slice none 0 0), (.slice (some ⟨b, off + I1, none⟩) NK CK), (.slice (some ⟨b', off' + I1, none⟩) NC CC)] := h.q 6 62 (by kernel_rfl) rfl
            clear h
            obtain ⟨hF, hb1, hb2⟩ : (fun W => Hf w [.bool false, .slice pa np pc, .slice (some ⟨b, off, none⟩) nk kc, .slice (some ⟨b', off', none⟩) nc cc] W ∧ Blk W ga 26 [(.bool false), (.slice none 0 0), (.slice (some ⟨b, off, none⟩) i i), (.slice (some ⟨b', off', none⟩) I1 I1)] ∧ Blk W gb 26 [(.bool false), (.slice none 0 0), (.slice (some ⟨b, off + I1, none⟩) NK CK), (.slice (some ⟨b', off' + I1, none⟩) NC CC)]) wx ∧ Blk wx (w.heap.size + 1) 26 [(.bool false), (.slice none 0 0), (.slice (some ⟨b, off, none⟩) i i), (.slice (some ⟨b', off', none⟩) I1 I1)] ∧ Blk wx (w.heap.size + 1 + 1) 26 zeroC := hs
            obtain ⟨⟨d0, d1, d2, d3⟩, k0, k1, k2', k3'⟩ := node_cells hb2
            have ho := laidN_only wx (w.heap.size + 1 + 1) (.bool false) (.slice none 0 0) (.slice (some ⟨b, off + I1, none⟩) NK CK) (.slice (some ⟨b', off' + I1, none⟩) NC CC)
            have hfin : (fun W => Hf w [.bool false, .slice pa np pc, .slice (some ⟨b, off, none⟩) nk kc, .slice (some ⟨b', off', none⟩) nc cc] W ∧ Blk W ga 26 [(.bool false), (.slice none 0 0), (.slice (some ⟨b, off, none⟩) i i), (.slice (some ⟨b', off', none⟩) I1 I1)] ∧ Blk W gb 26 [(.bool false), (.slice none 0 0), (.slice (some ⟨b, off + I1, none⟩) NK CK), (.slice (some ⟨b', off' + I1, none⟩) NC CC)]) (laidN wx (w.heap.size + 1 + 1) (.bool false) (.slice none 0 0) (.slice (some ⟨b, off + I1, none⟩) NK CK) (.slice (some ⟨b', off' + I1, none⟩) NC CC)) ∧ Blk (laidN wx (w.heap.size + 1 + 1) (.bool false) (.slice none 0 0) (.slice (some ⟨b, off + I1, none⟩) NK CK) (.slice (some ⟨b', off' + I1, none⟩) NC CC)) (w.heap.size + 1) 26 [(.bool false), (.slice none 0 0), (.slice (some ⟨b, off, none⟩) i i), (.slice (some ⟨b', off', none⟩) I1 I1)] ∧ Blk (laidN wx (w.heap.size + 1 + 1) (.bool false) (.slice none 0 0) (.slice (some ⟨b, off + I1, none⟩) NK CK) (.slice (some ⟨b', off' + I1, none⟩) NC CC)) (w.heap.size + 1 + 1) 26 [(.bool false), (.slice none 0 0), (.slice (some ⟨b, off + I1, none⟩) NK CK), (.slice (some ⟨b', off' + I1, none⟩) NC CC)] := ⟨⟨hF.1.only ho (fun j hj => by omega), hF.2.1.only ho (by omega), hF.2.2.only ho (by omega)⟩, hb1.only ho (by omega), laidN_blk hb2 _ _ _ _⟩
            clear hF hb1 hb2
            refine gives_by rfl act.eval rfl ?_
            generalize act.eval = ρ at *
            intro hf hc
            go_simp
            exact hfin
        · intro vals w' hq hs
          have h5 : vals 8 = .slice k1 k2 k3 := hq 8 _ rfl
          obtain ⟨hF, hb1, hb2⟩ : (fun W => Hf w [.bool false, .slice pa np pc, .slice (some ⟨b, off, none⟩) nk kc, .slice (some ⟨b', off', none⟩) nc cc] W ∧ Blk W ga 26 [(.bool false), (.slice none 0 0), (.slice (some ⟨b, off, none⟩) i i), (.slice (some ⟨b', off', none⟩) I1 I1)] ∧ Blk W gb 26 [(.bool false), (.slice none 0 0), (.slice (some ⟨b, off + I1, none⟩) NK CK), (.slice (some ⟨b', off' + I1, none⟩) NC CC)]) w' ∧ Blk w' (w.heap.size + 1) 26 [(.bool false), (.slice none 0 0), (.slice (some ⟨b, off, none⟩) i i), (.slice (some ⟨b', off', none⟩) I1 I1)] ∧ Blk w' (w.heap.size + 1 + 1) 26 [(.bool false), (.slice none 0 0), (.slice (some ⟨b, off + I1, none⟩) NK CK), (.slice (some ⟨b', off' + I1, none⟩) NC CC)] := hs
          have HF := hide hF
          have HR1 := hide hb1
          have HR2 := hide hb2
          clear hq hF hb1 hb2
          simp only [putAll, Act.put, List.setIfInBounds_toArray, List.set_cons_zero, List.set_cons_succ, Nat.zero_add, Nat.reduceAdd, h5]
          (try go_wp2)
          (try simp only [Exit.inBlock, Exit.then])
          refine bodyPost_ret (ret_node3 rfl _ _ (w.heap.size + 1) (w.heap.size + 1 + 1) _ _ _ _ _ _ _ _ _ rfl rfl rfl HR1.out HR2.out) rfl ?_
          have hb := HF.out.1.below
          rw [HHA.out, HHB.out, HHK.out]
          exact ⟨_, k1, k2, k3, _, rfl, ⟨_, _, _, [], _, rfl, Prs.nil _, HKA.out, HCA.out⟩, HSK.out, ⟨_, _, _, [], _, rfl, Prs.nil _, HKB.out, HCB.out⟩, hb⟩

end Go.Proofs.Ythnppkeifhnceaa
/- Contract: package node's middle (where a node is cut). -/
namespace Go.Proofs.Ythnppkeifhnceaa
set_option maxRecDepth 20000
open Go.RowKit Go.Shelf
set_option linter.unusedVariables false
set_option linter.unusedSimpArgs false
set_option maxRecDepth 100000
attribute [local go_sem] Oper.semAt_some

theorem midK_lt (lf : Bool) (l : List Nat) : ∀ k, (midK lf l k).1 ≤ k
  | 0 => Nat.le_refl _
  | k + 1 => by
    have := midK_lt lf l k
    rw [midK]
    split
    · omega
    · split
      · omega
      · simp
theorem midK_small (lf : Bool) (l : List Nat) (m : Nat) (hm : l.sum ≤ m) : ∀ k, (midK lf l k).2 ≤ m
  | 0 => Nat.zero_le _
  | k + 1 => by
    have := midK_small lf l m hm k
    rw [midK]
    split
    · exact this
    · split
      · exact this
      · show apartC lf l k ≤ m
        have h1 := sum_split l k
        have h2 := sum_split l (k + 1)
        have h3 : (l.take k).sum ≤ l.sum := by omega
        have h4 : sndC lf l k ≤ l.sum := by unfold sndC; split <;> omega
        unfold apartC fstC at *
        omega

set_option maxHeartbeats 8000000 in
theorem middle_any (w : World) (v : Value) (n : Nd) (h : NdV w v n) (hm : mayN n = true) :
    Calls Try.prog 80 #[v] w fun e w' => e = .returned (.tuple #[.int .i64 (midN n.lf (partsN n)), .bool (decide (0 < midN n.lf (partsN n)))]) ∧ Below w.heap.size w w' := by
  have HPP : Hid (∀ w1, Below w.heap.size w w1 → Calls Try.prog 50 #[v] w1 fun e w' => ∃ u, e = .returned u ∧ Ints w' w1.heap.size u (ci (partsN n)) ∧ Below w1.heap.size w1 w') := fun w1 hb => parts_any w1 v n (h.below hb) hm
  obtain ⟨pa, pc, ka, kc, ca, cc, xs, ys, rfl, hp1, hk1, hc1, hp2, hk2, hc2, hP, hK, hC⟩ := h.open
  have HLL := hide (@parts_le n hm)
  have HNN := hide (@parts_len n hm)
  have HMN : Hid (midN n.lf (partsN n) = (midK n.lf (partsN n) (partsN n).length).1) := rfl
  generalize midN n.lf (partsN n) = MN at *
  generalize partsN n = L at *
  unfold ndv at HPP ⊢
  generalize n.lf = lf at *
  generalize n.ps.length = np at *
  generalize n.ks.length = nk at *
  generalize n.cs.length = nc at *
  have HT := hide (sum_take_le L 51 HLL.out)
  obtain ⟨w1, hw1, HB1, HBB, z0, z1, z2, z3⟩ := nd_box w lf (.slice pa np pc) (.slice ka nk kc) (.slice ca nc cc)
  obtain ⟨N, hN⟩ : ∃ N, L.length = N := ⟨_, rfl⟩
  have HNL := hide hN
  have hN5 : N ≤ 510 := by have := HNN.out; omega
  have hsum : L.sum ≤ 26010 := by
    have := HT.out L.length
    rw [List.take_length] at this
    have : L.length * 51 ≤ 510 * 51 := Nat.mul_le_mul_right _ (by omega)
    omega
  rw [hN] at HMN
  have HSM := hide (midK_small lf L 26010 hsum)
  have HLT := hide (midK_lt lf L)
  clear h hm hP hK hC hp1 hk1 hc1 hp2 hk2 hc2 hN
  go_enter Try.func80, Try.ntmps80
  go_wp2
  apply wp_scope_straight
  go_wp2_with (go_at_call 50; refine (HPP.out w1 HB1.out).mono ?_; rintro e w3 ⟨u, rfl, hu, hb3⟩; have HB3 := hide (HB1.out.trans (hb3.mono HB1.out.size)); have hBB3 := HBB.out.below hb3 HBB.out.lt; obtain ⟨y0, y1, y2, y3⟩ := box_ndc hBB3; have hui := hu.is; obtain ⟨ua, uc, rfl, hu1, hu2⟩ := hui.shape; have HU := hide hui; rw [ci_length, HNL.out] at HU; clear HPP hb3 hui hu hBB3)
  rw [ci_length, HNL.out]
  go_loopg [6, 20] N (fun g s i wr => ∃ (k : Nat), g + k = N ∧ i = .int .i64 k ∧ s = .int .i64 ((L.take k).sum : Nat) ∧ w3 = wr)
  case atStart => exact ⟨0, by omega, rfl, by simp, rfl⟩
  case round =>
    obtain ⟨k, hgk, rfl, rfl, hwr⟩ := hrel
    subst wr
    cases gk with
    | succ g =>
      have hk : k < N := by omega
      have hkl : k < L.length := by rw [HNL.out]; exact hk
      obtain ⟨b, off, rfl, q⟩ := HU.out.at k (by rw [ci_length]; exact hkl)
      have hki : (k : Int) < (N : Int) := by omega
      have hle := part_le L 51 HLL.out k
      have hA : (L.take k).sum ≤ 26010 := by have := sum_split L k; omega
      have HS := hide (sum_take_succ L k hkl)
      rw [ci_getD] at q
      generalize L.getD k 0 = x at *
      generalize (L.take k).sum = A at *
      go_wp2
      go_roundg g
      case measure => omega
      case rel => exact ⟨k + 1, by omega, by go_num, by rw [HS.out]; go_num, rfl⟩
    | zero =>
      obtain rfl : k = N := by omega
      have HTS : Hid ((L.take k).sum = L.sum) := by show _ = _; rw [List.take_of_length_le (by have := HNL.out; omega)]
      rw [HTS.out]
      go_wp2
      apply wp_label
      go_wp2
      go_loopg [5, 6, 9, 10, 30] k (fun g s5 s6 s9 s10 i wr => ∃ (j : Nat), g + j = k ∧ i = .int .i64 j ∧ s5 = .int .i64 ((L.take j).sum : Nat) ∧ s6 = .int .i64 ((L.drop j).sum : Nat) ∧ s9 = .int .i64 ((midK lf L j).1 : Nat) ∧ s10 = .int .i64 ((midK lf L j).2 : Nat) ∧ w3 = wr)
      case atStart => exact ⟨0, by omega, rfl, by simp, by simp, rfl, rfl, rfl⟩
      case round =>
        obtain ⟨j, hgj, rfl, rfl, rfl, rfl, rfl, hwr⟩ := hrel
        subst wr
        cases gk with
        | zero =>
          obtain rfl : j = k := by omega
          rw [← HMN.out]
          clear HMN
          by_cases h0 : 0 < MN
          · have hi0 : (0 : Int) < (MN : Int) := by omega
            go_wp2
            try rw [Exit.noGoto_ret]
            go_ret2
            exact ⟨by rw [decide_eq_true h0]; rfl, HB3.out⟩
          · have hi0 : ¬ (0 : Int) < (MN : Int) := by omega
            go_wp2
            try rw [Exit.noGoto_ret]
            go_ret2
            exact ⟨by rw [decide_eq_false h0]; rfl, HB3.out⟩
        | succ g =>
          have hj : j < k := by omega
          have hjl : j < L.length := by rw [HNL.out]; exact hj
          obtain ⟨b, off, rfl, q⟩ := HU.out.at j (by rw [ci_length]; exact hjl)
          have hji : (j : Int) < (k : Int) := by omega
          have hle := part_le L 51 HLL.out j
          have HS1 := hide (sum_take_succ L j hjl)
          have HS2 := sum_drop_succ L j hjl
          have hsp := sum_split L j
          have hb1 := HLT.out j
          have hb2 := HSM.out j
          have HMK : Hid (midK lf L (j + 1) = if fstC L j = 0 ∨ sndC lf L j = 0 then midK lf L j else if 0 < (midK lf L j).1 ∧ (midK lf L j).2 ≤ apartC lf L j then midK lf L j else (j, apartC lf L j)) := rfl
          rw [ci_getD] at q
          generalize (midK lf L j) = M at *
          obtain ⟨bst, lst⟩ := M
          simp only at hb1 hb2 HMK ⊢
          have HF : Hid (fstC L j = (L.take j).sum) := rfl
          have HST : Hid (sndC true L j = (L.drop j).sum) := rfl
          have HSF : Hid (sndC false L j = (L.drop (j + 1)).sum) := rfl
          have HAP : Hid (apartC lf L j = (fstC L j - sndC lf L j) + (sndC lf L j - fstC L j)) := rfl
          generalize L.getD j 0 = x at *
          generalize fstC L j = F at *
          generalize apartC lf L j = A at *
          rw [← HF.out] at hsp HS1 ⊢
          generalize hBe : (L.drop (j + 1)).sum = B' at *
          generalize hBd : (L.drop j).sum = B at *
          have hBx : (B : Int) - (x : Int) = (B' : Int) := by omega
          have HBD := hide hBd
          have HBE := hide hBe
          have hFb : F ≤ 26010 := by omega
          have hBb : B ≤ 26010 := by omega
          have hBb' : B' ≤ 26010 := by omega
          have hxb : x ≤ 51 := hle
          clear hBe hBd HS2 hsp
          cases lf with
          | true =>
            rw [HST.out] at HMK HAP
            have HA := HAP.out
            have hmx : (if (F : Int) - (B : Int) < (B : Int) - (F : Int) then (B : Int) - (F : Int) else (F : Int) - (B : Int)) = (A : Int) := by split <;> omega
            have hmy : max ((F : Int) - (B : Int)) ((B : Int) - (F : Int)) = (A : Int) := by omega
            have hAb : A ≤ 26010 := by omega
            clear HST HSF HAP HA HF
            by_cases hF : F = 0
            · have hf : ((F : Int) == 0) = true := by simp; omega
              have HF0 := hide hF
              clear hF
              go_wp2
              go_roundg g
              case measure => omega
              case rel =>
                refine ⟨j + 1, by omega, by go_num, by rw [HS1.out]; go_num, by rw [HBE.out], ?_, ?_, rfl⟩
                · rw [HMK.out, if_pos (.inl HF0.out)]; try rfl
                · rw [HMK.out, if_pos (.inl HF0.out)]; try rfl
            · have hf : ((F : Int) == 0) = false := by simp; omega
              by_cases hS : B = 0
              · have hs : ((B : Int) == 0) = true := by simp; omega
                have HS0 := hide hS
                clear hS
                go_wp2
                go_roundg g
                case measure => omega
                case rel =>
                  refine ⟨j + 1, by omega, by go_num, by rw [HS1.out]; go_num, by rw [HBE.out], ?_, ?_, rfl⟩
                  · rw [HMK.out, if_pos (.inr HS0.out)]; try rfl
                  · rw [HMK.out, if_pos (.inr HS0.out)]; try rfl
              · have hs : ((B : Int) == 0) = false := by simp; omega
                by_cases hb : 0 < bst
                · have hbi : (0 : Int) < (bst : Int) := by omega
                  by_cases ha : lst ≤ A
                  · have hai : (lst : Int) ≤ (A : Int) := by omega
                    go_wp2
                    go_roundg g
                    case measure => omega
                    case rel =>
                      refine ⟨j + 1, by omega, by go_num, by rw [HS1.out]; go_num, by rw [HBE.out], ?_, ?_, rfl⟩
                      · rw [HMK.out, if_neg (by omega), if_pos ⟨hb, ha⟩]; try rfl
                      · rw [HMK.out, if_neg (by omega), if_pos ⟨hb, ha⟩]; try rfl
                  · have hai : ¬ (lst : Int) ≤ (A : Int) := by omega
                    go_wp2
                    go_roundg g
                    case measure => omega
                    case rel =>
                      refine ⟨j + 1, by omega, by go_num, by rw [HS1.out]; go_num, by rw [HBE.out], ?_, ?_, rfl⟩
                      · rw [HMK.out, if_neg (by omega), if_neg (fun h => ha h.2)]; try rfl
                      · rw [HMK.out, if_neg (by omega), if_neg (fun h => ha h.2)]; try rfl
                · have hbi : ¬ (0 : Int) < (bst : Int) := by omega
                  go_wp2
                  go_roundg g
                  case measure => omega
                  case rel =>
                    refine ⟨j + 1, by omega, by go_num, by rw [HS1.out]; go_num, by rw [HBE.out], ?_, ?_, rfl⟩
                    · rw [HMK.out, if_neg (by omega), if_neg (fun h => hb h.1)]; try rfl
                    · rw [HMK.out, if_neg (by omega), if_neg (fun h => hb h.1)]; try rfl
          | false =>
            rw [HSF.out] at HMK HAP
            have HA := HAP.out
            have hmx : (if (F : Int) - (B' : Int) < (B' : Int) - (F : Int) then (B' : Int) - (F : Int) else (F : Int) - (B' : Int)) = (A : Int) := by split <;> omega
            have hmy : max ((F : Int) - (B' : Int)) ((B' : Int) - (F : Int)) = (A : Int) := by omega
            have hAb : A ≤ 26010 := by omega
            clear HST HSF HAP HA HF
            by_cases hF : F = 0
            · have hf : ((F : Int) == 0) = true := by simp; omega
              have HF0 := hide hF
              clear hF
              go_wp2
              go_roundg g
              case measure => omega
              case rel =>
                refine ⟨j + 1, by omega, by go_num, by rw [HS1.out]; go_num, by rw [HBE.out], ?_, ?_, rfl⟩
                · rw [HMK.out, if_pos (.inl HF0.out)]; try rfl
                · rw [HMK.out, if_pos (.inl HF0.out)]; try rfl
            · have hf : ((F : Int) == 0) = false := by simp; omega
              by_cases hS : B' = 0
              · have hs : ((B' : Int) == 0) = true := by simp; omega
                have HS0 := hide hS
                clear hS
                go_wp2
                go_roundg g
                case measure => omega
                case rel =>
                  refine ⟨j + 1, by omega, by go_num, by rw [HS1.out]; go_num, by rw [HBE.out], ?_, ?_, rfl⟩
                  · rw [HMK.out, if_pos (.inr HS0.out)]; try rfl
                  · rw [HMK.out, if_pos (.inr HS0.out)]; try rfl
              · have hs : ((B' : Int) == 0) = false := by simp; omega
                by_cases hb : 0 < bst
                · have hbi : (0 : Int) < (bst : Int) := by omega
                  by_cases ha : lst ≤ A
                  · have hai : (lst : Int) ≤ (A : Int) := by omega
                    go_wp2
                    go_roundg g
                    case measure => omega
                    case rel =>
                      refine ⟨j + 1, by omega, by go_num, by rw [HS1.out]; go_num, by rw [HBE.out], ?_, ?_, rfl⟩
                      · rw [HMK.out, if_neg (by omega), if_pos ⟨hb, ha⟩]; try rfl
                      · rw [HMK.out, if_neg (by omega), if_pos ⟨hb, ha⟩]; try rfl
                  · have hai : ¬ (lst : Int) ≤ (A : Int) := by omega
                    go_wp2
                    go_roundg g
                    case measure => omega
                    case rel =>
                      refine ⟨j + 1, by omega, by go_num, by rw [HS1.out]; go_num, by rw [HBE.out], ?_, ?_, rfl⟩
                      · rw [HMK.out, if_neg (by omega), if_neg (fun h => ha h.2)]; try rfl
                      · rw [HMK.out, if_neg (by omega), if_neg (fun h => ha h.2)]; try rfl
                · have hbi : ¬ (0 : Int) < (bst : Int) := by omega
                  go_wp2
                  go_roundg g
                  case measure => omega
                  case rel =>
                    refine ⟨j + 1, by omega, by go_num, by rw [HS1.out]; go_num, by rw [HBE.out], ?_, ?_, rfl⟩
                    · rw [HMK.out, if_neg (by omega), if_neg (fun h => hb h.1)]; try rfl
                    · rw [HMK.out, if_neg (by omega), if_neg (fun h => hb h.1)]; try rfl

end Go.Proofs.Ythnppkeifhnceaa
/- Contract: package node's Cut. -/
namespace Go.Proofs.Ythnppkeifhnceaa
set_option maxRecDepth 20000
open Go.RowKit Go.Shelf
set_option linter.unusedVariables false
set_option linter.unusedSimpArgs false
set_option maxRecDepth 100000
attribute [local go_sem] Oper.semAt_some

def cutM (n : Nd) : Nat := midN n.lf (partsN n)
def cutE (n : Nd) : Int := if mayN n then (if 0 < cutM n then 0 else 4) else 100
def cutA (n : Nd) : Nd := if cutE n = 0 then halfA n (cutM n) else noNd
def cutB (n : Nd) : Nd := if cutE n = 0 then halfB n (cutM n) else noNd
def cutK (n : Nd) : List Int := if cutE n = 0 then halfK n (cutM n) else []

theorem mid_bounds {n : Nd} (hm : mayN n = true) (h : 0 < cutM n) : (n.lf = true → cutM n < n.ps.length ∧ n.ps.length ≤ 1000) ∧ (n.lf = false → cutM n + 1 < n.ks.length ∧ n.cs.length = n.ks.length + 1 ∧ n.ks.length ≤ 1000) := by
  have hb := may_bounds hm
  obtain ⟨h1, h2, _⟩ := midN_ok n.lf (partsN n) h
  constructor
  · intro hl
    rw [mayN_lf hl] at hm
    have hk := (leafB_ps hm).2.1
    have hp : (partsN n).length = n.ps.length := by unfold partsN; rw [hk]; simp
    exact ⟨by unfold cutM; omega, by omega⟩
  · intro hl
    rw [mayN_in hl] at hm
    have hi := innerB_ps hm
    have hp : (partsN n).length = n.ks.length := by unfold partsN; rw [hi.1]; simp
    refine ⟨?_, hi.2.2.2.1, by omega⟩
    rcases Nat.lt_or_ge (cutM n + 1) n.ks.length with h3 | h3
    · exact h3
    · exfalso
      apply h2.2
      unfold sndC
      rw [hl]
      simp only [Bool.false_eq_true, if_false]
      have h4 : (partsN n).length ≤ midN false (partsN n) + 1 := by rw [← hl]; unfold cutM at h3; omega
      rw [List.drop_eq_nil_of_le h4]
      rfl
theorem all_takeX {α : Type} (f : α → Bool) (l : List α) (i : Nat) (h : l.all f = true) : (l.take i).all f = true := by
  rw [List.all_eq_true] at h ⊢
  exact fun x hx => h x (List.mem_of_mem_take hx)
theorem all_dropX {α : Type} (f : α → Bool) (l : List α) (i : Nat) (h : l.all f = true) : (l.drop i).all f = true := by
  rw [List.all_eq_true] at h ⊢
  exact fun x hx => h x (List.mem_of_mem_drop hx)
theorem few_half {n : Nd} (i : Nat) (h : few1 n = true) : few1 (halfA n i) = true ∧ few1 (halfB n i) = true := by
  simp only [few1, Bool.and_eq_true, decide_eq_true_iff] at h
  obtain ⟨⟨⟨⟨h1, h2⟩, h3⟩, h4⟩, h5⟩ := h
  unfold halfA halfB
  cases n.lf with
  | true =>
    simp only [if_true, few1, Bool.and_eq_true, decide_eq_true_iff, List.length_take, List.length_drop, List.length_nil, List.all_nil]
    exact ⟨⟨⟨⟨⟨by omega, by omega⟩, by omega⟩, all_takeX _ _ _ h4⟩, trivial⟩, ⟨⟨⟨⟨by omega, by omega⟩, by omega⟩, all_dropX _ _ _ h4⟩, trivial⟩⟩
  | false =>
    simp only [Bool.false_eq_true, if_false, few1, Bool.and_eq_true, decide_eq_true_iff, List.length_take, List.length_drop, List.length_nil, List.all_nil]
    exact ⟨⟨⟨⟨⟨by omega, by omega⟩, by omega⟩, trivial⟩, all_takeX _ _ _ h5⟩, ⟨⟨⟨⟨by omega, by omega⟩, by omega⟩, trivial⟩, all_dropX _ _ _ h5⟩⟩
theorem halfK_len {n : Nd} (hm : mayN n = true) (i : Nat) : (halfK n i).length ≤ 100000 := by
  have hb := may_bounds hm
  unfold halfK
  split
  · by_cases hi : i < n.ps.length
    · have := hb.2.2.2.1 (n.ps.getD i ([], [])) (by simp only [List.getD, List.getElem?_eq_getElem hi]; exact List.getElem_mem hi)
      omega
    · simp [List.getD, Nat.le_of_not_lt hi]
  · by_cases hi : i < n.ks.length
    · have := hb.2.2.2.2 (n.ks.getD i []) (by simp only [List.getD, List.getElem?_eq_getElem hi]; exact List.getElem_mem hi)
      omega
    · simp [List.getD, Nat.le_of_not_lt hi]

theorem results4 {fn : Func} {p u q r : Tmp} {ty : TypeId} (h : fn.results = #[.cell p ty, .tmp u, .cell q ty, .tmp r]) (tmps : Array Value) (P : Program) (w : World) :
    (results fn tmps).run P w = ((asAddr (tmps.getD p undef)).run P w).andThen fun a w₁ => ((loadVar ty a).run P w₁).andThen fun v w₂ => ((asAddr (tmps.getD q undef)).run P w₂).andThen fun a' w₃ => ((loadVar ty a').run P w₃).andThen fun v' w₄ => .ok (.tuple #[v, tmps.getD u undef, v', tmps.getD r undef]) w₄ := by
  simp only [results, h]
  simp [Sem.run_bind, Result.andThen]
theorem ret_node4 {fn : Func} {p u q r : Tmp} (h : fn.results = #[.cell p 26, .tmp u, .cell q 26, .tmp r]) (tmps : Array Value) (w : World) (b d : Nat) (x0 x1 x2 x3 y0 y1 y2 y3 k e : Value) (hp : tmps.getD p undef = .pointer (some ⟨b, 0, none⟩)) (hu : tmps.getD u undef = k) (hq : tmps.getD q undef = .pointer (some ⟨d, 0, none⟩)) (hr : tmps.getD r undef = e) (hB : Blk w b 26 [x0, x1, x2, x3]) (hD : Blk w d 26 [y0, y1, y2, y3]) :
    (results fn tmps).run Try.prog w = .ok (.tuple #[.agg #[x0, x1, x2, x3], k, .agg #[y0, y1, y2, y3], e]) w := by
  rw [results4 h, hp, hu, hq, hr]
  simp only [asAddr, Sem.run_pure, Result.andThen_ok]
  rw [load_node w b x0 x1 x2 x3 hB]
  simp only [Result.andThen_ok]
  rw [load_node w d y0 y1 y2 y3 hD]
  rfl

/-- a cut that was answered -/
def GivesX (w : World) (a : Nd) (k : List Int) (b : Nd) (er : Int) (r : Ending) (w' : World) : Prop := ∃ u1 k1 k2 k3 u2, r = .returned (.tuple #[u1, .slice k1 k2 k3, u2, .int .i64 er]) ∧ NdN w' w.heap.size u1 a ∧ Sl w' (.slice k1 k2 k3) k ∧ NdN w' w.heap.size u2 b ∧ Below w.heap.size w w'

structure CtB (w : World) (ab bb : Nat) (VA VB : List Value) (W : World) : Prop where
  below : Below w.heap.size w W
  size : w.heap.size + 3 ≤ W.heap.size
  ba : Blk W ab 26 VA
  bb : Blk W bb 26 VB
theorem CtB.only {w : World} {ab bb : Nat} {VA VB : List Value} {W W' : World} {S : Nat → Prop} (h : CtB w ab bb VA VB W) (ho : Only S W W') (hS : ∀ j, S j → w.heap.size ≤ j) (ha : ¬ S ab) (hb : ¬ S bb) : CtB w ab bb VA VB W' :=
  ⟨h.below.trans (ho.below h.below.size (fun j hj hs => by have := hS j hs; omega)), Nat.le_trans h.size ho.size, h.ba.only ho ha, h.bb.only ho hb⟩
def ndO (B : Nat) (n : Nd) (v : Value) (w : World) : Prop := ∃ l pa np pc ka nk kc ca nc cc, v = .agg #[.bool l, .slice pa np pc, .slice ka nk kc, .slice ca nc cc] ∧ NdN w B (.agg #[.bool l, .slice pa np pc, .slice ka nk kc, .slice ca nc cc]) n
def ndS (B r : Nat) (n : Nd) (w : World) : Prop := ∃ l pa np pc ka nk kc ca nc cc, Blk w r 26 [.bool l, .slice pa np pc, .slice ka nk kc, .slice ca nc cc] ∧ NdN w B (.agg #[.bool l, .slice pa np pc, .slice ka nk kc, .slice ca nc cc]) n
def byO (B : Nat) (zs : List Int) (v : Value) (w : World) : Prop := ∃ a n c, v = .slice a n c ∧ ownsB w B (.slice a n c) zs
theorem ndO.only {B : Nat} {n : Nd} {v : Value} {w w' : World} {S : Nat → Prop} (h : ndO B n v w) (ho : Only S w w') (hS : ∀ j, S j → j < B) : ndO B n v w' := by
  obtain ⟨l, pa, np, pc, ka, nk, kc, ca, nc, cc, h1, h2⟩ := h
  exact ⟨l, pa, np, pc, ka, nk, kc, ca, nc, cc, h1, h2.only ho hS⟩
theorem ndS.only {B r : Nat} {n : Nd} {w w' : World} {S : Nat → Prop} (h : ndS B r n w) (ho : Only S w w') (hS : ∀ j, S j → j < B) (hr : ¬ S r) : ndS B r n w' := by
  obtain ⟨l, pa, np, pc, ka, nk, kc, ca, nc, cc, h1, h2⟩ := h
  exact ⟨l, pa, np, pc, ka, nk, kc, ca, nc, cc, h1.only ho hr, h2.only ho hS⟩
theorem byO.only {B : Nat} {zs : List Int} {v : Value} {w w' : World} {S : Nat → Prop} (h : byO B zs v w) (ho : Only S w w') (hS : ∀ j, S j → j < B) : byO B zs v w' := by
  obtain ⟨a, n, c, h1, h2⟩ := h
  exact ⟨a, n, c, h1, ownsRow_only h2 ho (fun j hj hs => by have := (row_blk h2 hj).1; have := hS j hs; omega)⟩
abbrev blkN (W : World) (r : Nat) (V : List Value) : Prop := Blk W r 26 V
/-- the cut's region -/
def CtS (w : World) (ab bb : Nat) (VA VB : List Value) (A B : Nd) (K : List Int) : Nat → (Nat → Value) → World → Prop := fun i vals W => CtB w ab bb VA VB W ∧ match i with
  | 0 => blkN W (w.heap.size + 1) zeroC ∧ blkN W (w.heap.size + 1 + 1) zeroC
  | 1 => (blkN W (w.heap.size + 1) zeroC ∧ blkN W (w.heap.size + 1 + 1) zeroC) ∧ ndO (w.heap.size + 3) A (vals 1) W
  | 2 => (blkN W (w.heap.size + 1) zeroC ∧ blkN W (w.heap.size + 1 + 1) zeroC) ∧ ndO (w.heap.size + 3) A (vals 1) W ∧ byO (w.heap.size + 3) K (vals 3) W
  | 3 => (blkN W (w.heap.size + 1) zeroC ∧ blkN W (w.heap.size + 1 + 1) zeroC) ∧ ndO (w.heap.size + 3) A (vals 1) W ∧ byO (w.heap.size + 3) K (vals 3) W ∧ ndO (w.heap.size + 3) B (vals 5) W
  | 4 => (ndS (w.heap.size + 3) (w.heap.size + 1) A W ∧ blkN W (w.heap.size + 1 + 1) zeroC) ∧ byO (w.heap.size + 3) K (vals 3) W ∧ ndO (w.heap.size + 3) B (vals 5) W
  | 5 => (ndS (w.heap.size + 3) (w.heap.size + 1) A W ∧ blkN W (w.heap.size + 1 + 1) zeroC) ∧ byO (w.heap.size + 3) K (vals 7) W ∧ ndO (w.heap.size + 3) B (vals 5) W
  | 6 => (ndS (w.heap.size + 3) (w.heap.size + 1) A W ∧ ndS (w.heap.size + 3) (w.heap.size + 1 + 1) B W) ∧ byO (w.heap.size + 3) K (vals 7) W
  | _ => (ndS (w.heap.size + 3) (w.heap.size + 1) A W ∧ ndS (w.heap.size + 3) (w.heap.size + 1 + 1) B W) ∧ byO (w.heap.size + 3) K (vals 7) W ∧ vals 9 = .int .i64 0

set_option maxHeartbeats 8000000 in
theorem cut_any (w : World) (v : Value) (n : Nd) (h : NdV w v n) : Calls Try.prog 41 #[v] w (GivesX w (cutA n) (cutK n) (cutB n) (cutE n)) := by
  have HM : Hid (∀ w1, Below w.heap.size w w1 → Calls Try.prog 49 #[v] w1 fun e w' => e = .returned (.bool (mayN n)) ∧ Below w1.heap.size w1 w') := fun w1 hb => mayBe_any w1 v n (h.below hb)
  have HMI : Hid (mayN n = true → ∀ w1, Below w.heap.size w w1 → Calls Try.prog 80 #[v] w1 fun e w' => e = .returned (.tuple #[.int .i64 (cutM n), .bool (decide (0 < cutM n))]) ∧ Below w1.heap.size w1 w') := fun hm w1 hb => middle_any w1 v n (h.below hb) hm
  have HHA : Hid (mayN n = true → 0 < cutM n → ∀ w1, Below w.heap.size w w1 → Calls Try.prog 81 #[v, .int .i64 (cutM n : Nat)] w1 fun e w' => ∃ l p a b kx c d q r s k1 k2 k3 l' p' a' b' kx' c' d' q' r' s', e = .returned (.tuple #[.agg #[.bool l, .slice p a b, .slice kx c d, .slice q r s], .slice k1 k2 k3, .agg #[.bool l', .slice p' a' b', .slice kx' c' d', .slice q' r' s']]) ∧ NdV w (.agg #[.bool l, .slice p a b, .slice kx c d, .slice q r s]) (halfA n (cutM n)) ∧ Sl w (.slice k1 k2 k3) (halfK n (cutM n)) ∧ NdV w (.agg #[.bool l', .slice p' a' b', .slice kx' c' d', .slice q' r' s']) (halfB n (cutM n)) ∧ Below w1.heap.size w1 w') := fun hm h0 w1 hb => by
    refine (halves_any w w1 hb v n h (cutM n) h0 (mid_bounds hm h0).1 (mid_bounds hm h0).2).mono ?_
    rintro e w' ⟨u1, k1, k2, k3, u2, rfl, h1, h2, h3, h4⟩
    obtain ⟨l, p, a, b, kx, c, d, q, r, s, rfl, -⟩ := nd_open h1
    obtain ⟨l', p', a', b', kx', c', d', q', r', s', rfl, -⟩ := nd_open h3
    exact ⟨l, p, a, b, kx, c, d, q, r, s, k1, k2, k3, l', p', a', b', kx', c', d', q', r', s', rfl, h1, h2, h3, h4⟩
  have HCL : Hid (mayN n = true → (few1 (halfA n (cutM n)) = true ∧ few1 (halfB n (cutM n)) = true) ∧ (halfK n (cutM n)).length ≤ 100000) := fun hm => ⟨few_half _ (may_few hm), halfK_len hm _⟩
  have HEE : Hid (cutE n = if mayN n then (if 0 < cutM n then 0 else 4) else 100) := rfl
  have HAA : Hid (cutA n = if cutE n = 0 then halfA n (cutM n) else noNd) := rfl
  have HBB : Hid (cutB n = if cutE n = 0 then halfB n (cutM n) else noNd) := rfl
  have HKK : Hid (cutK n = if cutE n = 0 then halfK n (cutM n) else []) := rfl
  have hza : ∀ wx : World, (zeroValue 26).run Try.prog wx = .ok (.agg #[.bool false, .slice none 0 0, .slice none 0 0, .slice none 0 0]) wx := fun wx => by kernel_rfl
  obtain ⟨lf, pa, np, pc, ka, nk, kc, ca, nc, cc, rfl, hlf, -⟩ := nd_open h
  obtain ⟨w1, hw1⟩ : ∃ w1, ((w.alloc (.cells #[.bool lf, .slice pa np pc, .slice ka nk kc, .slice ca nc cc] 26)).alloc (.cells #[.bool false, .slice none 0 0, .slice none 0 0, .slice none 0 0] 26)).alloc (.cells #[.bool false, .slice none 0 0, .slice none 0 0, .slice none 0 0] 26) = w1 := ⟨_, rfl⟩
  have HX1 : Hid (Below w.heap.size w w1 ∧ blkN w1 w.heap.size [.bool lf, .slice pa np pc, .slice ka nk kc, .slice ca nc cc] ∧ blkN w1 (w.heap.size + 1) zeroC ∧ blkN w1 (w.heap.size + 1 + 1) zeroC) := by
    rw [← hw1]
    refine ⟨(((Below.refl _ w).alloc (Nat.le_refl _) _).alloc (by simp) _).alloc (by simp <;> omega) _, ((Blk.new w _ _).alloc _).alloc _, ?_, ?_⟩
    · have := (Blk.new (w.alloc (.cells #[.bool lf, .slice pa np pc, .slice ka nk kc, .slice ca nc cc] 26)) 26 zeroC).alloc (.cells #[.bool false, .slice none 0 0, .slice none 0 0, .slice none 0 0] 26)
      rw [World.size_alloc] at this
      exact this
    · have := Blk.new ((w.alloc (.cells #[.bool lf, .slice pa np pc, .slice ka nk kc, .slice ca nc cc] 26)).alloc (.cells #[.bool false, .slice none 0 0, .slice none 0 0, .slice none 0 0] 26)) 26 zeroC
      rw [World.size_alloc, World.size_alloc] at this
      exact this
  have HKP : Hid (∀ {W W' : World}, (Below w.heap.size w W ∧ blkN W w.heap.size [.bool lf, .slice pa np pc, .slice ka nk kc, .slice ca nc cc] ∧ blkN W (w.heap.size + 1) zeroC ∧ blkN W (w.heap.size + 1 + 1) zeroC) → Below W.heap.size W W' → (Below w.heap.size w W' ∧ blkN W' w.heap.size [.bool lf, .slice pa np pc, .slice ka nk kc, .slice ca nc cc] ∧ blkN W' (w.heap.size + 1) zeroC ∧ blkN W' (w.heap.size + 1 + 1) zeroC)) := fun hx hb => ⟨hx.1.trans (hb.mono hx.1.size), hx.2.1.below hb hx.2.1.lt, hx.2.2.1.below hb hx.2.2.1.lt, hx.2.2.2.below hb hx.2.2.2.lt⟩
  obtain ⟨⟨z0, z1, z2, z3⟩, _⟩ := node_cells HX1.out.2.1
  clear h hlf
  cases hm : mayN n with
  | false =>
    rw [hm] at HEE HM
    simp only [Bool.false_eq_true, if_false] at HEE
    rw [HEE.out] at HAA HBB HKK ⊢
    rw [if_neg (by omega)] at HAA HBB HKK
    rw [HAA.out, HBB.out, HKK.out]
    clear HMI HHA HCL HEE HAA HBB HKK hm
    go_enter Try.func41, Try.ntmps41
    go_wp2_with (go_at_call 49; refine (HM.out w1 HX1.out.1).mono ?_; rintro e w2 ⟨rfl, hb2⟩; have HX2 := hide (HKP.out HX1.out hb2); obtain ⟨⟨d0, d1, d2, d3⟩, k0, k1, k2, k3⟩ := node_cells HX2.out.2.2.1; have hb4 := HX2.out.2.2.2.only (laidN_only w2 (w.heap.size + 1) (.bool false) (.slice none 0 0) (.slice none 0 0) (.slice none 0 0)) (by omega); obtain ⟨⟨g0, g1, g2, g3⟩, q0, q1, q2, q3⟩ := node_cells hb4; unfold laidN at g0 g1 g2 g3 q0 q1 q2 q3; have HB4 := hide hb4; clear HM hb2 hb4)
    (try simp only [Exit.inBlock, Exit.then])
    have h3 := laidN_blk HB4.out (.bool false) (.slice none 0 0) (.slice none 0 0) (.slice none 0 0)
    have o1 := laidN_only w2 (w.heap.size + 1) (.bool false) (.slice none 0 0) (.slice none 0 0) (.slice none 0 0)
    have o2 := laidN_only (laidN w2 (w.heap.size + 1) (.bool false) (.slice none 0 0) (.slice none 0 0) (.slice none 0 0)) (w.heap.size + 1 + 1) (.bool false) (.slice none 0 0) (.slice none 0 0) (.slice none 0 0)
    have h2 := (laidN_blk HX2.out.2.2.1 (.bool false) (.slice none 0 0) (.slice none 0 0) (.slice none 0 0)).only o2 (by omega)
    refine bodyPost_ret (ret_node4 rfl _ _ (w.heap.size + 1) (w.heap.size + 1 + 1) _ _ _ _ _ _ _ _ _ _ rfl rfl rfl rfl h2 h3) rfl ?_
    exact ⟨_, none, 0, 0, _, rfl, NdN.none _ _, Sl.nil _, NdN.none _ _, (HX2.out.1.trans (o1.below HX2.out.1.size (fun j hj e => by omega))).trans (o2.below (by have := HX2.out.1.size; have := o1.size; omega) (fun j hj e => by omega))⟩
  | true =>
    have HMI1 := hide (HMI.out hm)
    rw [hm] at HEE HM
    simp only [if_true] at HEE
    by_cases h0 : 0 < cutM n
    · rw [if_pos h0] at HEE
      rw [HEE.out] at HAA HBB HKK ⊢
      rw [if_pos rfl] at HAA HBB HKK
      rw [HAA.out, HBB.out, HKK.out]
      rw [decide_eq_true h0] at HMI1
      have HHA1 := hide (HHA.out hm h0)
      obtain ⟨⟨hfa, hfb⟩, hkl⟩ := HCL.out hm
      clear HMI HHA HCL HEE HAA HBB HKK hm
      generalize halfA n (cutM n) = A at *
      generalize halfB n (cutM n) = B at *
      generalize halfK n (cutM n) = K at *
      generalize cutM n = I at *
      go_enter Try.func41, Try.ntmps41
      go_wp2_with (first
        | (go_at_call 49; refine (HM.out w1 HX1.out.1).mono ?_; rintro e w2 ⟨rfl, hb2⟩; have HX2 := hide (HKP.out HX1.out hb2); clear z0 z1 z2 z3; obtain ⟨⟨z0, z1, z2, z3⟩, _⟩ := node_cells HX2.out.2.1; clear HM hb2)
        | (go_at_call 80; refine (HMI1.out w2 HX2.out.1).mono ?_; rintro e w3 ⟨rfl, hb3⟩; have HX3 := hide (HKP.out HX2.out hb3); clear z0 z1 z2 z3; obtain ⟨⟨z0, z1, z2, z3⟩, _⟩ := node_cells HX3.out.2.1; clear HMI1 hb3)
        | (go_at_call 81; refine (HHA1.out w3 HX3.out.1).mono ?_; rintro e w4 ⟨l, p, a, b, kx, c, d, q, r, s, k1, k2, k3, l', p', a', b', kx', c', d', q', r', s', rfl, hva, hsk, hvb, hb4⟩; have HX4 := hide (HKP.out HX3.out hb4); have HVA := hide hva; have HVB := hide hvb; have HSK := hide hsk; clear HHA1 hb4 hva hvb hsk))
      obtain ⟨W, hW⟩ : ∃ W, W = (w4.alloc (.cells #[.bool l, .slice p a b, .slice kx c d, .slice q r s] 26)).alloc (.cells #[.bool l', .slice p' a' b', .slice kx' c' d', .slice q' r' s'] 26) := ⟨_, rfl⟩
      obtain ⟨ab, hab⟩ : ∃ x, x = w4.heap.size := ⟨_, rfl⟩
      obtain ⟨bb, hbb⟩ : ∃ x, x = ab + 1 := ⟨_, rfl⟩
      have hs4 : w.heap.size + 3 ≤ w4.heap.size := by have := HX4.out.2.2.2.lt; omega
      have HC0 : Hid (CtB w ab bb [.bool l, .slice p a b, .slice kx c d, .slice q r s] [.bool l', .slice p' a' b', .slice kx' c' d', .slice q' r' s'] W ∧ blkN W (w.heap.size + 1) zeroC ∧ blkN W (w.heap.size + 1 + 1) zeroC) := by
        have hb : Below w4.heap.size w4 W := by rw [hW]; exact ((Below.refl _ w4).alloc (Nat.le_refl _) _).alloc (by simp) _
        have hx := HKP.out HX4.out hb
        refine ⟨⟨hx.1, by have := hb.size; omega, ?_, ?_⟩, hx.2.2.1, hx.2.2.2⟩
        · rw [hab, hW]; exact (Blk.new w4 _ _).alloc _
        · rw [hbb, hab, hW]
          have := Blk.new (w4.alloc (.cells #[.bool l, .slice p a b, .slice kx c d, .slice q r s] 26)) 26 [.bool l', .slice p' a' b', .slice kx' c' d', .slice q' r' s']
          rw [World.size_alloc] at this
          exact this
      have hab3 : w.heap.size + 3 ≤ ab := by omega
      have hbb3 : w.heap.size + 3 ≤ bb := by omega
      simp only [← hab, ← hW]
      simp only [← hbb]
      clear hW hab hbb HX1 HX2 HX3 HX4 HKP z0 z1 z2 z3
      (try go_wp2)
      refine wp_region_chain [some (.agg #[.bool l, .slice p a b, .slice kx c d, .slice q r s]), none, some (.slice k1 k2 k3), none, some (.agg #[.bool l', .slice p' a' b', .slice kx' c' d', .slice q' r' s']), none, none, none, none, none] [1, 3, 5, 6, 7, 8, 9] (CtS w ab bb [.bool l, .slice p a b, .slice kx c d, .slice q r s] [.bool l', .slice p' a' b', .slice kx' c' d', .slice q' r' s'] A B K) 38 (by kernel_rfl) (by kernel_rfl) (by kernel_rfl) (by kernel_rfl) rfl ?_ ?_ ?_
      · intro vals0
        have ho := (Only.refl (fun _ => False) W).drew
        exact (⟨HC0.out.1.only ho (fun _ h => h.elim) (fun h => h) (fun h => h), HC0.out.2.1.only ho (fun h => h), HC0.out.2.2.only ho (fun h => h)⟩ : CtB w ab bb [.bool l, .slice p a b, .slice kx c d, .slice q r s] [.bool l', .slice p' a' b', .slice kx' c' d', .slice q' r' s'] W.drew ∧ blkN W.drew (w.heap.size + 1) zeroC ∧ blkN W.drew (w.heap.size + 1 + 1) zeroC)
      · refine ⟨?_, ?_, ?_, ?_, ?_, ?_, ?_, ?_, ?_, ?_, trivial⟩
        · intro k vals act wx hk h hs
          have e8 : act.eval (.tmp 8) = .pointer (some ⟨ab, 0, none⟩) := h.old 8 (by kernel_rfl)
          clear h
          have hC : CtB w ab bb [.bool l, .slice p a b, .slice kx c d, .slice q r s] [.bool l', .slice p' a' b', .slice kx' c' d', .slice q' r' s'] wx := hs.1
          obtain ⟨⟨x0, x1, x2, x3⟩, _⟩ := node_cells hC.ba
          refine gives_by rfl act.eval rfl ?_
          generalize act.eval = ρ at *
          intro hf hc
          go_simp
          exact ⟨rfl, hs⟩
        · intro vals act wx h hs
          have e32 : act.eval (.tmp 32) = .agg #[.bool l, .slice p a b, .slice kx c d, .slice q r s] := h.q 0 32 (by kernel_rfl) rfl
          clear h
          obtain ⟨hC, hZ1, hZ2⟩ : CtB w ab bb [.bool l, .slice p a b, .slice kx c d, .slice q r s] [.bool l', .slice p' a' b', .slice kx' c' d', .slice q' r' s'] wx ∧ blkN wx (w.heap.size + 1) zeroC ∧ blkN wx (w.heap.size + 1 + 1) zeroC := hs
          refine gives_by rfl act.eval rfl ?_
          generalize act.eval = ρ at *
          intro hf hc
          go_simp
          refine (ndClone_any wx _ A (HVA.out.below hC.below) hfa).mono ?_
          rintro e w' ⟨u, he, hn, hb'⟩
          have ho : Only (fun _ => False) wx w' := Only.of_below _ hb'
          obtain ⟨pa3, np3, pc3, ka3, nk3, kc3, ca3, nc3, cc3, rfl⟩ := hn.form
          exact ⟨_, he, (⟨hC.only ho (fun _ h => h.elim) (fun h => h) (fun h => h), ⟨hZ1.only ho (fun h => h), hZ2.only ho (fun h => h)⟩, ⟨_, _, _, _, _, _, _, _, _, _, rfl, hn.le hC.size⟩⟩ : CtB w ab bb [.bool l, .slice p a b, .slice kx c d, .slice q r s] [.bool l', .slice p' a' b', .slice kx' c' d', .slice q' r' s'] w' ∧ (blkN w' (w.heap.size + 1) zeroC ∧ blkN w' (w.heap.size + 1 + 1) zeroC) ∧ ndO (w.heap.size + 3) A (.agg #[.bool A.lf, .slice pa3 np3 pc3, .slice ka3 nk3 kc3, .slice ca3 nc3 cc3]) w')⟩
        · intro k vals act wx hk h hs
          have e9 : act.eval (.tmp 9) = .slice k1 k2 k3 := h.old 9 (by kernel_rfl)
          clear h
          refine gives_by rfl act.eval rfl ?_
          generalize act.eval = ρ at *
          intro hf hc
          go_simp
          exact ⟨rfl, hs⟩
        · intro vals act wx h hs
          have e34 : act.eval (.tmp 34) = .slice k1 k2 k3 := h.q 2 34 (by kernel_rfl) rfl
          clear h
          obtain ⟨hC, ⟨hZ1, hZ2⟩, h1⟩ : CtB w ab bb [.bool l, .slice p a b, .slice kx c d, .slice q r s] [.bool l', .slice p' a' b', .slice kx' c' d', .slice q' r' s'] wx ∧ (blkN wx (w.heap.size + 1) zeroC ∧ blkN wx (w.heap.size + 1 + 1) zeroC) ∧ ndO (w.heap.size + 3) A (vals 1) wx := hs
          refine gives_by rfl act.eval rfl ?_
          generalize act.eval = ρ at *
          intro hf hc
          go_simp
          refine (clone_any wx _ K (HSK.out.below hC.below) hkl).mono ?_
          rintro e w' ⟨u, he, hn, hb'⟩
          have ho : Only (fun _ => False) wx w' := Only.of_below _ hb'
          obtain ⟨ua, uc, rfl⟩ := own_form' hn
          exact ⟨_, he, (⟨hC.only ho (fun _ h => h.elim) (fun h => h) (fun h => h), ⟨hZ1.only ho (fun h => h), hZ2.only ho (fun h => h)⟩, h1.only ho (fun _ h => h.elim), ⟨_, _, _, rfl, own_le' hn hC.size⟩⟩ : CtB w ab bb [.bool l, .slice p a b, .slice kx c d, .slice q r s] [.bool l', .slice p' a' b', .slice kx' c' d', .slice q' r' s'] w' ∧ (blkN w' (w.heap.size + 1) zeroC ∧ blkN w' (w.heap.size + 1 + 1) zeroC) ∧ ndO (w.heap.size + 3) A (vals 1) w' ∧ byO (w.heap.size + 3) K (.slice ua K.length uc) w')⟩
        · intro k vals act wx hk h hs
          have e10 : act.eval (.tmp 10) = .pointer (some ⟨bb, 0, none⟩) := h.old 10 (by kernel_rfl)
          clear h
          have hC : CtB w ab bb [.bool l, .slice p a b, .slice kx c d, .slice q r s] [.bool l', .slice p' a' b', .slice kx' c' d', .slice q' r' s'] wx := hs.1
          obtain ⟨⟨x0, x1, x2, x3⟩, _⟩ := node_cells hC.bb
          refine gives_by rfl act.eval rfl ?_
          generalize act.eval = ρ at *
          intro hf hc
          go_simp
          exact ⟨rfl, hs⟩
        · intro vals act wx h hs
          have e36 : act.eval (.tmp 36) = .agg #[.bool l', .slice p' a' b', .slice kx' c' d', .slice q' r' s'] := h.q 4 36 (by kernel_rfl) rfl
          clear h
          obtain ⟨hC, ⟨hZ1, hZ2⟩, h1, h3⟩ : CtB w ab bb [.bool l, .slice p a b, .slice kx c d, .slice q r s] [.bool l', .slice p' a' b', .slice kx' c' d', .slice q' r' s'] wx ∧ (blkN wx (w.heap.size + 1) zeroC ∧ blkN wx (w.heap.size + 1 + 1) zeroC) ∧ ndO (w.heap.size + 3) A (vals 1) wx ∧ byO (w.heap.size + 3) K (vals 3) wx := hs
          refine gives_by rfl act.eval rfl ?_
          generalize act.eval = ρ at *
          intro hf hc
          go_simp
          refine (ndClone_any wx _ B (HVB.out.below hC.below) hfb).mono ?_
          rintro e w' ⟨u, he, hn, hb'⟩
          have ho : Only (fun _ => False) wx w' := Only.of_below _ hb'
          obtain ⟨pa3, np3, pc3, ka3, nk3, kc3, ca3, nc3, cc3, rfl⟩ := hn.form
          exact ⟨_, he, (⟨hC.only ho (fun _ h => h.elim) (fun h => h) (fun h => h), ⟨hZ1.only ho (fun h => h), hZ2.only ho (fun h => h)⟩, h1.only ho (fun _ h => h.elim), h3.only ho (fun _ h => h.elim), ⟨_, _, _, _, _, _, _, _, _, _, rfl, hn.le hC.size⟩⟩ : CtB w ab bb [.bool l, .slice p a b, .slice kx c d, .slice q r s] [.bool l', .slice p' a' b', .slice kx' c' d', .slice q' r' s'] w' ∧ (blkN w' (w.heap.size + 1) zeroC ∧ blkN w' (w.heap.size + 1 + 1) zeroC) ∧ ndO (w.heap.size + 3) A (vals 1) w' ∧ byO (w.heap.size + 3) K (vals 3) w' ∧ ndO (w.heap.size + 3) B (.agg #[.bool B.lf, .slice pa3 np3 pc3, .slice ka3 nk3 kc3, .slice ca3 nc3 cc3]) w')⟩
        · intro vals act wx h hs
          have e2 : act.eval (.tmp 2) = .pointer (some ⟨w.heap.size + 1, 0, none⟩) := h.old 2 (by kernel_rfl)
          have e33 : act.eval (.tmp 33) = vals 1 := h.val 1 33 (by kernel_rfl)
          clear h
          obtain ⟨hC, ⟨hZ1, hZ2⟩, h1, h3, h5⟩ : CtB w ab bb [.bool l, .slice p a b, .slice kx c d, .slice q r s] [.bool l', .slice p' a' b', .slice kx' c' d', .slice q' r' s'] wx ∧ (blkN wx (w.heap.size + 1) zeroC ∧ blkN wx (w.heap.size + 1 + 1) zeroC) ∧ ndO (w.heap.size + 3) A (vals 1) wx ∧ byO (w.heap.size + 3) K (vals 3) wx ∧ ndO (w.heap.size + 3) B (vals 5) wx := hs
          obtain ⟨l9, pa9, np9, pc9, ka9, nk9, kc9, ca9, nc9, cc9, hv9, hn9⟩ := h1
          rw [hv9] at e33
          obtain ⟨⟨d0, d1, d2, d3⟩, f0, f1, f2, f3⟩ := node_cells hZ1
          have ho := laidN_only wx (w.heap.size + 1) (.bool l9) (.slice pa9 np9 pc9) (.slice ka9 nk9 kc9) (.slice ca9 nc9 cc9)
          have hfin : CtB w ab bb [.bool l, .slice p a b, .slice kx c d, .slice q r s] [.bool l', .slice p' a' b', .slice kx' c' d', .slice q' r' s'] (laidN wx (w.heap.size + 1) (.bool l9) (.slice pa9 np9 pc9) (.slice ka9 nk9 kc9) (.slice ca9 nc9 cc9)) ∧ (ndS (w.heap.size + 3) (w.heap.size + 1) A (laidN wx (w.heap.size + 1) (.bool l9) (.slice pa9 np9 pc9) (.slice ka9 nk9 kc9) (.slice ca9 nc9 cc9)) ∧ blkN (laidN wx (w.heap.size + 1) (.bool l9) (.slice pa9 np9 pc9) (.slice ka9 nk9 kc9) (.slice ca9 nc9 cc9)) (w.heap.size + 1 + 1) zeroC) ∧ byO (w.heap.size + 3) K (vals 3) (laidN wx (w.heap.size + 1) (.bool l9) (.slice pa9 np9 pc9) (.slice ka9 nk9 kc9) (.slice ca9 nc9 cc9)) ∧ ndO (w.heap.size + 3) B (vals 5) (laidN wx (w.heap.size + 1) (.bool l9) (.slice pa9 np9 pc9) (.slice ka9 nk9 kc9) (.slice ca9 nc9 cc9)) := ⟨hC.only ho (fun j hj => by omega) (by omega) (by omega), ⟨⟨_, _, _, _, _, _, _, _, _, _, laidN_blk hZ1 _ _ _ _, hn9.only ho (fun j hj => by omega)⟩, hZ2.only ho (by omega)⟩, h3.only ho (fun j hj => by omega), h5.only ho (fun j hj => by omega)⟩
          clear hC hZ1 hZ2 hv9 hn9 h3 h5
          refine gives_by rfl act.eval rfl ?_
          generalize act.eval = ρ at *
          intro hf hc
          go_simp
          exact hfin
        · intro vals act wx h hs
          have e35 : act.eval (.tmp 35) = vals 3 := h.val 3 35 (by kernel_rfl)
          clear h
          obtain ⟨hC, hZ, h3, h5⟩ : CtB w ab bb [.bool l, .slice p a b, .slice kx c d, .slice q r s] [.bool l', .slice p' a' b', .slice kx' c' d', .slice q' r' s'] wx ∧ (ndS (w.heap.size + 3) (w.heap.size + 1) A wx ∧ blkN wx (w.heap.size + 1 + 1) zeroC) ∧ byO (w.heap.size + 3) K (vals 3) wx ∧ ndO (w.heap.size + 3) B (vals 5) wx := hs
          obtain ⟨ua, un, uc, hu, h3'⟩ := h3
          rw [hu] at e35
          refine gives_by rfl act.eval rfl ?_
          generalize act.eval = ρ at *
          intro hf hc
          go_simp
          exact (⟨hC, hZ, ⟨ua, un, uc, rfl, h3'⟩, h5⟩ : CtB w ab bb [.bool l, .slice p a b, .slice kx c d, .slice q r s] [.bool l', .slice p' a' b', .slice kx' c' d', .slice q' r' s'] wx ∧ (ndS (w.heap.size + 3) (w.heap.size + 1) A wx ∧ blkN wx (w.heap.size + 1 + 1) zeroC) ∧ byO (w.heap.size + 3) K (.slice ua un uc) wx ∧ ndO (w.heap.size + 3) B (vals 5) wx)
        · intro vals act wx h hs
          have e4 : act.eval (.tmp 4) = .pointer (some ⟨w.heap.size + 1 + 1, 0, none⟩) := h.old 4 (by kernel_rfl)
          have e37 : act.eval (.tmp 37) = vals 5 := h.val 5 37 (by kernel_rfl)
          clear h
          obtain ⟨hC, ⟨hS1, hZ2⟩, h3, h5⟩ : CtB w ab bb [.bool l, .slice p a b, .slice kx c d, .slice q r s] [.bool l', .slice p' a' b', .slice kx' c' d', .slice q' r' s'] wx ∧ (ndS (w.heap.size + 3) (w.heap.size + 1) A wx ∧ blkN wx (w.heap.size + 1 + 1) zeroC) ∧ byO (w.heap.size + 3) K (vals 7) wx ∧ ndO (w.heap.size + 3) B (vals 5) wx := hs
          obtain ⟨l9, pa9, np9, pc9, ka9, nk9, kc9, ca9, nc9, cc9, hv9, hn9⟩ := h5
          rw [hv9] at e37
          obtain ⟨⟨d0, d1, d2, d3⟩, f0, f1, f2, f3⟩ := node_cells hZ2
          have ho := laidN_only wx (w.heap.size + 1 + 1) (.bool l9) (.slice pa9 np9 pc9) (.slice ka9 nk9 kc9) (.slice ca9 nc9 cc9)
          have hfin : CtB w ab bb [.bool l, .slice p a b, .slice kx c d, .slice q r s] [.bool l', .slice p' a' b', .slice kx' c' d', .slice q' r' s'] (laidN wx (w.heap.size + 1 + 1) (.bool l9) (.slice pa9 np9 pc9) (.slice ka9 nk9 kc9) (.slice ca9 nc9 cc9)) ∧ (ndS (w.heap.size + 3) (w.heap.size + 1) A (laidN wx (w.heap.size + 1 + 1) (.bool l9) (.slice pa9 np9 pc9) (.slice ka9 nk9 kc9) (.slice ca9 nc9 cc9)) ∧ ndS (w.heap.size + 3) (w.heap.size + 1 + 1) B (laidN wx (w.heap.size + 1 + 1) (.bool l9) (.slice pa9 np9 pc9) (.slice ka9 nk9 kc9) (.slice ca9 nc9 cc9))) ∧ byO (w.heap.size + 3) K (vals 7) (laidN wx (w.heap.size + 1 + 1) (.bool l9) (.slice pa9 np9 pc9) (.slice ka9 nk9 kc9) (.slice ca9 nc9 cc9)) := ⟨hC.only ho (fun j hj => by omega) (by omega) (by omega), ⟨hS1.only ho (fun j hj => by omega) (by omega), ⟨_, _, _, _, _, _, _, _, _, _, laidN_blk hZ2 _ _ _ _, hn9.only ho (fun j hj => by omega)⟩⟩, h3.only ho (fun j hj => by omega)⟩
          clear hC hZ2 hv9 hn9 h3 hS1
          refine gives_by rfl act.eval rfl ?_
          generalize act.eval = ρ at *
          intro hf hc
          go_simp
          exact hfin
        · intro vals act wx h hs
          clear h
          obtain ⟨hC, hZ, h3⟩ : CtB w ab bb [.bool l, .slice p a b, .slice kx c d, .slice q r s] [.bool l', .slice p' a' b', .slice kx' c' d', .slice q' r' s'] wx ∧ (ndS (w.heap.size + 3) (w.heap.size + 1) A wx ∧ ndS (w.heap.size + 3) (w.heap.size + 1 + 1) B wx) ∧ byO (w.heap.size + 3) K (vals 7) wx := hs
          refine gives_by rfl act.eval rfl ?_
          generalize act.eval = ρ at *
          intro hf hc
          go_simp
          exact (⟨hC, hZ, h3, rfl⟩ : CtB w ab bb [.bool l, .slice p a b, .slice kx c d, .slice q r s] [.bool l', .slice p' a' b', .slice kx' c' d', .slice q' r' s'] wx ∧ (ndS (w.heap.size + 3) (w.heap.size + 1) A wx ∧ ndS (w.heap.size + 3) (w.heap.size + 1 + 1) B wx) ∧ byO (w.heap.size + 3) K (vals 7) wx ∧ (.int .i64 0 : Value) = .int .i64 0)
      · intro vals w' hq hs
        obtain ⟨hC, ⟨hS1, hS2⟩, h7, h9⟩ : CtB w ab bb [.bool l, .slice p a b, .slice kx c d, .slice q r s] [.bool l', .slice p' a' b', .slice kx' c' d', .slice q' r' s'] w' ∧ (ndS (w.heap.size + 3) (w.heap.size + 1) A w' ∧ ndS (w.heap.size + 3) (w.heap.size + 1 + 1) B w') ∧ byO (w.heap.size + 3) K (vals 7) w' ∧ (vals 9) = .int .i64 0 := hs
        obtain ⟨ua, un, uc, hu, h7'⟩ := h7
        obtain ⟨l9, pa9, np9, pc9, ka9, nk9, kc9, ca9, nc9, cc9, hB1, hN1⟩ := hS1
        obtain ⟨l8, pa8, np8, pc8, ka8, nk8, kc8, ca8, nc8, cc8, hB2, hN2⟩ := hS2
        have HB1 := hide hB1
        have HB2 := hide hB2
        have HN1 := hide hN1
        have HN2 := hide hN2
        have HO7 := hide h7'
        have HCC := hide hC
        clear hq hC hB1 hB2 hN1 hN2 h7'
        simp only [putAll, Act.put, List.setIfInBounds_toArray, List.set_cons_zero, List.set_cons_succ, Nat.zero_add, Nat.reduceAdd, hu, h9]
        (try go_wp2)
        (try simp only [Exit.inBlock, Exit.then])
        refine bodyPost_ret (ret_node4 rfl _ _ (w.heap.size + 1) (w.heap.size + 1 + 1) _ _ _ _ _ _ _ _ _ _ rfl rfl rfl rfl HB1.out HB2.out) rfl ?_
        exact ⟨_, ua, un, uc, _, rfl, HN1.out.le (by omega), sl_of_own_len HO7.out HSK.out.bytes, HN2.out.le (by omega), HCC.out.below⟩
    · rw [if_neg h0] at HEE
      rw [HEE.out] at HAA HBB HKK ⊢
      rw [if_neg (by omega)] at HAA HBB HKK
      rw [HAA.out, HBB.out, HKK.out]
      rw [decide_eq_false h0] at HMI1
      clear HMI HHA HCL HEE HAA HBB HKK hm
      go_enter Try.func41, Try.ntmps41
      go_wp2_with (first
        | (go_at_call 49; refine (HM.out w1 HX1.out.1).mono ?_; rintro e w0 ⟨rfl, hb2⟩; have HX0 := hide (HKP.out HX1.out hb2); clear z0 z1 z2 z3; obtain ⟨⟨z0, z1, z2, z3⟩, _⟩ := node_cells HX0.out.2.1; clear HM hb2)
        | (go_at_call 80; refine (HMI1.out w0 HX0.out.1).mono ?_; rintro e w2 ⟨rfl, hb2⟩; have HX2 := hide (HKP.out HX0.out hb2); obtain ⟨⟨d0, d1, d2, d3⟩, k0, k1, k2, k3⟩ := node_cells HX2.out.2.2.1; have hb4 := HX2.out.2.2.2.only (laidN_only w2 (w.heap.size + 1) (.bool false) (.slice none 0 0) (.slice none 0 0) (.slice none 0 0)) (by omega); obtain ⟨⟨g0, g1, g2, g3⟩, q0, q1, q2, q3⟩ := node_cells hb4; unfold laidN at g0 g1 g2 g3 q0 q1 q2 q3; have HB4 := hide hb4; clear HMI1 hb2 hb4))
      (try simp only [Exit.inBlock, Exit.then])
      have h3 := laidN_blk HB4.out (.bool false) (.slice none 0 0) (.slice none 0 0) (.slice none 0 0)
      have o1 := laidN_only w2 (w.heap.size + 1) (.bool false) (.slice none 0 0) (.slice none 0 0) (.slice none 0 0)
      have o2 := laidN_only (laidN w2 (w.heap.size + 1) (.bool false) (.slice none 0 0) (.slice none 0 0) (.slice none 0 0)) (w.heap.size + 1 + 1) (.bool false) (.slice none 0 0) (.slice none 0 0) (.slice none 0 0)
      have h2 := (laidN_blk HX2.out.2.2.1 (.bool false) (.slice none 0 0) (.slice none 0 0) (.slice none 0 0)).only o2 (by omega)
      refine bodyPost_ret (ret_node4 rfl _ _ (w.heap.size + 1) (w.heap.size + 1 + 1) _ _ _ _ _ _ _ _ _ _ rfl rfl rfl rfl h2 h3) rfl ?_
      exact ⟨_, none, 0, 0, _, rfl, NdN.none _ _, Sl.nil _, NdN.none _ _, (HX2.out.1.trans (o1.below HX2.out.1.size (fun j hj e => by omega))).trans (o2.below (by have := HX2.out.1.size; have := o1.size; omega) (fun j hj e => by omega))⟩

end Go.Proofs.Ythnppkeifhnceaa
