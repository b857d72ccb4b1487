/- Contract: package node's halves. -/
import Derived.Test.YthnppkeifhnceabNGv
import Derived.Test.YthnppkeifhnceabNSlc
import Derived.Test.YthnppkeifhnceabNCheck
import Derived.Test.YthnppkeifhnceabRegionC
namespace Go.Proofs.Ythnppkeifhnceab
set_option maxRecDepth 20000
open Go.RowKit Go.Shelf
set_option linter.unusedVariables false
set_option linter.unusedSimpArgs false
set_option maxRecDepth 100000
attribute [local go_sem] Oper.semAt_some

def halfA (n : Nd) (i : Nat) : Nd := if n.lf then ⟨true, n.ps.take i, [], []⟩ else ⟨false, [], n.ks.take i, n.cs.take (i + 1)⟩
def halfB (n : Nd) (i : Nat) : Nd := if n.lf then ⟨true, n.ps.drop i, [], []⟩ else ⟨false, [], n.ks.drop (i + 1), n.cs.drop (i + 1)⟩
def halfK (n : Nd) (i : Nat) : List Int := if n.lf then (n.ps.getD i ([], [])).1 else n.ks.getD i []

theorem results3 {fn : Func} {p u q : Tmp} {ty : TypeId} (h : fn.results = #[.cell p ty, .tmp u, .cell q ty]) (tmps : Array Value) (P : Program) (w : World) :
    (results fn tmps).run P w = ((asAddr (tmps.getD p undef)).run P w).andThen fun a w₁ => ((loadVar ty a).run P w₁).andThen fun v w₂ => ((asAddr (tmps.getD q undef)).run P w₂).andThen fun a' w₃ => ((loadVar ty a').run P w₃).andThen fun v' w₄ => .ok (.tuple #[v, tmps.getD u undef, v']) w₄ := by
  simp only [results, h]
  simp [Sem.run_bind, Result.andThen]
theorem ret_node3 {fn : Func} {p u q : Tmp} (h : fn.results = #[.cell p 26, .tmp u, .cell q 26]) (tmps : Array Value) (w : World) (b d : Nat) (x0 x1 x2 x3 y0 y1 y2 y3 k : Value) (hp : tmps.getD p undef = .pointer (some ⟨b, 0, none⟩)) (hu : tmps.getD u undef = k) (hq : tmps.getD q undef = .pointer (some ⟨d, 0, none⟩)) (hB : Blk w b 26 [x0, x1, x2, x3]) (hD : Blk w d 26 [y0, y1, y2, y3]) :
    (results fn tmps).run Try.prog w = .ok (.tuple #[.agg #[x0, x1, x2, x3], k, .agg #[y0, y1, y2, y3]]) w := by
  rw [results3 h, hp, hu, hq]
  simp only [asAddr, Sem.run_pure, Result.andThen_ok]
  rw [load_node w b x0 x1 x2 x3 hB]
  simp only [Result.andThen_ok]
  rw [load_node w d y0 y1 y2 y3 hD]
  rfl

/-- two results are stored, one behind the other -/
def TwS (F : World → Prop) (b1 b2 : Nat) (V1 V2 : List Value) : Nat → (Nat → Value) → World → Prop := fun i vals W => match i with
  | 0 => F W ∧ Blk W b1 26 zeroC ∧ Blk W b2 26 zeroC
  | 1 => F W ∧ Blk W b1 26 V1 ∧ Blk W b2 26 zeroC
  | _ => F W ∧ Blk W b1 26 V1 ∧ Blk W b2 26 V2
theorem TwS.f {F : World → Prop} {b1 b2 : Nat} {V1 V2 : List Value} {i : Nat} {vals : Nat → Value} {W : World} (h : TwS F b1 b2 V1 V2 i vals W) : F W := by
  match i, h with
  | 0, h => exact h.1
  | 1, h => exact h.1
  | _ + 2, h => exact h.1
/-- a node is boxed -/
def AsS (F : World → Prop) (B : Nat) (V : List Value) (op : Nat) : Nat → (Nat → Value) → World → Prop := fun i vals W => match i with
  | 0 => F W ∧ B ≤ W.heap.size
  | 1 => F W ∧ ∃ g, vals op = .pointer (some ⟨g, 0, none⟩) ∧ B ≤ g ∧ Blk W g 26 zeroC
  | _ => F W ∧ ∃ g, vals op = .pointer (some ⟨g, 0, none⟩) ∧ B ≤ g ∧ Blk W g 26 V
theorem AsS.f {F : World → Prop} {B : Nat} {V : List Value} {op i : Nat} {vals : Nat → Value} {W : World} (h : AsS F B V op i vals W) : F W := by
  match i, h with
  | 0, h => exact h.1
  | 1, h => exact h.1
  | _ + 2, h => exact h.1

/-- what holds in halves throughout -/
structure Hf (w : World) (nd : List Value) (W : World) : Prop where
  below : Below w.heap.size w W
  box : Blk W w.heap.size 26 nd
  size : w.heap.size + 3 ≤ W.heap.size
theorem Hf.only {w : World} {nd : List Value} {W W' : World} {S : Nat → Prop} (h : Hf w nd W) (ho : Only S W W') (hS : ∀ j, S j → w.heap.size < j) : Hf w nd W' :=
  ⟨h.below.trans (ho.below h.below.size (fun j hj hs => by have := hS j hs; omega)), h.box.only ho (fun hs => by have := hS _ hs; omega), Nat.le_trans h.size ho.size⟩

set_option maxHeartbeats 8000000 in
theorem halves_any (w0 w : World) (hb0 : Below w0.heap.size w0 w) (v : Value) (n : Nd) (h : NdV w0 v n) (i : Nat) (h0 : 0 < i) (hl : n.lf = true → i < n.ps.length ∧ n.ps.length ≤ 1000) (hi : n.lf = false → i + 1 < n.ks.length ∧ n.cs.length = n.ks.length + 1 ∧ n.ks.length ≤ 1000) :
    Calls Try.prog 27 #[v, .int .i64 (i : Int)] w fun e w' => ∃ u1 k1 k2 k3 u2, e = .returned (.tuple #[u1, .slice k1 k2 k3, u2]) ∧ NdV w0 u1 (halfA n i) ∧ Sl w0 (.slice k1 k2 k3) (halfK n i) ∧ NdV w0 u2 (halfB n i) ∧ Below w.heap.size w w' := by
  have HHA : Hid (halfA n i = if n.lf then ⟨true, n.ps.take i, [], []⟩ else ⟨false, [], n.ks.take i, n.cs.take (i + 1)⟩) := rfl
  have HHB : Hid (halfB n i = if n.lf then ⟨true, n.ps.drop i, [], []⟩ else ⟨false, [], n.ks.drop (i + 1), n.cs.drop (i + 1)⟩) := rfl
  have HHK : Hid (halfK n i = if n.lf then (n.ps.getD i ([], [])).1 else n.ks.getD i []) := rfl
  obtain ⟨pa, pc, ka, kc, ca, cc, xs, ys, rfl, hp1, hk1, hc1, hp2, hk2, hc2, hP, hK, hC⟩ := h.open
  have hza : ∀ wx : World, (zeroValue 26).run Try.prog wx = .ok (.agg #[.bool false, .slice none 0 0, .slice none 0 0, .slice none 0 0]) wx := fun wx => by kernel_rfl
  unfold ndv
  have hA0 := fun (v0 v1 v2 v3 : Value) => ((Blk.new w 26 [v0, v1, v2, v3]).alloc (.cells #[.bool false, .slice none 0 0, .slice none 0 0, .slice none 0 0] 26)).alloc (.cells #[.bool false, .slice none 0 0, .slice none 0 0, .slice none 0 0] 26)
  cases hlf : n.lf with
  | true =>
    obtain ⟨hin, hpl⟩ := hl hlf
    rw [hlf] at HHA HHB HHK
    simp only [if_true] at HHA HHB HHK
    obtain ⟨b, off, rfl, hrg, hsk, -⟩ := hP.at i hin
    have HPA := hide (hP.take i i (by omega) (Nat.le_refl _) (by unfold maxLen; omega))
    have HPB := hide (hP.drop i (by omega))
    obtain ⟨x1, hx1⟩ : ∃ x, x = (xs.getD i nil2).1 := ⟨_, rfl⟩
    rw [← hx1] at hsk
    obtain ⟨k1, k2, k3, hkf⟩ := sl_form hsk
    rw [hkf] at hsk
    have hcell : w0.cell? ⟨b, off + i * 2, none⟩ = some (.slice k1 k2 k3) := by rw [← hkf, hx1]; exact hrg 0 _ rfl
    obtain ⟨np, hnp⟩ : ∃ m, n.ps.length = m := ⟨_, rfl⟩
    rw [hnp] at hin hp1 hpl HPB ⊢
    generalize n.ks.length = nk at *
    generalize n.cs.length = nc at *
    obtain ⟨IT, hIT⟩ : ∃ x, x = i * 2 := ⟨_, rfl⟩
    obtain ⟨NI, hNI⟩ : ∃ x, x = np - i := ⟨_, rfl⟩
    obtain ⟨CI, hCI⟩ : ∃ x, x = pc - i := ⟨_, rfl⟩
    have hct := fun wx => cut_max (P := Try.prog) 22 45 2 Try.underlying22 sizePairE (some ⟨b, off, none⟩) np pc i i (Nat.le_refl _) (by omega) (by unfold maxLen; omega) wx
    have hcl := fun wx => cut_low (P := Try.prog) 22 45 2 Try.underlying22 sizePairE (some ⟨b, off, none⟩) np pc i (by omega) hp1 (by omega) (by unfold maxLen; omega) wx
    simp only [Option.map_some, Addr.add_mid, ← hIT, ← hNI, ← hCI] at hct hcl
    simp only [Option.map_some, Addr.add_mid, ← hIT, ← hNI, ← hCI] at HPB
    rw [← hIT] at hcell
    have hii : (i : Int) < (np : Int) := by omega
    have HSK := hide hsk
    have HCE := hide hcell
    obtain ⟨W, hW⟩ : ∃ W, W = ((((w.alloc (.cells #[.bool true, .slice (some ⟨b, off, none⟩) np pc, .slice ka nk kc, .slice ca nc cc] 26)).alloc (.cells #[.bool false, .slice none 0 0, .slice none 0 0, .slice none 0 0] 26)).alloc (.cells #[.bool false, .slice none 0 0, .slice none 0 0, .slice none 0 0] 26)).alloc (.cells #[(.bool true), (.slice (some ⟨b, off, none⟩) i i), (.slice none 0 0), (.slice none 0 0)] 26)).alloc (.cells #[(.bool true), (.slice (some ⟨b, off + IT, none⟩) NI CI), (.slice none 0 0), (.slice none 0 0)] 26) := ⟨_, rfl⟩
    have HF0 : Hid (Hf w [.bool true, .slice (some ⟨b, off, none⟩) np pc, .slice ka nk kc, .slice ca nc cc] W) := by
      rw [hW]
      exact ⟨(((((Below.refl _ w).alloc (Nat.le_refl _) _).alloc (by simp) _).alloc (by simp <;> omega) _).alloc (by simp <;> omega) _).alloc (by simp <;> omega) _, ((hA0 _ _ _ _).alloc _).alloc _, by simp <;> omega⟩
    have HA1 : Hid (Blk W (w.heap.size + 1 + 1 + 1) 26 [(.bool true), (.slice (some ⟨b, off, none⟩) i i), (.slice none 0 0), (.slice none 0 0)]) := by
      rw [hW]
      have := (Blk.new (((w.alloc (.cells #[.bool true, .slice (some ⟨b, off, none⟩) np pc, .slice ka nk kc, .slice ca nc cc] 26)).alloc (.cells #[.bool false, .slice none 0 0, .slice none 0 0, .slice none 0 0] 26)).alloc (.cells #[.bool false, .slice none 0 0, .slice none 0 0, .slice none 0 0] 26)) 26 [(.bool true), (.slice (some ⟨b, off, none⟩) i i), (.slice none 0 0), (.slice none 0 0)]).alloc (.cells #[(.bool true), (.slice (some ⟨b, off + IT, none⟩) NI CI), (.slice none 0 0), (.slice none 0 0)] 26)
      rw [World.size_alloc, World.size_alloc, World.size_alloc] at this
      exact this
    have HA2 : Hid (Blk W (w.heap.size + 1 + 1 + 1 + 1) 26 [(.bool true), (.slice (some ⟨b, off + IT, none⟩) NI CI), (.slice none 0 0), (.slice none 0 0)]) := by
      rw [hW]
      have := Blk.new ((((w.alloc (.cells #[.bool true, .slice (some ⟨b, off, none⟩) np pc, .slice ka nk kc, .slice ca nc cc] 26)).alloc (.cells #[.bool false, .slice none 0 0, .slice none 0 0, .slice none 0 0] 26)).alloc (.cells #[.bool false, .slice none 0 0, .slice none 0 0, .slice none 0 0] 26)).alloc (.cells #[(.bool true), (.slice (some ⟨b, off, none⟩) i i), (.slice none 0 0), (.slice none 0 0)] 26)) 26 [(.bool true), (.slice (some ⟨b, off + IT, none⟩) NI CI), (.slice none 0 0), (.slice none 0 0)]
      rw [World.size_alloc, World.size_alloc, World.size_alloc, World.size_alloc] at this
      exact this
    have HZ1 : Hid (Blk W (w.heap.size + 1) 26 zeroC) := by
      rw [hW]
      have := (((Blk.new (w.alloc (.cells #[.bool true, .slice (some ⟨b, off, none⟩) np pc, .slice ka nk kc, .slice ca nc cc] 26)) 26 zeroC).alloc (.cells #[.bool false, .slice none 0 0, .slice none 0 0, .slice none 0 0] 26)).alloc (.cells #[(.bool true), (.slice (some ⟨b, off, none⟩) i i), (.slice none 0 0), (.slice none 0 0)] 26)).alloc (.cells #[(.bool true), (.slice (some ⟨b, off + IT, none⟩) NI CI), (.slice none 0 0), (.slice none 0 0)] 26)
      rw [World.size_alloc] at this
      exact this
    have HZ2 : Hid (Blk W (w.heap.size + 1 + 1) 26 zeroC) := by
      rw [hW]
      have := ((Blk.new ((w.alloc (.cells #[.bool true, .slice (some ⟨b, off, none⟩) np pc, .slice ka nk kc, .slice ca nc cc] 26)).alloc (.cells #[.bool false, .slice none 0 0, .slice none 0 0, .slice none 0 0] 26)) 26 zeroC).alloc (.cells #[(.bool true), (.slice (some ⟨b, off, none⟩) i i), (.slice none 0 0), (.slice none 0 0)] 26)).alloc (.cells #[(.bool true), (.slice (some ⟨b, off + IT, none⟩) NI CI), (.slice none 0 0), (.slice none 0 0)] 26)
      rw [World.size_alloc, World.size_alloc] at this
      exact this
    have HW := hide hW
    have HIT := hide hIT
    clear hP hK hC h hA0 hrg hsk hcell hW hx1 hkf hl hi hIT hNI hCI
    go_enter Try.func27, Try.ntmps27
    go_wp2
    rw [← HW.out]
    have HCX : Hid (∀ wx, Below w.heap.size w wx → wx.cell? ⟨b, off + i * 2, none⟩ = some (.slice k1 k2 k3)) := fun wx hb => by
      have := HCE.out
      rw [HIT.out] at this
      rw [World.cell?_of_block (w := w0) ((hb0.trans (hb.mono hb0.size)).block b (World.block_lt_of_cell? w0 _ this))]
      exact this
    refine wp_region_chain [some (.agg #[(.bool true), (.slice (some ⟨b, off, none⟩) i i), (.slice none 0 0), (.slice none 0 0)]), some (.pointer (some ⟨w.heap.size, 1, none⟩)), some (.slice (some ⟨b, off, none⟩) np pc), some (.int .i64 (i : Int)), some (.pointer (some ⟨b, off + i * 2, none⟩)), some (.pointer (some ⟨b, off + i * 2, none⟩)), some (.slice k1 k2 k3), some (.agg #[(.bool true), (.slice (some ⟨b, off + IT, none⟩) NI CI), (.slice none 0 0), (.slice none 0 0)]), none, some (.slice k1 k2 k3), none] [8, 10] (TwS (fun W => Hf w [.bool true, .slice (some ⟨b, off, none⟩) np pc, .slice ka nk kc, .slice ca nc cc] W ∧ Blk W (w.heap.size + 1 + 1 + 1) 26 [(.bool true), (.slice (some ⟨b, off, none⟩) i i), (.slice none 0 0), (.slice none 0 0)] ∧ Blk W (w.heap.size + 1 + 1 + 1 + 1) 26 [(.bool true), (.slice (some ⟨b, off + IT, none⟩) NI CI), (.slice none 0 0), (.slice none 0 0)]) (w.heap.size + 1) (w.heap.size + 1 + 1) [(.bool true), (.slice (some ⟨b, off, none⟩) i i), (.slice none 0 0), (.slice none 0 0)] [(.bool true), (.slice (some ⟨b, off + IT, none⟩) NI CI), (.slice none 0 0), (.slice none 0 0)]) 63 (by kernel_rfl) (by kernel_rfl) (by kernel_rfl) (by kernel_rfl) rfl ?_ ?_ ?_
    · intro vals0
      have ho := (Only.refl (fun _ => False) W).drew
      exact (⟨⟨HF0.out.only ho (fun _ h => h.elim), HA1.out.only ho (fun h => h), HA2.out.only ho (fun h => h)⟩, HZ1.out.only ho (fun h => h), HZ2.out.only ho (fun h => h)⟩ : (fun W => Hf w [.bool true, .slice (some ⟨b, off, none⟩) np pc, .slice ka nk kc, .slice ca nc cc] W ∧ Blk W (w.heap.size + 1 + 1 + 1) 26 [(.bool true), (.slice (some ⟨b, off, none⟩) i i), (.slice none 0 0), (.slice none 0 0)] ∧ Blk W (w.heap.size + 1 + 1 + 1 + 1) 26 [(.bool true), (.slice (some ⟨b, off + IT, none⟩) NI CI), (.slice none 0 0), (.slice none 0 0)]) W.drew ∧ Blk W.drew (w.heap.size + 1) 26 zeroC ∧ Blk W.drew (w.heap.size + 1 + 1) 26 zeroC)
    · refine ⟨?_, ?_, ?_, ?_, ?_, ?_, ?_, ?_, ?_, ?_, ?_, trivial⟩
      · intro k vals act wx hk h hs
        have e7 : act.eval (.tmp 7) = .pointer (some ⟨w.heap.size + 1 + 1 + 1, 0, none⟩) := h.old 7 (by kernel_rfl)
        clear h
        have hF : (fun W => Hf w [.bool true, .slice (some ⟨b, off, none⟩) np pc, .slice ka nk kc, .slice ca nc cc] W ∧ Blk W (w.heap.size + 1 + 1 + 1) 26 [(.bool true), (.slice (some ⟨b, off, none⟩) i i), (.slice none 0 0), (.slice none 0 0)] ∧ Blk W (w.heap.size + 1 + 1 + 1 + 1) 26 [(.bool true), (.slice (some ⟨b, off + IT, none⟩) NI CI), (.slice none 0 0), (.slice none 0 0)]) wx := TwS.f hs
        obtain ⟨⟨x0, x1', x2, x3⟩, _⟩ := node_cells hF.2.1
        refine gives_by rfl act.eval rfl ?_
        generalize act.eval = ρ at *
        intro hf hc
        go_simp
        exact ⟨rfl, hs⟩
      · intro k vals act wx hk h hs
        have e2 : act.eval (.tmp 2) = .pointer (some ⟨w.heap.size, 0, none⟩) := h.old 2 (by kernel_rfl)
        clear h
        refine gives_by rfl act.eval rfl ?_
        generalize act.eval = ρ at *
        intro hf hc
        go_simp
        exact ⟨rfl, hs⟩
      · intro k vals act wx hk h hs
        have e25 : act.eval (.tmp 25) = .pointer (some ⟨w.heap.size, 1, none⟩) := h.q 1 25 (by kernel_rfl) rfl
        clear h
        have hF : (fun W => Hf w [.bool true, .slice (some ⟨b, off, none⟩) np pc, .slice ka nk kc, .slice ca nc cc] W ∧ Blk W (w.heap.size + 1 + 1 + 1) 26 [(.bool true), (.slice (some ⟨b, off, none⟩) i i), (.slice none 0 0), (.slice none 0 0)] ∧ Blk W (w.heap.size + 1 + 1 + 1 + 1) 26 [(.bool true), (.slice (some ⟨b, off + IT, none⟩) NI CI), (.slice none 0 0), (.slice none 0 0)]) wx := TwS.f hs
        obtain ⟨⟨x0, x1', x2, x3⟩, _⟩ := node_cells hF.1.box
        refine gives_by rfl act.eval rfl ?_
        generalize act.eval = ρ at *
        intro hf hc
        go_simp
        exact ⟨rfl, hs⟩
      · intro k vals act wx hk h hs
        have e1 : act.eval (.tmp 1) = .int .i64 (i : Int) := h.old 1 (by kernel_rfl)
        clear h
        refine gives_by rfl act.eval rfl ?_
        generalize act.eval = ρ at *
        intro hf hc
        go_simp
        exact ⟨rfl, hs⟩
      · intro k vals act wx hk h hs
        have e26 : act.eval (.tmp 26) = .slice (some ⟨b, off, none⟩) np pc := h.q 2 26 (by kernel_rfl) rfl
        have e27 : act.eval (.tmp 27) = .int .i64 (i : Int) := h.q 3 27 (by kernel_rfl) rfl
        clear h
        have hF : (fun W => Hf w [.bool true, .slice (some ⟨b, off, none⟩) np pc, .slice ka nk kc, .slice ca nc cc] W ∧ Blk W (w.heap.size + 1 + 1 + 1) 26 [(.bool true), (.slice (some ⟨b, off, none⟩) i i), (.slice none 0 0), (.slice none 0 0)] ∧ Blk W (w.heap.size + 1 + 1 + 1 + 1) 26 [(.bool true), (.slice (some ⟨b, off + IT, none⟩) NI CI), (.slice none 0 0), (.slice none 0 0)]) wx := TwS.f hs
        refine gives_by rfl act.eval rfl ?_
        generalize act.eval = ρ at *
        intro hf hc
        go_simp
        exact ⟨rfl, hs⟩
      · intro k vals act wx hk h hs
        have e28 : act.eval (.tmp 28) = .pointer (some ⟨b, off + i * 2, none⟩) := h.q 4 28 (by kernel_rfl) rfl
        clear h
        refine gives_by rfl act.eval rfl ?_
        generalize act.eval = ρ at *
        intro hf hc
        go_simp
        exact ⟨rfl, hs⟩
      · intro k vals act wx hk h hs
        have e29 : act.eval (.tmp 29) = .pointer (some ⟨b, off + i * 2, none⟩) := h.q 5 29 (by kernel_rfl) rfl
        clear h
        have hF : (fun W => Hf w [.bool true, .slice (some ⟨b, off, none⟩) np pc, .slice ka nk kc, .slice ca nc cc] W ∧ Blk W (w.heap.size + 1 + 1 + 1) 26 [(.bool true), (.slice (some ⟨b, off, none⟩) i i), (.slice none 0 0), (.slice none 0 0)] ∧ Blk W (w.heap.size + 1 + 1 + 1 + 1) 26 [(.bool true), (.slice (some ⟨b, off + IT, none⟩) NI CI), (.slice none 0 0), (.slice none 0 0)]) wx := TwS.f hs
        have cx : wx.cell? ⟨b, off + i * 2, none⟩ = some (.slice k1 k2 k3) := (HCX.out wx hF.1.below)
        refine gives_by rfl act.eval rfl ?_
        generalize act.eval = ρ at *
        intro hf hc
        go_simp
        exact ⟨rfl, hs⟩
      · intro k vals act wx hk h hs
        have e8 : act.eval (.tmp 8) = .pointer (some ⟨w.heap.size + 1 + 1 + 1 + 1, 0, none⟩) := h.old 8 (by kernel_rfl)
        clear h
        have hF : (fun W => Hf w [.bool true, .slice (some ⟨b, off, none⟩) np pc, .slice ka nk kc, .slice ca nc cc] W ∧ Blk W (w.heap.size + 1 + 1 + 1) 26 [(.bool true), (.slice (some ⟨b, off, none⟩) i i), (.slice none 0 0), (.slice none 0 0)] ∧ Blk W (w.heap.size + 1 + 1 + 1 + 1) 26 [(.bool true), (.slice (some ⟨b, off + IT, none⟩) NI CI), (.slice none 0 0), (.slice none 0 0)]) wx := TwS.f hs
        obtain ⟨⟨x0, x1', x2, x3⟩, _⟩ := node_cells hF.2.2
        refine gives_by rfl act.eval rfl ?_
        generalize act.eval = ρ at *
        intro hf hc
        go_simp
        exact ⟨rfl, hs⟩
      · intro vals act wx h hs
        have e4 : act.eval (.tmp 4) = .pointer (some ⟨w.heap.size + 1, 0, none⟩) := h.old 4 (by kernel_rfl)
        have e24 : act.eval (.tmp 24) = .agg #[(.bool true), (.slice (some ⟨b, off, none⟩) i i), (.slice none 0 0), (.slice none 0 0)] := h.q 0 24 (by kernel_rfl) rfl
        clear h
        obtain ⟨hF, hb1, hb2⟩ : (fun W => Hf w [.bool true, .slice (some ⟨b, off, none⟩) np pc, .slice ka nk kc, .slice ca nc cc] W ∧ Blk W (w.heap.size + 1 + 1 + 1) 26 [(.bool true), (.slice (some ⟨b, off, none⟩) i i), (.slice none 0 0), (.slice none 0 0)] ∧ Blk W (w.heap.size + 1 + 1 + 1 + 1) 26 [(.bool true), (.slice (some ⟨b, off + IT, none⟩) NI CI), (.slice none 0 0), (.slice none 0 0)]) wx ∧ Blk wx (w.heap.size + 1) 26 zeroC ∧ Blk wx (w.heap.size + 1 + 1) 26 zeroC := hs
        obtain ⟨⟨d0, d1, d2, d3⟩, k0, k1, k2', k3'⟩ := node_cells hb1
        have ho := laidN_only wx (w.heap.size + 1) (.bool true) (.slice (some ⟨b, off, none⟩) i i) (.slice none 0 0) (.slice none 0 0)
        have hfin : (fun W => Hf w [.bool true, .slice (some ⟨b, off, none⟩) np pc, .slice ka nk kc, .slice ca nc cc] W ∧ Blk W (w.heap.size + 1 + 1 + 1) 26 [(.bool true), (.slice (some ⟨b, off, none⟩) i i), (.slice none 0 0), (.slice none 0 0)] ∧ Blk W (w.heap.size + 1 + 1 + 1 + 1) 26 [(.bool true), (.slice (some ⟨b, off + IT, none⟩) NI CI), (.slice none 0 0), (.slice none 0 0)]) (laidN wx (w.heap.size + 1) (.bool true) (.slice (some ⟨b, off, none⟩) i i) (.slice none 0 0) (.slice none 0 0)) ∧ Blk (laidN wx (w.heap.size + 1) (.bool true) (.slice (some ⟨b, off, none⟩) i i) (.slice none 0 0) (.slice none 0 0)) (w.heap.size + 1) 26 [(.bool true), (.slice (some ⟨b, off, none⟩) i i), (.slice none 0 0), (.slice none 0 0)] ∧ Blk (laidN wx (w.heap.size + 1) (.bool true) (.slice (some ⟨b, off, none⟩) i i) (.slice none 0 0) (.slice none 0 0)) (w.heap.size + 1 + 1) 26 zeroC := ⟨⟨hF.1.only ho (fun j hj => by omega), hF.2.1.only ho (by omega), hF.2.2.only ho (by omega)⟩, laidN_blk hb1 _ _ _ _, hb2.only ho (by omega)⟩
        clear hF hb1 hb2
        refine gives_by rfl act.eval rfl ?_
        generalize act.eval = ρ at *
        intro hf hc
        go_simp
        exact hfin
      · intro k vals act wx hk h hs
        have e30 : act.eval (.tmp 30) = .slice k1 k2 k3 := h.q 6 30 (by kernel_rfl) rfl
        clear h
        refine gives_by rfl act.eval rfl ?_
        generalize act.eval = ρ at *
        intro hf hc
        go_simp
        exact ⟨rfl, hs⟩
      · intro vals act wx h hs
        have e6 : act.eval (.tmp 6) = .pointer (some ⟨w.heap.size + 1 + 1, 0, none⟩) := h.old 6 (by kernel_rfl)
        have e31 : act.eval (.tmp 31) = .agg #[(.bool true), (.slice (some ⟨b, off + IT, none⟩) NI CI), (.slice none 0 0), (.slice none 0 0)] := h.q 7 31 (by kernel_rfl) rfl
        clear h
        obtain ⟨hF, hb1, hb2⟩ : (fun W => Hf w [.bool true, .slice (some ⟨b, off, none⟩) np pc, .slice ka nk kc, .slice ca nc cc] W ∧ Blk W (w.heap.size + 1 + 1 + 1) 26 [(.bool true), (.slice (some ⟨b, off, none⟩) i i), (.slice none 0 0), (.slice none 0 0)] ∧ Blk W (w.heap.size + 1 + 1 + 1 + 1) 26 [(.bool true), (.slice (some ⟨b, off + IT, none⟩) NI CI), (.slice none 0 0), (.slice none 0 0)]) wx ∧ Blk wx (w.heap.size + 1) 26 [(.bool true), (.slice (some ⟨b, off, none⟩) i i), (.slice none 0 0), (.slice none 0 0)] ∧ Blk wx (w.heap.size + 1 + 1) 26 zeroC := hs
        obtain ⟨⟨d0, d1, d2, d3⟩, k0, k1, k2', k3'⟩ := node_cells hb2
        have ho := laidN_only wx (w.heap.size + 1 + 1) (.bool true) (.slice (some ⟨b, off + IT, none⟩) NI CI) (.slice none 0 0) (.slice none 0 0)
        have hfin : (fun W => Hf w [.bool true, .slice (some ⟨b, off, none⟩) np pc, .slice ka nk kc, .slice ca nc cc] W ∧ Blk W (w.heap.size + 1 + 1 + 1) 26 [(.bool true), (.slice (some ⟨b, off, none⟩) i i), (.slice none 0 0), (.slice none 0 0)] ∧ Blk W (w.heap.size + 1 + 1 + 1 + 1) 26 [(.bool true), (.slice (some ⟨b, off + IT, none⟩) NI CI), (.slice none 0 0), (.slice none 0 0)]) (laidN wx (w.heap.size + 1 + 1) (.bool true) (.slice (some ⟨b, off + IT, none⟩) NI CI) (.slice none 0 0) (.slice none 0 0)) ∧ Blk (laidN wx (w.heap.size + 1 + 1) (.bool true) (.slice (some ⟨b, off + IT, none⟩) NI CI) (.slice none 0 0) (.slice none 0 0)) (w.heap.size + 1) 26 [(.bool true), (.slice (some ⟨b, off, none⟩) i i), (.slice none 0 0), (.slice none 0 0)] ∧ Blk (laidN wx (w.heap.size + 1 + 1) (.bool true) (.slice (some ⟨b, off + IT, none⟩) NI CI) (.slice none 0 0) (.slice none 0 0)) (w.heap.size + 1 + 1) 26 [(.bool true), (.slice (some ⟨b, off + IT, none⟩) NI CI), (.slice none 0 0), (.slice none 0 0)] := ⟨⟨hF.1.only ho (fun j hj => by omega), hF.2.1.only ho (by omega), hF.2.2.only ho (by omega)⟩, hb1.only ho (by omega), laidN_blk hb2 _ _ _ _⟩
        clear hF hb1 hb2
        refine gives_by rfl act.eval rfl ?_
        generalize act.eval = ρ at *
        intro hf hc
        go_simp
        exact hfin
    · intro vals w' hq hs
      have h5 : vals 9 = .slice k1 k2 k3 := hq 9 _ rfl
      obtain ⟨hF, hb1, hb2⟩ : (fun W => Hf w [.bool true, .slice (some ⟨b, off, none⟩) np pc, .slice ka nk kc, .slice ca nc cc] W ∧ Blk W (w.heap.size + 1 + 1 + 1) 26 [(.bool true), (.slice (some ⟨b, off, none⟩) i i), (.slice none 0 0), (.slice none 0 0)] ∧ Blk W (w.heap.size + 1 + 1 + 1 + 1) 26 [(.bool true), (.slice (some ⟨b, off + IT, none⟩) NI CI), (.slice none 0 0), (.slice none 0 0)]) w' ∧ Blk w' (w.heap.size + 1) 26 [(.bool true), (.slice (some ⟨b, off, none⟩) i i), (.slice none 0 0), (.slice none 0 0)] ∧ Blk w' (w.heap.size + 1 + 1) 26 [(.bool true), (.slice (some ⟨b, off + IT, none⟩) NI CI), (.slice none 0 0), (.slice none 0 0)] := hs
      have HF := hide hF
      have HR1 := hide hb1
      have HR2 := hide hb2
      clear hq hF hb1 hb2
      simp only [putAll, Act.put, List.setIfInBounds_toArray, List.set_cons_zero, List.set_cons_succ, Nat.zero_add, Nat.reduceAdd, h5]
      (try go_wp2)
      (try simp only [Exit.inBlock, Exit.then])
      refine bodyPost_ret (ret_node3 rfl _ _ (w.heap.size + 1) (w.heap.size + 1 + 1) _ _ _ _ _ _ _ _ _ rfl rfl rfl HR1.out HR2.out) rfl ?_
      have hb := HF.out.1.below
      rw [HHA.out, HHB.out, HHK.out]
      exact ⟨_, k1, k2, k3, _, rfl, ⟨_, _, _, _, [], rfl, HPA.out, Bss.nil _, Is.nil' _⟩, HSK.out, ⟨_, _, _, _, [], rfl, HPB.out, Bss.nil _, Is.nil' _⟩, hb⟩
  | false =>
    obtain ⟨hin, hcn, hkl⟩ := hi hlf
    rw [hlf] at HHA HHB HHK
    simp only [Bool.false_eq_true, if_false] at HHA HHB HHK
    obtain ⟨b, off, rfl, hrg, hsk⟩ := hK.at i (by omega)
    obtain ⟨b', off', rfl, -⟩ := hC.at 0 (by omega)
    have HKA := hide (hK.take i i (by omega) (Nat.le_refl _) (by unfold maxLen; omega))
    have HKB := hide (hK.drop (i + 1) (by omega))
    have HCA := hide (hC.take (n := i + 1) (by omega) (i + 1) (Nat.le_refl _) (by unfold maxLen; omega))
    have HCB := hide (hC.drop (i + 1) (by omega))
    obtain ⟨x1, hx1⟩ : ∃ x, x = ys.getD i nilS := ⟨_, rfl⟩
    rw [← hx1] at hsk hrg
    obtain ⟨k1, k2, k3, hkf⟩ := sl_form hsk
    rw [hkf] at hsk hrg
    obtain ⟨nk, hnk⟩ : ∃ m, n.ks.length = m := ⟨_, rfl⟩
    obtain ⟨nc, hnc⟩ : ∃ m, n.cs.length = m := ⟨_, rfl⟩
    rw [hnk] at hin hk1 hkl hcn HKB ⊢
    rw [hnc] at hcn hc1 HCB ⊢
    generalize n.ps.length = np at *
    obtain ⟨I1, hI1⟩ : ∃ x, x = i + 1 := ⟨_, rfl⟩
    obtain ⟨NK, hNK⟩ : ∃ x, x = nk - I1 := ⟨_, rfl⟩
    obtain ⟨CK, hCK⟩ : ∃ x, x = kc - I1 := ⟨_, rfl⟩
    obtain ⟨NC, hNC⟩ : ∃ x, x = nc - I1 := ⟨_, rfl⟩
    obtain ⟨CC, hCC⟩ : ∃ x, x = cc - I1 := ⟨_, rfl⟩
    have ct1 := fun wx => cut_max (P := Try.prog) 23 27 1 Try.underlying23 sizeRowE (some ⟨b, off, none⟩) nk kc i i (Nat.le_refl _) (by omega) (by unfold maxLen; omega) wx
    have ct2 := fun wx => cut_max (P := Try.prog) 24 3 1 Try.underlying24 sizeIntE (some ⟨b', off', none⟩) nc cc I1 I1 (Nat.le_refl _) (by omega) (by unfold maxLen; omega) wx
    have ct3 := fun wx => cut_low (P := Try.prog) 23 27 1 Try.underlying23 sizeRowE (some ⟨b, off, none⟩) nk kc I1 (by omega) hk1 (by omega) (by unfold maxLen; omega) wx
    have ct4 := fun wx => cut_low (P := Try.prog) 24 3 1 Try.underlying24 sizeIntE (some ⟨b', off', none⟩) nc cc I1 (by omega) hc1 (by omega) (by unfold maxLen; omega) wx
    simp only [← hI1] at HKB HCA HCB HHA HHB
    simp only [Option.map_some, Addr.add_mid, Nat.mul_one, ← hNK, ← hCK, ← hNC, ← hCC] at ct3 ct4 HKB HCB
    have hii : (i : Int) < (nk : Int) := by omega
    have hI1i : (i : Int) + 1 = (I1 : Int) := by omega
    have hwI : IntKind.i64.wrap (I1 : Int) = (I1 : Int) := IntWalk.i64_in _ (by omega)
    have HSK := hide hsk
    have HCE := hide hrg
    obtain ⟨W, hW⟩ : ∃ W, W = (((w.alloc (.cells #[.bool false, .slice pa np pc, .slice (some ⟨b, off, none⟩) nk kc, .slice (some ⟨b', off', none⟩) nc cc] 26)).alloc (.cells #[.bool false, .slice none 0 0, .slice none 0 0, .slice none 0 0] 26)).alloc (.cells #[.bool false, .slice none 0 0, .slice none 0 0, .slice none 0 0] 26)) := ⟨_, rfl⟩
    have HF0 : Hid (Hf w [.bool false, .slice pa np pc, .slice (some ⟨b, off, none⟩) nk kc, .slice (some ⟨b', off', none⟩) nc cc] W) := by
      rw [hW]
      exact ⟨(((Below.refl _ w).alloc (Nat.le_refl _) _).alloc (by simp) _).alloc (by simp <;> omega) _, hA0 _ _ _ _, by simp <;> omega⟩
    have HZ1 : Hid (Blk W (w.heap.size + 1) 26 zeroC) := by
      rw [hW]
      have := (Blk.new (w.alloc (.cells #[.bool false, .slice pa np pc, .slice (some ⟨b, off, none⟩) nk kc, .slice (some ⟨b', off', none⟩) nc cc] 26)) 26 zeroC).alloc (.cells #[.bool false, .slice none 0 0, .slice none 0 0, .slice none 0 0] 26)
      rw [World.size_alloc] at this
      exact this
    have HZ2 : Hid (Blk W (w.heap.size + 1 + 1) 26 zeroC) := by
      rw [hW]
      have := Blk.new ((w.alloc (.cells #[.bool false, .slice pa np pc, .slice (some ⟨b, off, none⟩) nk kc, .slice (some ⟨b', off', none⟩) nc cc] 26)).alloc (.cells #[.bool false, .slice none 0 0, .slice none 0 0, .slice none 0 0] 26)) 26 zeroC
      rw [World.size_alloc, World.size_alloc] at this
      exact this
    have HCX : Hid (∀ wx, Below w.heap.size w wx → wx.cell? ⟨b, off + i, none⟩ = some (.slice k1 k2 k3)) := fun wx hb => by
      rw [World.cell?_of_block (w := w0) ((hb0.trans (hb.mono hb0.size)).block b (World.block_lt_of_cell? w0 _ HCE.out))]
      exact HCE.out
    have HW := hide hW
    have hIb : I1 ≤ 1001 := by omega
    clear hP hK hC h hA0 hrg hsk hW hx1 hkf hl hi hNK hCK hNC hCC hI1 hcn
    go_enter Try.func27, Try.ntmps27
    go_wp2
    rw [← HW.out]
    refine wp_region_chain [some (.pointer (some ⟨w.heap.size, 2, none⟩)), some (.slice (some ⟨b, off, none⟩) nk kc), some (.int .i64 (i : Int)), some (.int .i64 (i : Int)), some (.slice (some ⟨b, off, none⟩) i i), some (.pointer (some ⟨w.heap.size, 3, none⟩)), some (.slice (some ⟨b', off', none⟩) nc cc), some (.int .i64 (i : Int)), some (.int .i64 (I1 : Int)), some (.int .i64 (i : Int)), some (.int .i64 (I1 : Int)), some (.slice (some ⟨b', off', none⟩) I1 I1), some (.agg #[(.bool false), (.slice none 0 0), (.slice (some ⟨b, off, none⟩) i i), (.slice (some ⟨b', off', none⟩) I1 I1)]), none, none] [13, 14] (AsS (fun W => Hf w [.bool false, .slice pa np pc, .slice (some ⟨b, off, none⟩) nk kc, .slice (some ⟨b', off', none⟩) nc cc] W ∧ Blk W (w.heap.size + 1) 26 zeroC ∧ Blk W (w.heap.size + 1 + 1) 26 zeroC) (w.heap.size + 3) [(.bool false), (.slice none 0 0), (.slice (some ⟨b, off, none⟩) i i), (.slice (some ⟨b', off', none⟩) I1 I1)] 13) 63 (by kernel_rfl) (by kernel_rfl) (by kernel_rfl) (by kernel_rfl) rfl ?_ ?_ ?_
    · intro vals0
      have ho := (Only.refl (fun _ => False) W).drew
      exact (⟨⟨HF0.out.only ho (fun _ h => h.elim), HZ1.out.only ho (fun h => h), HZ2.out.only ho (fun h => h)⟩, HF0.out.size⟩ : (fun W => Hf w [.bool false, .slice pa np pc, .slice (some ⟨b, off, none⟩) nk kc, .slice (some ⟨b', off', none⟩) nc cc] W ∧ Blk W (w.heap.size + 1) 26 zeroC ∧ Blk W (w.heap.size + 1 + 1) 26 zeroC) W.drew ∧ w.heap.size + 3 ≤ W.drew.heap.size)
    · refine ⟨?_, ?_, ?_, ?_, ?_, ?_, ?_, ?_, ?_, ?_, ?_, ?_, ?_, ?_, ?_, trivial⟩
      · intro k vals act wx hk h hs
        have e2 : act.eval (.tmp 2) = .pointer (some ⟨w.heap.size, 0, none⟩) := h.old 2 (by kernel_rfl)
        clear h
        refine gives_by rfl act.eval rfl ?_
        generalize act.eval = ρ at *
        intro hf hc
        go_simp
        exact ⟨rfl, hs⟩
      · intro k vals act wx hk h hs
        have e32 : act.eval (.tmp 32) = .pointer (some ⟨w.heap.size, 2, none⟩) := h.q 0 32 (by kernel_rfl) rfl
        clear h
        have hF : (fun W => Hf w [.bool false, .slice pa np pc, .slice (some ⟨b, off, none⟩) nk kc, .slice (some ⟨b', off', none⟩) nc cc] W ∧ Blk W (w.heap.size + 1) 26 zeroC ∧ Blk W (w.heap.size + 1 + 1) 26 zeroC) wx := AsS.f hs
        obtain ⟨⟨x0, x1', x2, x3⟩, _⟩ := node_cells hF.1.box
        refine gives_by rfl act.eval rfl ?_
        generalize act.eval = ρ at *
        intro hf hc
        go_simp
        exact ⟨rfl, hs⟩
      · intro k vals act wx hk h hs
        have e1 : act.eval (.tmp 1) = .int .i64 (i : Int) := h.old 1 (by kernel_rfl)
        clear h
        refine gives_by rfl act.eval rfl ?_
        generalize act.eval = ρ at *
        intro hf hc
        go_simp
        exact ⟨rfl, hs⟩
      · intro k vals act wx hk h hs
        have e1 : act.eval (.tmp 1) = .int .i64 (i : Int) := h.old 1 (by kernel_rfl)
        clear h
        refine gives_by rfl act.eval rfl ?_
        generalize act.eval = ρ at *
        intro hf hc
        go_simp
        exact ⟨rfl, hs⟩
      · intro k vals act wx hk h hs
        have e33 : act.eval (.tmp 33) = .slice (some ⟨b, off, none⟩) nk kc := h.q 1 33 (by kernel_rfl) rfl
        have e34 : act.eval (.tmp 34) = .int .i64 (i : Int) := h.q 2 34 (by kernel_rfl) rfl
        have e35 : act.eval (.tmp 35) = .int .i64 (i : Int) := h.q 3 35 (by kernel_rfl) rfl
        clear h
        refine gives_by rfl act.eval rfl ?_
        generalize act.eval = ρ at *
        intro hf hc
        go_simp
        exact ⟨rfl, hs⟩
      · intro k vals act wx hk h hs
        have e2 : act.eval (.tmp 2) = .pointer (some ⟨w.heap.size, 0, none⟩) := h.old 2 (by kernel_rfl)
        clear h
        refine gives_by rfl act.eval rfl ?_
        generalize act.eval = ρ at *
        intro hf hc
        go_simp
        exact ⟨rfl, hs⟩
      · intro k vals act wx hk h hs
        have e37 : act.eval (.tmp 37) = .pointer (some ⟨w.heap.size, 3, none⟩) := h.q 5 37 (by kernel_rfl) rfl
        clear h
        have hF : (fun W => Hf w [.bool false, .slice pa np pc, .slice (some ⟨b, off, none⟩) nk kc, .slice (some ⟨b', off', none⟩) nc cc] W ∧ Blk W (w.heap.size + 1) 26 zeroC ∧ Blk W (w.heap.size + 1 + 1) 26 zeroC) wx := AsS.f hs
        obtain ⟨⟨x0, x1', x2, x3⟩, _⟩ := node_cells hF.1.box
        refine gives_by rfl act.eval rfl ?_
        generalize act.eval = ρ at *
        intro hf hc
        go_simp
        exact ⟨rfl, hs⟩
      · intro k vals act wx hk h hs
        have e1 : act.eval (.tmp 1) = .int .i64 (i : Int) := h.old 1 (by kernel_rfl)
        clear h
        refine gives_by rfl act.eval rfl ?_
        generalize act.eval = ρ at *
        intro hf hc
        go_simp
        exact ⟨rfl, hs⟩
      · intro k vals act wx hk h hs
        have e39 : act.eval (.tmp 39) = .int .i64 (i : Int) := h.q 7 39 (by kernel_rfl) rfl
        clear h
        refine gives_by rfl act.eval rfl ?_
        generalize act.eval = ρ at *
        intro hf hc
        go_simp
        exact ⟨rfl, hs⟩
      · intro k vals act wx hk h hs
        have e1 : act.eval (.tmp 1) = .int .i64 (i : Int) := h.old 1 (by kernel_rfl)
        clear h
        refine gives_by rfl act.eval rfl ?_
        generalize act.eval = ρ at *
        intro hf hc
        go_simp
        exact ⟨rfl, hs⟩
      · intro k vals act wx hk h hs
        have e41 : act.eval (.tmp 41) = .int .i64 (i : Int) := h.q 9 41 (by kernel_rfl) rfl
        clear h
        refine gives_by rfl act.eval rfl ?_
        generalize act.eval = ρ at *
        intro hf hc
        go_simp
        exact ⟨rfl, hs⟩
      · intro k vals act wx hk h hs
        have e38 : act.eval (.tmp 38) = .slice (some ⟨b', off', none⟩) nc cc := h.q 6 38 (by kernel_rfl) rfl
        have e40 : act.eval (.tmp 40) = .int .i64 (I1 : Int) := h.q 8 40 (by kernel_rfl) rfl
        have e42 : act.eval (.tmp 42) = .int .i64 (I1 : Int) := h.q 10 42 (by kernel_rfl) rfl
        clear h
        refine gives_by rfl act.eval rfl ?_
        generalize act.eval = ρ at *
        intro hf hc
        go_simp
        exact ⟨rfl, hs⟩
      · intro k vals act wx hk h hs
        have e36 : act.eval (.tmp 36) = .slice (some ⟨b, off, none⟩) i i := h.q 4 36 (by kernel_rfl) rfl
        have e43 : act.eval (.tmp 43) = .slice (some ⟨b', off', none⟩) I1 I1 := h.q 11 43 (by kernel_rfl) rfl
        clear h
        refine gives_by rfl act.eval rfl ?_
        generalize act.eval = ρ at *
        intro hf hc
        go_simp
        exact ⟨rfl, hs⟩
      · intro vals act wx h hs
        clear h
        obtain ⟨hF, hsz⟩ : (fun W => Hf w [.bool false, .slice pa np pc, .slice (some ⟨b, off, none⟩) nk kc, .slice (some ⟨b', off', none⟩) nc cc] W ∧ Blk W (w.heap.size + 1) 26 zeroC ∧ Blk W (w.heap.size + 1 + 1) 26 zeroC) wx ∧ w.heap.size + 3 ≤ wx.heap.size := hs
        have ho : Only (fun _ => False) wx (wx.alloc (.cells #[.bool false, .slice none 0 0, .slice none 0 0, .slice none 0 0] 26)) := (Only.refl _ wx).alloc _
        have hfin : (fun W => Hf w [.bool false, .slice pa np pc, .slice (some ⟨b, off, none⟩) nk kc, .slice (some ⟨b', off', none⟩) nc cc] W ∧ Blk W (w.heap.size + 1) 26 zeroC ∧ Blk W (w.heap.size + 1 + 1) 26 zeroC) (wx.alloc (.cells #[.bool false, .slice none 0 0, .slice none 0 0, .slice none 0 0] 26)) ∧ ∃ gg, (.pointer (some ⟨wx.heap.size, 0, none⟩) : Value) = .pointer (some ⟨gg, 0, none⟩) ∧ w.heap.size + 3 ≤ gg ∧ Blk (wx.alloc (.cells #[.bool false, .slice none 0 0, .slice none 0 0, .slice none 0 0] 26)) gg 26 zeroC := ⟨⟨hF.1.only ho (fun _ h => h.elim), hF.2.1.only ho (fun h => h.elim), hF.2.2.only ho (fun h => h.elim)⟩, wx.heap.size, rfl, hsz, Blk.new wx _ zeroC⟩
        clear hF
        refine gives_by rfl act.eval rfl ?_
        generalize act.eval = ρ at *
        intro hf hc
        go_simp
        exact hfin
      · intro vals act wx h hs
        have e9 : act.eval (.tmp 9) = vals 13 := h.val 13 9 (by kernel_rfl)
        have e44 : act.eval (.tmp 44) = .agg #[(.bool false), (.slice none 0 0), (.slice (some ⟨b, off, none⟩) i i), (.slice (some ⟨b', off', none⟩) I1 I1)] := h.q 12 44 (by kernel_rfl) rfl
        clear h
        obtain ⟨hF, g, hg, hgl, hB⟩ : (fun W => Hf w [.bool false, .slice pa np pc, .slice (some ⟨b, off, none⟩) nk kc, .slice (some ⟨b', off', none⟩) nc cc] W ∧ Blk W (w.heap.size + 1) 26 zeroC ∧ Blk W (w.heap.size + 1 + 1) 26 zeroC) wx ∧ ∃ gg, vals 13 = .pointer (some ⟨gg, 0, none⟩) ∧ w.heap.size + 3 ≤ gg ∧ Blk wx gg 26 zeroC := hs
        rw [hg] at e9
        obtain ⟨⟨d0, d1, d2, d3⟩, f0, f1, f2, f3⟩ := node_cells hB
        have ho := laidN_only wx g (.bool false) (.slice none 0 0) (.slice (some ⟨b, off, none⟩) i i) (.slice (some ⟨b', off', none⟩) I1 I1)
        have hfin : (fun W => Hf w [.bool false, .slice pa np pc, .slice (some ⟨b, off, none⟩) nk kc, .slice (some ⟨b', off', none⟩) nc cc] W ∧ Blk W (w.heap.size + 1) 26 zeroC ∧ Blk W (w.heap.size + 1 + 1) 26 zeroC) (laidN wx g (.bool false) (.slice none 0 0) (.slice (some ⟨b, off, none⟩) i i) (.slice (some ⟨b', off', none⟩) I1 I1)) ∧ ∃ gg, vals 13 = .pointer (some ⟨gg, 0, none⟩) ∧ w.heap.size + 3 ≤ gg ∧ Blk (laidN wx g (.bool false) (.slice none 0 0) (.slice (some ⟨b, off, none⟩) i i) (.slice (some ⟨b', off', none⟩) I1 I1)) gg 26 [(.bool false), (.slice none 0 0), (.slice (some ⟨b, off, none⟩) i i), (.slice (some ⟨b', off', none⟩) I1 I1)] := ⟨⟨hF.1.only ho (fun j hj => by omega), hF.2.1.only ho (by omega), hF.2.2.only ho (by omega)⟩, g, hg, hgl, laidN_blk hB _ _ _ _⟩
        clear hF hB hg
        refine gives_by rfl act.eval rfl ?_
        generalize act.eval = ρ at *
        intro hf hc
        go_simp
        exact hfin
    · intro vals w5 hq hs
      obtain ⟨hF, ga, hga, hgal, hBa⟩ : (fun W => Hf w [.bool false, .slice pa np pc, .slice (some ⟨b, off, none⟩) nk kc, .slice (some ⟨b', off', none⟩) nc cc] W ∧ Blk W (w.heap.size + 1) 26 zeroC ∧ Blk W (w.heap.size + 1 + 1) 26 zeroC) w5 ∧ ∃ gg, vals 13 = .pointer (some ⟨gg, 0, none⟩) ∧ w.heap.size + 3 ≤ gg ∧ Blk w5 gg 26 [(.bool false), (.slice none 0 0), (.slice (some ⟨b, off, none⟩) i i), (.slice (some ⟨b', off', none⟩) I1 I1)] := hs
      have HFA := hide hF
      have HBA := hide hBa
      have hs5 : w.heap.size + 3 ≤ w5.heap.size := hF.1.size
      have hga5 : ga < w5.heap.size := hBa.lt
      clear hq hF hBa
      simp only [putAll, Act.put, List.setIfInBounds_toArray, List.set_cons_zero, List.set_cons_succ, Nat.zero_add, Nat.reduceAdd, hga]
      clear hga
      go_wp2
      refine wp_region_chain [some (.pointer (some ⟨w.heap.size, 2, none⟩)), some (.slice (some ⟨b, off, none⟩) nk kc), some (.int .i64 (i : Int)), some (.int .i64 (I1 : Int)), some (.slice (some ⟨b, off + I1, none⟩) NK CK), some (.pointer (some ⟨w.heap.size, 3, none⟩)), some (.slice (some ⟨b', off', none⟩) nc cc), some (.int .i64 (i : Int)), some (.int .i64 (I1 : Int)), some (.slice (some ⟨b', off' + I1, none⟩) NC CC), some (.agg #[(.bool false), (.slice none 0 0), (.slice (some ⟨b, off + I1, none⟩) NK CK), (.slice (some ⟨b', off' + I1, none⟩) NC CC)]), none, none] [11, 12] (AsS (fun W => Hf w [.bool false, .slice pa np pc, .slice (some ⟨b, off, none⟩) nk kc, .slice (some ⟨b', off', none⟩) nc cc] W ∧ Blk W (w.heap.size + 1) 26 zeroC ∧ Blk W (w.heap.size + 1 + 1) 26 zeroC ∧ Blk W ga 26 [(.bool false), (.slice none 0 0), (.slice (some ⟨b, off, none⟩) i i), (.slice (some ⟨b', off', none⟩) I1 I1)]) w5.heap.size [(.bool false), (.slice none 0 0), (.slice (some ⟨b, off + I1, none⟩) NK CK), (.slice (some ⟨b', off' + I1, none⟩) NC CC)] 11) 63 (by kernel_rfl) (by kernel_rfl) (by kernel_rfl) (by kernel_rfl) rfl ?_ ?_ ?_
      · intro vals0
        have ho := (Only.refl (fun _ => False) w5).drew
        have hF := HFA.out
        exact (⟨⟨hF.1.only ho (fun _ h => h.elim), hF.2.1.only ho (fun h => h), hF.2.2.only ho (fun h => h), HBA.out.only ho (fun h => h)⟩, Nat.le_refl _⟩ : (fun W => Hf w [.bool false, .slice pa np pc, .slice (some ⟨b, off, none⟩) nk kc, .slice (some ⟨b', off', none⟩) nc cc] W ∧ Blk W (w.heap.size + 1) 26 zeroC ∧ Blk W (w.heap.size + 1 + 1) 26 zeroC ∧ Blk W ga 26 [(.bool false), (.slice none 0 0), (.slice (some ⟨b, off, none⟩) i i), (.slice (some ⟨b', off', none⟩) I1 I1)]) w5.drew ∧ w5.heap.size ≤ w5.drew.heap.size)
      · refine ⟨?_, ?_, ?_, ?_, ?_, ?_, ?_, ?_, ?_, ?_, ?_, ?_, ?_, trivial⟩
        · intro k vals act wx hk h hs
          have e2 : act.eval (.tmp 2) = .pointer (some ⟨w.heap.size, 0, none⟩) := h.old 2 (by kernel_rfl)
          clear h
          refine gives_by rfl act.eval rfl ?_
          generalize act.eval = ρ at *
          intro hf hc
          go_simp
          exact ⟨rfl, hs⟩
        · intro k vals act wx hk h hs
          have e45 : act.eval (.tmp 45) = .pointer (some ⟨w.heap.size, 2, none⟩) := h.q 0 45 (by kernel_rfl) rfl
          clear h
          have hF : (fun W => Hf w [.bool false, .slice pa np pc, .slice (some ⟨b, off, none⟩) nk kc, .slice (some ⟨b', off', none⟩) nc cc] W ∧ Blk W (w.heap.size + 1) 26 zeroC ∧ Blk W (w.heap.size + 1 + 1) 26 zeroC ∧ Blk W ga 26 [(.bool false), (.slice none 0 0), (.slice (some ⟨b, off, none⟩) i i), (.slice (some ⟨b', off', none⟩) I1 I1)]) wx := AsS.f hs
          obtain ⟨⟨x0, x1', x2, x3⟩, _⟩ := node_cells hF.1.box
          refine gives_by rfl act.eval rfl ?_
          generalize act.eval = ρ at *
          intro hf hc
          go_simp
          exact ⟨rfl, hs⟩
        · intro k vals act wx hk h hs
          have e1 : act.eval (.tmp 1) = .int .i64 (i : Int) := h.old 1 (by kernel_rfl)
          clear h
          refine gives_by rfl act.eval rfl ?_
          generalize act.eval = ρ at *
          intro hf hc
          go_simp
          exact ⟨rfl, hs⟩
        · intro k vals act wx hk h hs
          have e47 : act.eval (.tmp 47) = .int .i64 (i : Int) := h.q 2 47 (by kernel_rfl) rfl
          clear h
          refine gives_by rfl act.eval rfl ?_
          generalize act.eval = ρ at *
          intro hf hc
          go_simp
          exact ⟨rfl, hs⟩
        · intro k vals act wx hk h hs
          have e46 : act.eval (.tmp 46) = .slice (some ⟨b, off, none⟩) nk kc := h.q 1 46 (by kernel_rfl) rfl
          have e48 : act.eval (.tmp 48) = .int .i64 (I1 : Int) := h.q 3 48 (by kernel_rfl) rfl
          clear h
          refine gives_by rfl act.eval rfl ?_
          generalize act.eval = ρ at *
          intro hf hc
          go_simp
          exact ⟨rfl, hs⟩
        · intro k vals act wx hk h hs
          have e2 : act.eval (.tmp 2) = .pointer (some ⟨w.heap.size, 0, none⟩) := h.old 2 (by kernel_rfl)
          clear h
          refine gives_by rfl act.eval rfl ?_
          generalize act.eval = ρ at *
          intro hf hc
          go_simp
          exact ⟨rfl, hs⟩
        · intro k vals act wx hk h hs
          have e50 : act.eval (.tmp 50) = .pointer (some ⟨w.heap.size, 3, none⟩) := h.q 5 50 (by kernel_rfl) rfl
          clear h
          have hF : (fun W => Hf w [.bool false, .slice pa np pc, .slice (some ⟨b, off, none⟩) nk kc, .slice (some ⟨b', off', none⟩) nc cc] W ∧ Blk W (w.heap.size + 1) 26 zeroC ∧ Blk W (w.heap.size + 1 + 1) 26 zeroC ∧ Blk W ga 26 [(.bool false), (.slice none 0 0), (.slice (some ⟨b, off, none⟩) i i), (.slice (some ⟨b', off', none⟩) I1 I1)]) wx := AsS.f hs
          obtain ⟨⟨x0, x1', x2, x3⟩, _⟩ := node_cells hF.1.box
          refine gives_by rfl act.eval rfl ?_
          generalize act.eval = ρ at *
          intro hf hc
          go_simp
          exact ⟨rfl, hs⟩
        · intro k vals act wx hk h hs
          have e1 : act.eval (.tmp 1) = .int .i64 (i : Int) := h.old 1 (by kernel_rfl)
          clear h
          refine gives_by rfl act.eval rfl ?_
          generalize act.eval = ρ at *
          intro hf hc
          go_simp
          exact ⟨rfl, hs⟩
        · intro k vals act wx hk h hs
          have e52 : act.eval (.tmp 52) = .int .i64 (i : Int) := h.q 7 52 (by kernel_rfl) rfl
          clear h
          refine gives_by rfl act.eval rfl ?_
          generalize act.eval = ρ at *
          intro hf hc
          go_simp
          exact ⟨rfl, hs⟩
        · intro k vals act wx hk h hs
          have e51 : act.eval (.tmp 51) = .slice (some ⟨b', off', none⟩) nc cc := h.q 6 51 (by kernel_rfl) rfl
          have e53 : act.eval (.tmp 53) = .int .i64 (I1 : Int) := h.q 8 53 (by kernel_rfl) rfl
          clear h
          refine gives_by rfl act.eval rfl ?_
          generalize act.eval = ρ at *
          intro hf hc
          go_simp
          exact ⟨rfl, hs⟩
        · intro k vals act wx hk h hs
          have e49 : act.eval (.tmp 49) = .slice (some ⟨b, off + I1, none⟩) NK CK := h.q 4 49 (by kernel_rfl) rfl
          have e54 : act.eval (.tmp 54) = .slice (some ⟨b', off' + I1, none⟩) NC CC := h.q 9 54 (by kernel_rfl) rfl
          clear h
          refine gives_by rfl act.eval rfl ?_
          generalize act.eval = ρ at *
          intro hf hc
          go_simp
          exact ⟨rfl, hs⟩
        · intro vals act wx h hs
          clear h
          obtain ⟨hF, hsz⟩ : (fun W => Hf w [.bool false, .slice pa np pc, .slice (some ⟨b, off, none⟩) nk kc, .slice (some ⟨b', off', none⟩) nc cc] W ∧ Blk W (w.heap.size + 1) 26 zeroC ∧ Blk W (w.heap.size + 1 + 1) 26 zeroC ∧ Blk W ga 26 [(.bool false), (.slice none 0 0), (.slice (some ⟨b, off, none⟩) i i), (.slice (some ⟨b', off', none⟩) I1 I1)]) wx ∧ w5.heap.size ≤ wx.heap.size := hs
          have ho : Only (fun _ => False) wx (wx.alloc (.cells #[.bool false, .slice none 0 0, .slice none 0 0, .slice none 0 0] 26)) := (Only.refl _ wx).alloc _
          have hfin : (fun W => Hf w [.bool false, .slice pa np pc, .slice (some ⟨b, off, none⟩) nk kc, .slice (some ⟨b', off', none⟩) nc cc] W ∧ Blk W (w.heap.size + 1) 26 zeroC ∧ Blk W (w.heap.size + 1 + 1) 26 zeroC ∧ Blk W ga 26 [(.bool false), (.slice none 0 0), (.slice (some ⟨b, off, none⟩) i i), (.slice (some ⟨b', off', none⟩) I1 I1)]) (wx.alloc (.cells #[.bool false, .slice none 0 0, .slice none 0 0, .slice none 0 0] 26)) ∧ ∃ gg, (.pointer (some ⟨wx.heap.size, 0, none⟩) : Value) = .pointer (some ⟨gg, 0, none⟩) ∧ w5.heap.size ≤ gg ∧ Blk (wx.alloc (.cells #[.bool false, .slice none 0 0, .slice none 0 0, .slice none 0 0] 26)) gg 26 zeroC := ⟨⟨hF.1.only ho (fun _ h => h.elim), hF.2.1.only ho (fun h => h), hF.2.2.1.only ho (fun h => h), hF.2.2.2.only ho (fun h => h)⟩, wx.heap.size, rfl, hsz, Blk.new wx _ zeroC⟩
          clear hF
          refine gives_by rfl act.eval rfl ?_
          generalize act.eval = ρ at *
          intro hf hc
          go_simp
          exact hfin
        · intro vals act wx h hs
          have e10 : act.eval (.tmp 10) = vals 11 := h.val 11 10 (by kernel_rfl)
          have e55 : act.eval (.tmp 55) = .agg #[(.bool false), (.slice none 0 0), (.slice (some ⟨b, off + I1, none⟩) NK CK), (.slice (some ⟨b', off' + I1, none⟩) NC CC)] := h.q 10 55 (by kernel_rfl) rfl
          clear h
          obtain ⟨hF, g, hg, hgl, hB⟩ : (fun W => Hf w [.bool false, .slice pa np pc, .slice (some ⟨b, off, none⟩) nk kc, .slice (some ⟨b', off', none⟩) nc cc] W ∧ Blk W (w.heap.size + 1) 26 zeroC ∧ Blk W (w.heap.size + 1 + 1) 26 zeroC ∧ Blk W ga 26 [(.bool false), (.slice none 0 0), (.slice (some ⟨b, off, none⟩) i i), (.slice (some ⟨b', off', none⟩) I1 I1)]) wx ∧ ∃ gg, vals 11 = .pointer (some ⟨gg, 0, none⟩) ∧ w5.heap.size ≤ gg ∧ Blk wx gg 26 zeroC := hs
          rw [hg] at e10
          obtain ⟨⟨d0, d1, d2, d3⟩, f0, f1, f2, f3⟩ := node_cells hB
          have ho := laidN_only wx g (.bool false) (.slice none 0 0) (.slice (some ⟨b, off + I1, none⟩) NK CK) (.slice (some ⟨b', off' + I1, none⟩) NC CC)
          have hfin : (fun W => Hf w [.bool false, .slice pa np pc, .slice (some ⟨b, off, none⟩) nk kc, .slice (some ⟨b', off', none⟩) nc cc] W ∧ Blk W (w.heap.size + 1) 26 zeroC ∧ Blk W (w.heap.size + 1 + 1) 26 zeroC ∧ Blk W ga 26 [(.bool false), (.slice none 0 0), (.slice (some ⟨b, off, none⟩) i i), (.slice (some ⟨b', off', none⟩) I1 I1)]) (laidN wx g (.bool false) (.slice none 0 0) (.slice (some ⟨b, off + I1, none⟩) NK CK) (.slice (some ⟨b', off' + I1, none⟩) NC CC)) ∧ ∃ gg, vals 11 = .pointer (some ⟨gg, 0, none⟩) ∧ w5.heap.size ≤ gg ∧ Blk (laidN wx g (.bool false) (.slice none 0 0) (.slice (some ⟨b, off + I1, none⟩) NK CK) (.slice (some ⟨b', off' + I1, none⟩) NC CC)) gg 26 [(.bool false), (.slice none 0 0), (.slice (some ⟨b, off + I1, none⟩) NK CK), (.slice (some ⟨b', off' + I1, none⟩) NC CC)] := ⟨⟨hF.1.only ho (fun j hj => by omega), hF.2.1.only ho (by omega), hF.2.2.1.only ho (by omega), hF.2.2.2.only ho (by omega)⟩, g, hg, hgl, laidN_blk hB _ _ _ _⟩
          clear hF hB hg
          refine gives_by rfl act.eval rfl ?_
          generalize act.eval = ρ at *
          intro hf hc
          go_simp
          exact hfin
      · intro vals w6 hq hs
        obtain ⟨hF, gb, hgb, hgbl, hBb⟩ : (fun W => Hf w [.bool false, .slice pa np pc, .slice (some ⟨b, off, none⟩) nk kc, .slice (some ⟨b', off', none⟩) nc cc] W ∧ Blk W (w.heap.size + 1) 26 zeroC ∧ Blk W (w.heap.size + 1 + 1) 26 zeroC ∧ Blk W ga 26 [(.bool false), (.slice none 0 0), (.slice (some ⟨b, off, none⟩) i i), (.slice (some ⟨b', off', none⟩) I1 I1)]) w6 ∧ ∃ gg, vals 11 = .pointer (some ⟨gg, 0, none⟩) ∧ w5.heap.size ≤ gg ∧ Blk w6 gg 26 [(.bool false), (.slice none 0 0), (.slice (some ⟨b, off + I1, none⟩) NK CK), (.slice (some ⟨b', off' + I1, none⟩) NC CC)] := hs
        have HFB := hide hF
        have HBB := hide hBb
        clear hq hF hBb
        simp only [putAll, Act.put, List.setIfInBounds_toArray, List.set_cons_zero, List.set_cons_succ, Nat.zero_add, Nat.reduceAdd, hgb]
        clear hgb
        go_wp2
        refine wp_region_chain [some (.agg #[(.bool false), (.slice none 0 0), (.slice (some ⟨b, off, none⟩) i i), (.slice (some ⟨b', off', none⟩) I1 I1)]), some (.pointer (some ⟨w.heap.size, 2, none⟩)), some (.slice (some ⟨b, off, none⟩) nk kc), some (.int .i64 (i : Int)), some (.pointer (some ⟨b, off + i, none⟩)), some (.slice k1 k2 k3), some (.agg #[(.bool false), (.slice none 0 0), (.slice (some ⟨b, off + I1, none⟩) NK CK), (.slice (some ⟨b', off' + I1, none⟩) NC CC)]), none, some (.slice k1 k2 k3), none] [7, 9] (TwS (fun W => Hf w [.bool false, .slice pa np pc, .slice (some ⟨b, off, none⟩) nk kc, .slice (some ⟨b', off', none⟩) nc cc] W ∧ Blk W ga 26 [(.bool false), (.slice none 0 0), (.slice (some ⟨b, off, none⟩) i i), (.slice (some ⟨b', off', none⟩) I1 I1)] ∧ Blk W gb 26 [(.bool false), (.slice none 0 0), (.slice (some ⟨b, off + I1, none⟩) NK CK), (.slice (some ⟨b', off' + I1, none⟩) NC CC)]) (w.heap.size + 1) (w.heap.size + 1 + 1) [(.bool false), (.slice none 0 0), (.slice (some ⟨b, off, none⟩) i i), (.slice (some ⟨b', off', none⟩) I1 I1)] [(.bool false), (.slice none 0 0), (.slice (some ⟨b, off + I1, none⟩) NK CK), (.slice (some ⟨b', off' + I1, none⟩) NC CC)]) 63 (by kernel_rfl) (by kernel_rfl) (by kernel_rfl) (by kernel_rfl) rfl ?_ ?_ ?_
        · intro vals0
          have ho := (Only.refl (fun _ => False) w6).drew
          have hF := HFB.out
          exact (⟨⟨hF.1.only ho (fun _ h => h.elim), hF.2.2.2.only ho (fun h => h), HBB.out.only ho (fun h => h)⟩, hF.2.1.only ho (fun h => h), hF.2.2.1.only ho (fun h => h)⟩ : (fun W => Hf w [.bool false, .slice pa np pc, .slice (some ⟨b, off, none⟩) nk kc, .slice (some ⟨b', off', none⟩) nc cc] W ∧ Blk W ga 26 [(.bool false), (.slice none 0 0), (.slice (some ⟨b, off, none⟩) i i), (.slice (some ⟨b', off', none⟩) I1 I1)] ∧ Blk W gb 26 [(.bool false), (.slice none 0 0), (.slice (some ⟨b, off + I1, none⟩) NK CK), (.slice (some ⟨b', off' + I1, none⟩) NC CC)]) w6.drew ∧ Blk w6.drew (w.heap.size + 1) 26 zeroC ∧ Blk w6.drew (w.heap.size + 1 + 1) 26 zeroC)
        · refine ⟨?_, ?_, ?_, ?_, ?_, ?_, ?_, ?_, ?_, ?_, trivial⟩
          · intro k vals act wx hk h hs
            have e9 : act.eval (.tmp 9) = .pointer (some ⟨ga, 0, none⟩) := h.old 9 (by kernel_rfl)
            clear h
            have hF : (fun W => Hf w [.bool false, .slice pa np pc, .slice (some ⟨b, off, none⟩) nk kc, .slice (some ⟨b', off', none⟩) nc cc] W ∧ Blk W ga 26 [(.bool false), (.slice none 0 0), (.slice (some ⟨b, off, none⟩) i i), (.slice (some ⟨b', off', none⟩) I1 I1)] ∧ Blk W gb 26 [(.bool false), (.slice none 0 0), (.slice (some ⟨b, off + I1, none⟩) NK CK), (.slice (some ⟨b', off' + I1, none⟩) NC CC)]) wx := TwS.f hs
            obtain ⟨⟨x0, x1', x2, x3⟩, _⟩ := node_cells hF.2.1
            refine gives_by rfl act.eval rfl ?_
            generalize act.eval = ρ at *
            intro hf hc
            go_simp
            exact ⟨rfl, hs⟩
          · intro k vals act wx hk h hs
            have e2 : act.eval (.tmp 2) = .pointer (some ⟨w.heap.size, 0, none⟩) := h.old 2 (by kernel_rfl)
            clear h
            refine gives_by rfl act.eval rfl ?_
            generalize act.eval = ρ at *
            intro hf hc
            go_simp
            exact ⟨rfl, hs⟩
          · intro k vals act wx hk h hs
            have e57 : act.eval (.tmp 57) = .pointer (some ⟨w.heap.size, 2, none⟩) := h.q 1 57 (by kernel_rfl) rfl
            clear h
            have hF : (fun W => Hf w [.bool false, .slice pa np pc, .slice (some ⟨b, off, none⟩) nk kc, .slice (some ⟨b', off', none⟩) nc cc] W ∧ Blk W ga 26 [(.bool false), (.slice none 0 0), (.slice (some ⟨b, off, none⟩) i i), (.slice (some ⟨b', off', none⟩) I1 I1)] ∧ Blk W gb 26 [(.bool false), (.slice none 0 0), (.slice (some ⟨b, off + I1, none⟩) NK CK), (.slice (some ⟨b', off' + I1, none⟩) NC CC)]) wx := TwS.f hs
            obtain ⟨⟨x0, x1', x2, x3⟩, _⟩ := node_cells hF.1.box
            refine gives_by rfl act.eval rfl ?_
            generalize act.eval = ρ at *
            intro hf hc
            go_simp
            exact ⟨rfl, hs⟩
          · intro k vals act wx hk h hs
            have e1 : act.eval (.tmp 1) = .int .i64 (i : Int) := h.old 1 (by kernel_rfl)
            clear h
            refine gives_by rfl act.eval rfl ?_
            generalize act.eval = ρ at *
            intro hf hc
            go_simp
            exact ⟨rfl, hs⟩
          · intro k vals act wx hk h hs
            have e58 : act.eval (.tmp 58) = .slice (some ⟨b, off, none⟩) nk kc := h.q 2 58 (by kernel_rfl) rfl
            have e59 : act.eval (.tmp 59) = .int .i64 (i : Int) := h.q 3 59 (by kernel_rfl) rfl
            clear h
            have hF : (fun W => Hf w [.bool false, .slice pa np pc, .slice (some ⟨b, off, none⟩) nk kc, .slice (some ⟨b', off', none⟩) nc cc] W ∧ Blk W ga 26 [(.bool false), (.slice none 0 0), (.slice (some ⟨b, off, none⟩) i i), (.slice (some ⟨b', off', none⟩) I1 I1)] ∧ Blk W gb 26 [(.bool false), (.slice none 0 0), (.slice (some ⟨b, off + I1, none⟩) NK CK), (.slice (some ⟨b', off' + I1, none⟩) NC CC)]) wx := TwS.f hs
            refine gives_by rfl act.eval rfl ?_
            generalize act.eval = ρ at *
            intro hf hc
            go_simp
            exact ⟨rfl, hs⟩
          · intro k vals act wx hk h hs
            have e60 : act.eval (.tmp 60) = .pointer (some ⟨b, off + i, none⟩) := h.q 4 60 (by kernel_rfl) rfl
            clear h
            have hF : (fun W => Hf w [.bool false, .slice pa np pc, .slice (some ⟨b, off, none⟩) nk kc, .slice (some ⟨b', off', none⟩) nc cc] W ∧ Blk W ga 26 [(.bool false), (.slice none 0 0), (.slice (some ⟨b, off, none⟩) i i), (.slice (some ⟨b', off', none⟩) I1 I1)] ∧ Blk W gb 26 [(.bool false), (.slice none 0 0), (.slice (some ⟨b, off + I1, none⟩) NK CK), (.slice (some ⟨b', off' + I1, none⟩) NC CC)]) wx := TwS.f hs
            have cx := HCX.out wx hF.1.below
            refine gives_by rfl act.eval rfl ?_
            generalize act.eval = ρ at *
            intro hf hc
            go_simp
            exact ⟨rfl, hs⟩
          · intro k vals act wx hk h hs
            have e10 : act.eval (.tmp 10) = .pointer (some ⟨gb, 0, none⟩) := h.old 10 (by kernel_rfl)
            clear h
            have hF : (fun W => Hf w [.bool false, .slice pa np pc, .slice (some ⟨b, off, none⟩) nk kc, .slice (some ⟨b', off', none⟩) nc cc] W ∧ Blk W ga 26 [(.bool false), (.slice none 0 0), (.slice (some ⟨b, off, none⟩) i i), (.slice (some ⟨b', off', none⟩) I1 I1)] ∧ Blk W gb 26 [(.bool false), (.slice none 0 0), (.slice (some ⟨b, off + I1, none⟩) NK CK), (.slice (some ⟨b', off' + I1, none⟩) NC CC)]) wx := TwS.f hs
            obtain ⟨⟨x0, x1', x2, x3⟩, _⟩ := node_cells hF.2.2
            refine gives_by rfl act.eval rfl ?_
            generalize act.eval = ρ at *
            intro hf hc
            go_simp
            exact ⟨rfl, hs⟩
          · intro vals act wx h hs
            have e4 : act.eval (.tmp 4) = .pointer (some ⟨w.heap.size + 1, 0, none⟩) := h.old 4 (by kernel_rfl)
            have e56 : act.eval (.tmp 56) = .agg #[(.bool false), (.slice none 0 0), (.slice (some ⟨b, off, none⟩) i i), (.slice (some ⟨b', off', none⟩) I1 I1)] := h.q 0 56 (by kernel_rfl) rfl
            clear h
            obtain ⟨hF, hb1, hb2⟩ : (fun W => Hf w [.bool false, .slice pa np pc, .slice (some ⟨b, off, none⟩) nk kc, .slice (some ⟨b', off', none⟩) nc cc] W ∧ Blk W ga 26 [(.bool false), (.slice none 0 0), (.slice (some ⟨b, off, none⟩) i i), (.slice (some ⟨b', off', none⟩) I1 I1)] ∧ Blk W gb 26 [(.bool false), (.slice none 0 0), (.slice (some ⟨b, off + I1, none⟩) NK CK), (.slice (some ⟨b', off' + I1, none⟩) NC CC)]) wx ∧ Blk wx (w.heap.size + 1) 26 zeroC ∧ Blk wx (w.heap.size + 1 + 1) 26 zeroC := hs
            obtain ⟨⟨d0, d1, d2, d3⟩, k0, k1, k2', k3'⟩ := node_cells hb1
            have ho := laidN_only wx (w.heap.size + 1) (.bool false) (.slice none 0 0) (.slice (some ⟨b, off, none⟩) i i) (.slice (some ⟨b', off', none⟩) I1 I1)
            have hfin : (fun W => Hf w [.bool false, .slice pa np pc, .slice (some ⟨b, off, none⟩) nk kc, .slice (some ⟨b', off', none⟩) nc cc] W ∧ Blk W ga 26 [(.bool false), (.slice none 0 0), (.slice (some ⟨b, off, none⟩) i i), (.slice (some ⟨b', off', none⟩) I1 I1)] ∧ Blk W gb 26 [(.bool false), (.slice none 0 0), (.slice (some ⟨b, off + I1, none⟩) NK CK), (.slice (some ⟨b', off' + I1, none⟩) NC CC)]) (laidN wx (w.heap.size + 1) (.bool false) (.slice none 0 0) (.slice (some ⟨b, off, none⟩) i i) (.slice (some ⟨b', off', none⟩) I1 I1)) ∧ Blk (laidN wx (w.heap.size + 1) (.bool false) (.slice none 0 0) (.slice (some ⟨b, off, none⟩) i i) (.slice (some ⟨b', off', none⟩) I1 I1)) (w.heap.size + 1) 26 [(.bool false), (.slice none 0 0), (.slice (some ⟨b, off, none⟩) i i), (.slice (some ⟨b', off', none⟩) I1 I1)] ∧ Blk (laidN wx (w.heap.size + 1) (.bool false) (.slice none 0 0) (.slice (some ⟨b, off, none⟩) i i) (.slice (some ⟨b', off', none⟩) I1 I1)) (w.heap.size + 1 + 1) 26 zeroC := ⟨⟨hF.1.only ho (fun j hj => by omega), hF.2.1.only ho (by omega), hF.2.2.only ho (by omega)⟩, laidN_blk hb1 _ _ _ _, hb2.only ho (by omega)⟩
            clear hF hb1 hb2
            refine gives_by rfl act.eval rfl ?_
            generalize act.eval = ρ at *
            intro hf hc
            go_simp
            exact hfin
          · intro k vals act wx hk h hs
            have e61 : act.eval (.tmp 61) = .slice k1 k2 k3 := h.q 5 61 (by kernel_rfl) rfl
            clear h
            refine gives_by rfl act.eval rfl ?_
            generalize act.eval = ρ at *
            intro hf hc
            go_simp
            exact ⟨rfl, hs⟩
          · intro vals act wx h hs
            have e6 : act.eval (.tmp 6) = .pointer (some ⟨w.heap.size + 1 + 1, 0, none⟩) := h.old 6 (by kernel_rfl)
            have e62 : act.eval (.tmp 62) = .agg #[(.bool false), (.slice none 0 0), (.slice (some ⟨b, off + I1, none⟩) NK CK), (.slice (some ⟨b', off' + I1, none⟩) NC CC)] := h.q 6 62 (by kernel_rfl) rfl
            clear h
            obtain ⟨hF, hb1, hb2⟩ : (fun W => Hf w [.bool false, .slice pa np pc, .slice (some ⟨b, off, none⟩) nk kc, .slice (some ⟨b', off', none⟩) nc cc] W ∧ Blk W ga 26 [(.bool false), (.slice none 0 0), (.slice (some ⟨b, off, none⟩) i i), (.slice (some ⟨b', off', none⟩) I1 I1)] ∧ Blk W gb 26 [(.bool false), (.slice none 0 0), (.slice (some ⟨b, off + I1, none⟩) NK CK), (.slice (some ⟨b', off' + I1, none⟩) NC CC)]) wx ∧ Blk wx (w.heap.size + 1) 26 [(.bool false), (.slice none 0 0), (.slice (some ⟨b, off, none⟩) i i), (.slice (some ⟨b', off', none⟩) I1 I1)] ∧ Blk wx (w.heap.size + 1 + 1) 26 zeroC := hs
            obtain ⟨⟨d0, d1, d2, d3⟩, k0, k1, k2', k3'⟩ := node_cells hb2
            have ho := laidN_only wx (w.heap.size + 1 + 1) (.bool false) (.slice none 0 0) (.slice (some ⟨b, off + I1, none⟩) NK CK) (.slice (some ⟨b', off' + I1, none⟩) NC CC)
            have hfin : (fun W => Hf w [.bool false, .slice pa np pc, .slice (some ⟨b, off, none⟩) nk kc, .slice (some ⟨b', off', none⟩) nc cc] W ∧ Blk W ga 26 [(.bool false), (.slice none 0 0), (.slice (some ⟨b, off, none⟩) i i), (.slice (some ⟨b', off', none⟩) I1 I1)] ∧ Blk W gb 26 [(.bool false), (.slice none 0 0), (.slice (some ⟨b, off + I1, none⟩) NK CK), (.slice (some ⟨b', off' + I1, none⟩) NC CC)]) (laidN wx (w.heap.size + 1 + 1) (.bool false) (.slice none 0 0) (.slice (some ⟨b, off + I1, none⟩) NK CK) (.slice (some ⟨b', off' + I1, none⟩) NC CC)) ∧ Blk (laidN wx (w.heap.size + 1 + 1) (.bool false) (.slice none 0 0) (.slice (some ⟨b, off + I1, none⟩) NK CK) (.slice (some ⟨b', off' + I1, none⟩) NC CC)) (w.heap.size + 1) 26 [(.bool false), (.slice none 0 0), (.slice (some ⟨b, off, none⟩) i i), (.slice (some ⟨b', off', none⟩) I1 I1)] ∧ Blk (laidN wx (w.heap.size + 1 + 1) (.bool false) (.slice none 0 0) (.slice (some ⟨b, off + I1, none⟩) NK CK) (.slice (some ⟨b', off' + I1, none⟩) NC CC)) (w.heap.size + 1 + 1) 26 [(.bool false), (.slice none 0 0), (.slice (some ⟨b, off + I1, none⟩) NK CK), (.slice (some ⟨b', off' + I1, none⟩) NC CC)] := ⟨⟨hF.1.only ho (fun j hj => by omega), hF.2.1.only ho (by omega), hF.2.2.only ho (by omega)⟩, hb1.only ho (by omega), laidN_blk hb2 _ _ _ _⟩
            clear hF hb1 hb2
            refine gives_by rfl act.eval rfl ?_
            generalize act.eval = ρ at *
            intro hf hc
            go_simp
            exact hfin
        · intro vals w' hq hs
          have h5 : vals 8 = .slice k1 k2 k3 := hq 8 _ rfl
          obtain ⟨hF, hb1, hb2⟩ : (fun W => Hf w [.bool false, .slice pa np pc, .slice (some ⟨b, off, none⟩) nk kc, .slice (some ⟨b', off', none⟩) nc cc] W ∧ Blk W ga 26 [(.bool false), (.slice none 0 0), (.slice (some ⟨b, off, none⟩) i i), (.slice (some ⟨b', off', none⟩) I1 I1)] ∧ Blk W gb 26 [(.bool false), (.slice none 0 0), (.slice (some ⟨b, off + I1, none⟩) NK CK), (.slice (some ⟨b', off' + I1, none⟩) NC CC)]) w' ∧ Blk w' (w.heap.size + 1) 26 [(.bool false), (.slice none 0 0), (.slice (some ⟨b, off, none⟩) i i), (.slice (some ⟨b', off', none⟩) I1 I1)] ∧ Blk w' (w.heap.size + 1 + 1) 26 [(.bool false), (.slice none 0 0), (.slice (some ⟨b, off + I1, none⟩) NK CK), (.slice (some ⟨b', off' + I1, none⟩) NC CC)] := hs
          have HF := hide hF
          have HR1 := hide hb1
          have HR2 := hide hb2
          clear hq hF hb1 hb2
          simp only [putAll, Act.put, List.setIfInBounds_toArray, List.set_cons_zero, List.set_cons_succ, Nat.zero_add, Nat.reduceAdd, h5]
          (try go_wp2)
          (try simp only [Exit.inBlock, Exit.then])
          refine bodyPost_ret (ret_node3 rfl _ _ (w.heap.size + 1) (w.heap.size + 1 + 1) _ _ _ _ _ _ _ _ _ rfl rfl rfl HR1.out HR2.out) rfl ?_
          have hb := HF.out.1.below
          rw [HHA.out, HHB.out, HHK.out]
          exact ⟨_, k1, k2, k3, _, rfl, ⟨_, _, _, [], _, rfl, Prs.nil _, HKA.out, HCA.out⟩, HSK.out, ⟨_, _, _, [], _, rfl, Prs.nil _, HKB.out, HCB.out⟩, hb⟩

end Go.Proofs.Ythnppkeifhnceab
