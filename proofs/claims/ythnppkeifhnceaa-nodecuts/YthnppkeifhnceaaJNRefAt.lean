/- Contract: the document's At. -/
import Derived.Test.YthnppkeifhnceaaJNHalf
namespace Go.Proofs.Ythnppkeifhnceaa
set_option maxRecDepth 20000
open Go.RowKit Go.Shelf
set_option linter.unusedVariables false
set_option linter.unusedSimpArgs false
set_option maxRecDepth 100000
attribute [local go_sem] Oper.semAt_some

/-- s[:h] -/
theorem cut_hi {P : Program} (t e : TypeId) (z : Nat) (ht : P.underlying t = some (.slice e)) (hz : (P.info? e).map (·.size) = some z) (ao : Option Addr) (n cap h : Nat) (h1 : h ≤ cap) (h3 : 0 < cap) (hc : cap ≤ maxLen) (wx : World) :
    (Instr.slice t (.slice ao n cap) none (some (.int .i64 h)) none).run P wx = .ok (.slice ao h cap) wx := by
  have he : P.elem t = e := by simp [Program.elem, ht]
  have hs : (Go.sizeOf (P.elem t)).run P wx = .ok z wx := by
    rw [he]
    cases hq : P.info? e with
    | none => simp [hq] at hz
    | some i => simp [hq] at hz; simp [Go.sizeOf, typeInfo, hq, hz]
  unfold maxLen at hc
  rw [run_slice_h wx t ao n cap (by rw [he]; exact ht) .i64 h (by omega) (by omega), hs]
  simp only [Result.andThen, sliced, Int.toNat_natCast]
  rw [if_neg (by omega)]
  cases ao with
  | none => rfl
  | some x => simp [Addr.add]


set_option maxHeartbeats 8000000 in
theorem refAt_any (w0 w : World) (hb0 : Below w0.heap.size w0 w) (v : Value) (n : Nd) (h : NdV w0 v n) (i : Nat) (h0 : 0 < i) (hl : n.lf = true → i < n.ps.length ∧ n.ps.length ≤ 1000) (hi : n.lf = false → i + 1 < n.ks.length ∧ n.cs.length = n.ks.length + 1 ∧ n.ks.length ≤ 1000) :
    Calls Try.prog 83 #[v, .int .i64 (i : Int)] w fun e w' => ∃ u1 k1 k2 k3 u2, e = .returned (.tuple #[u1, .slice k1 k2 k3, u2]) ∧ NdV w0 u1 (halfA n i) ∧ Sl w0 (.slice k1 k2 k3) (halfK n i) ∧ NdV w0 u2 (halfB n i) ∧ Below w.heap.size w w' := by
  have HHA : Hid (halfA n i = if n.lf then ⟨true, n.ps.take i, [], []⟩ else ⟨false, [], n.ks.take i, n.cs.take (i + 1)⟩) := rfl
  have HHB : Hid (halfB n i = if n.lf then ⟨true, n.ps.drop i, [], []⟩ else ⟨false, [], n.ks.drop (i + 1), n.cs.drop (i + 1)⟩) := rfl
  have HHK : Hid (halfK n i = if n.lf then (n.ps.getD i ([], [])).1 else n.ks.getD i []) := rfl
  obtain ⟨pa, pc, ka, kc, ca, cc, xs, ys, rfl, hp1, hk1, hc1, hp2, hk2, hc2, hP, hK, hC⟩ := h.open
  have hza : ∀ wx : World, (zeroValue 26).run Try.prog wx = .ok (.agg #[.bool false, .slice none 0 0, .slice none 0 0, .slice none 0 0]) wx := fun wx => by kernel_rfl
  unfold ndv
  have hA0 := fun (v0 v1 v2 v3 : Value) => ((Blk.new w 26 [v0, v1, v2, v3]).alloc (.cells #[.bool false, .slice none 0 0, .slice none 0 0, .slice none 0 0] 26)).alloc (.cells #[.bool false, .slice none 0 0, .slice none 0 0, .slice none 0 0] 26)
  cases hlf : n.lf with
  | true =>
    obtain ⟨hin, hpl⟩ := hl hlf
    rw [hlf] at HHA HHB HHK
    simp only [if_true] at HHA HHB HHK
    obtain ⟨b, off, rfl, hrg, hsk, -⟩ := hP.at i hin
    have HPA := hide (hP.take i pc (by omega) (by omega) hp2)
    have HPB := hide (hP.drop i (by omega))
    obtain ⟨x1, hx1⟩ : ∃ x, x = (xs.getD i nil2).1 := ⟨_, rfl⟩
    rw [← hx1] at hsk
    obtain ⟨k1, k2, k3, hkf⟩ := sl_form hsk
    rw [hkf] at hsk
    have hcell : w0.cell? ⟨b, off + i * 2, none⟩ = some (.slice k1 k2 k3) := by rw [← hkf, hx1]; exact hrg 0 _ rfl
    obtain ⟨np, hnp⟩ : ∃ m, n.ps.length = m := ⟨_, rfl⟩
    rw [hnp] at hin hp1 hpl HPB ⊢
    generalize n.ks.length = nk at *
    generalize n.cs.length = nc at *
    obtain ⟨IT, hIT⟩ : ∃ x, x = i * 2 := ⟨_, rfl⟩
    obtain ⟨NI, hNI⟩ : ∃ x, x = np - i := ⟨_, rfl⟩
    obtain ⟨CI, hCI⟩ : ∃ x, x = pc - i := ⟨_, rfl⟩
    have hct := fun wx => cut_hi (P := Try.prog) 22 36 2 Try.underlying22 sizePairE (some ⟨b, off, none⟩) np pc i (by omega) (by omega) (by unfold maxLen; omega) wx
    have hcl := fun wx => cut_low (P := Try.prog) 22 36 2 Try.underlying22 sizePairE (some ⟨b, off, none⟩) np pc i (by omega) hp1 (by omega) (by unfold maxLen; omega) wx
    simp only [Option.map_some, Addr.add_mid, ← hIT, ← hNI, ← hCI] at hct hcl
    simp only [Option.map_some, Addr.add_mid, ← hIT, ← hNI, ← hCI] at HPB
    rw [← hIT] at hcell
    have hii : (i : Int) < (np : Int) := by omega
    have HSK := hide hsk
    have HCE := hide hcell
    obtain ⟨W, hW⟩ : ∃ W, W = (((w.alloc (.cells #[.bool true, .slice (some ⟨b, off, none⟩) np pc, .slice ka nk kc, .slice ca nc cc] 26)).alloc (.cells #[.bool false, .slice none 0 0, .slice none 0 0, .slice none 0 0] 26)).alloc (.cells #[.bool false, .slice none 0 0, .slice none 0 0, .slice none 0 0] 26)) := ⟨_, rfl⟩
    have HF0 : Hid (Hf w [.bool true, .slice (some ⟨b, off, none⟩) np pc, .slice ka nk kc, .slice ca nc cc] W) := by
      rw [hW]
      exact ⟨(((Below.refl _ w).alloc (Nat.le_refl _) _).alloc (by simp) _).alloc (by simp <;> omega) _, hA0 _ _ _ _, by simp <;> omega⟩
    have HZ1 : Hid (Blk W (w.heap.size + 1) 26 zeroC) := by
      rw [hW]
      have := (Blk.new (w.alloc (.cells #[.bool true, .slice (some ⟨b, off, none⟩) np pc, .slice ka nk kc, .slice ca nc cc] 26)) 26 zeroC).alloc (.cells #[.bool false, .slice none 0 0, .slice none 0 0, .slice none 0 0] 26)
      rw [World.size_alloc] at this
      exact this
    have HZ2 : Hid (Blk W (w.heap.size + 1 + 1) 26 zeroC) := by
      rw [hW]
      have := Blk.new ((w.alloc (.cells #[.bool true, .slice (some ⟨b, off, none⟩) np pc, .slice ka nk kc, .slice ca nc cc] 26)).alloc (.cells #[.bool false, .slice none 0 0, .slice none 0 0, .slice none 0 0] 26)) 26 zeroC
      rw [World.size_alloc, World.size_alloc] at this
      exact this
    have HW := hide hW
    have HIT := hide hIT
    clear hP hK hC h hA0 hrg hsk hcell hW hx1 hkf hl hi hIT hNI hCI
    go_enter Try.func83, Try.ntmps83
    go_wp2
    rw [← HW.out]
    have HCX : Hid (∀ wx, Below w.heap.size w wx → wx.cell? ⟨b, off + i * 2, none⟩ = some (.slice k1 k2 k3)) := fun wx hb => by
      have := HCE.out
      rw [HIT.out] at this
      rw [World.cell?_of_block (w := w0) ((hb0.trans (hb.mono hb0.size)).block b (World.block_lt_of_cell? w0 _ this))]
      exact this
    refine wp_region_chain [some (.pointer (some ⟨w.heap.size, 1, none⟩)), some (.slice (some ⟨b, off, none⟩) np pc), some (.int .i64 (i : Int)), some (.slice (some ⟨b, off, none⟩) i pc), some (.agg #[(.bool true), (.slice (some ⟨b, off, none⟩) i pc), (.slice none 0 0), (.slice none 0 0)]), some (.pointer (some ⟨w.heap.size, 1, none⟩)), some (.slice (some ⟨b, off, none⟩) np pc), some (.int .i64 (i : Int)), some (.pointer (some ⟨b, off + i * 2, none⟩)), some (.pointer (some ⟨b, off + i * 2, none⟩)), some (.slice k1 k2 k3), some (.pointer (some ⟨w.heap.size, 1, none⟩)), some (.slice (some ⟨b, off, none⟩) np pc), some (.int .i64 (i : Int)), some (.slice (some ⟨b, off + IT, none⟩) NI CI), some (.agg #[(.bool true), (.slice (some ⟨b, off + IT, none⟩) NI CI), (.slice none 0 0), (.slice none 0 0)]), none, some (.slice k1 k2 k3), none] [16, 18] (TwS (fun W => Hf w [.bool true, .slice (some ⟨b, off, none⟩) np pc, .slice ka nk kc, .slice ca nc cc] W) (w.heap.size + 1) (w.heap.size + 1 + 1) [(.bool true), (.slice (some ⟨b, off, none⟩) i pc), (.slice none 0 0), (.slice none 0 0)] [(.bool true), (.slice (some ⟨b, off + IT, none⟩) NI CI), (.slice none 0 0), (.slice none 0 0)]) 51 (by kernel_rfl) (by kernel_rfl) (by kernel_rfl) (by kernel_rfl) rfl ?_ ?_ ?_
    · intro vals0
      have ho := (Only.refl (fun _ => False) W).drew
      exact (⟨HF0.out.only ho (fun _ h => h.elim), HZ1.out.only ho (fun h => h), HZ2.out.only ho (fun h => h)⟩ : (fun W => Hf w [.bool true, .slice (some ⟨b, off, none⟩) np pc, .slice ka nk kc, .slice ca nc cc] W) W.drew ∧ Blk W.drew (w.heap.size + 1) 26 zeroC ∧ Blk W.drew (w.heap.size + 1 + 1) 26 zeroC)
    · refine ⟨?_, ?_, ?_, ?_, ?_, ?_, ?_, ?_, ?_, ?_, ?_, ?_, ?_, ?_, ?_, ?_, ?_, ?_, ?_, trivial⟩
      · intro k vals act wx hk h hs
        have e2 : act.eval (.tmp 2) = .pointer (some ⟨w.heap.size, 0, none⟩) := h.old 2 (by kernel_rfl)
        clear h
        refine gives_by rfl act.eval rfl ?_
        generalize act.eval = ρ at *
        intro hf hc
        go_simp
        exact ⟨rfl, hs⟩
      · intro k vals act wx hk h hs
        have e9 : act.eval (.tmp 9) = .pointer (some ⟨w.heap.size, 1, none⟩) := h.q 0 9 (by kernel_rfl) rfl
        clear h
        have hF : (fun W => Hf w [.bool true, .slice (some ⟨b, off, none⟩) np pc, .slice ka nk kc, .slice ca nc cc] W) wx := TwS.f hs
        obtain ⟨⟨x0, x1', x2, x3⟩, _⟩ := node_cells hF.box
        refine gives_by rfl act.eval rfl ?_
        generalize act.eval = ρ at *
        intro hf hc
        go_simp
        exact ⟨rfl, hs⟩
      · intro k vals act wx hk h hs
        have e1 : act.eval (.tmp 1) = .int .i64 (i : Int) := h.old 1 (by kernel_rfl)
        clear h
        refine gives_by rfl act.eval rfl ?_
        generalize act.eval = ρ at *
        intro hf hc
        go_simp
        exact ⟨rfl, hs⟩
      · intro k vals act wx hk h hs
        have e10 : act.eval (.tmp 10) = .slice (some ⟨b, off, none⟩) np pc := h.q 1 10 (by kernel_rfl) rfl
        have e11 : act.eval (.tmp 11) = .int .i64 (i : Int) := h.q 2 11 (by kernel_rfl) rfl
        clear h
        refine gives_by rfl act.eval rfl ?_
        generalize act.eval = ρ at *
        intro hf hc
        go_simp
        exact ⟨rfl, hs⟩
      · intro k vals act wx hk h hs
        have e12 : act.eval (.tmp 12) = .slice (some ⟨b, off, none⟩) i pc := h.q 3 12 (by kernel_rfl) rfl
        clear h
        refine gives_by rfl act.eval rfl ?_
        generalize act.eval = ρ at *
        intro hf hc
        go_simp
        exact ⟨rfl, hs⟩
      · intro k vals act wx hk h hs
        have e2 : act.eval (.tmp 2) = .pointer (some ⟨w.heap.size, 0, none⟩) := h.old 2 (by kernel_rfl)
        clear h
        refine gives_by rfl act.eval rfl ?_
        generalize act.eval = ρ at *
        intro hf hc
        go_simp
        exact ⟨rfl, hs⟩
      · intro k vals act wx hk h hs
        have e14 : act.eval (.tmp 14) = .pointer (some ⟨w.heap.size, 1, none⟩) := h.q 5 14 (by kernel_rfl) rfl
        clear h
        have hF : (fun W => Hf w [.bool true, .slice (some ⟨b, off, none⟩) np pc, .slice ka nk kc, .slice ca nc cc] W) wx := TwS.f hs
        obtain ⟨⟨x0, x1', x2, x3⟩, _⟩ := node_cells hF.box
        refine gives_by rfl act.eval rfl ?_
        generalize act.eval = ρ at *
        intro hf hc
        go_simp
        exact ⟨rfl, hs⟩
      · intro k vals act wx hk h hs
        have e1 : act.eval (.tmp 1) = .int .i64 (i : Int) := h.old 1 (by kernel_rfl)
        clear h
        refine gives_by rfl act.eval rfl ?_
        generalize act.eval = ρ at *
        intro hf hc
        go_simp
        exact ⟨rfl, hs⟩
      · intro k vals act wx hk h hs
        have e15 : act.eval (.tmp 15) = .slice (some ⟨b, off, none⟩) np pc := h.q 6 15 (by kernel_rfl) rfl
        have e16 : act.eval (.tmp 16) = .int .i64 (i : Int) := h.q 7 16 (by kernel_rfl) rfl
        clear h
        have hF : (fun W => Hf w [.bool true, .slice (some ⟨b, off, none⟩) np pc, .slice ka nk kc, .slice ca nc cc] W) wx := TwS.f hs
        refine gives_by rfl act.eval rfl ?_
        generalize act.eval = ρ at *
        intro hf hc
        go_simp
        exact ⟨rfl, hs⟩
      · intro k vals act wx hk h hs
        have e17 : act.eval (.tmp 17) = .pointer (some ⟨b, off + i * 2, none⟩) := h.q 8 17 (by kernel_rfl) rfl
        clear h
        refine gives_by rfl act.eval rfl ?_
        generalize act.eval = ρ at *
        intro hf hc
        go_simp
        exact ⟨rfl, hs⟩
      · intro k vals act wx hk h hs
        have e18 : act.eval (.tmp 18) = .pointer (some ⟨b, off + i * 2, none⟩) := h.q 9 18 (by kernel_rfl) rfl
        clear h
        have hF : (fun W => Hf w [.bool true, .slice (some ⟨b, off, none⟩) np pc, .slice ka nk kc, .slice ca nc cc] W) wx := TwS.f hs
        have cx : wx.cell? ⟨b, off + i * 2, none⟩ = some (.slice k1 k2 k3) := (HCX.out wx hF.below)
        refine gives_by rfl act.eval rfl ?_
        generalize act.eval = ρ at *
        intro hf hc
        go_simp
        exact ⟨rfl, hs⟩
      · intro k vals act wx hk h hs
        have e2 : act.eval (.tmp 2) = .pointer (some ⟨w.heap.size, 0, none⟩) := h.old 2 (by kernel_rfl)
        clear h
        refine gives_by rfl act.eval rfl ?_
        generalize act.eval = ρ at *
        intro hf hc
        go_simp
        exact ⟨rfl, hs⟩
      · intro k vals act wx hk h hs
        have e20 : act.eval (.tmp 20) = .pointer (some ⟨w.heap.size, 1, none⟩) := h.q 11 20 (by kernel_rfl) rfl
        clear h
        have hF : (fun W => Hf w [.bool true, .slice (some ⟨b, off, none⟩) np pc, .slice ka nk kc, .slice ca nc cc] W) wx := TwS.f hs
        obtain ⟨⟨x0, x1', x2, x3⟩, _⟩ := node_cells hF.box
        refine gives_by rfl act.eval rfl ?_
        generalize act.eval = ρ at *
        intro hf hc
        go_simp
        exact ⟨rfl, hs⟩
      · intro k vals act wx hk h hs
        have e1 : act.eval (.tmp 1) = .int .i64 (i : Int) := h.old 1 (by kernel_rfl)
        clear h
        refine gives_by rfl act.eval rfl ?_
        generalize act.eval = ρ at *
        intro hf hc
        go_simp
        exact ⟨rfl, hs⟩
      · intro k vals act wx hk h hs
        have e21 : act.eval (.tmp 21) = .slice (some ⟨b, off, none⟩) np pc := h.q 12 21 (by kernel_rfl) rfl
        have e22 : act.eval (.tmp 22) = .int .i64 (i : Int) := h.q 13 22 (by kernel_rfl) rfl
        clear h
        refine gives_by rfl act.eval rfl ?_
        generalize act.eval = ρ at *
        intro hf hc
        go_simp
        exact ⟨rfl, hs⟩
      · intro k vals act wx hk h hs
        have e23 : act.eval (.tmp 23) = .slice (some ⟨b, off + IT, none⟩) NI CI := h.q 14 23 (by kernel_rfl) rfl
        clear h
        refine gives_by rfl act.eval rfl ?_
        generalize act.eval = ρ at *
        intro hf hc
        go_simp
        exact ⟨rfl, hs⟩
      · intro vals act wx h hs
        have e4 : act.eval (.tmp 4) = .pointer (some ⟨w.heap.size + 1, 0, none⟩) := h.old 4 (by kernel_rfl)
        have e13 : act.eval (.tmp 13) = .agg #[(.bool true), (.slice (some ⟨b, off, none⟩) i pc), (.slice none 0 0), (.slice none 0 0)] := h.q 4 13 (by kernel_rfl) rfl
        clear h
        obtain ⟨hF, hb1, hb2⟩ : (fun W => Hf w [.bool true, .slice (some ⟨b, off, none⟩) np pc, .slice ka nk kc, .slice ca nc cc] W) wx ∧ Blk wx (w.heap.size + 1) 26 zeroC ∧ Blk wx (w.heap.size + 1 + 1) 26 zeroC := hs
        obtain ⟨⟨d0, d1, d2, d3⟩, k0, k1, k2', k3'⟩ := node_cells hb1
        have ho := laidN_only wx (w.heap.size + 1) (.bool true) (.slice (some ⟨b, off, none⟩) i pc) (.slice none 0 0) (.slice none 0 0)
        have hfin : (fun W => Hf w [.bool true, .slice (some ⟨b, off, none⟩) np pc, .slice ka nk kc, .slice ca nc cc] W) (laidN wx (w.heap.size + 1) (.bool true) (.slice (some ⟨b, off, none⟩) i pc) (.slice none 0 0) (.slice none 0 0)) ∧ Blk (laidN wx (w.heap.size + 1) (.bool true) (.slice (some ⟨b, off, none⟩) i pc) (.slice none 0 0) (.slice none 0 0)) (w.heap.size + 1) 26 [(.bool true), (.slice (some ⟨b, off, none⟩) i pc), (.slice none 0 0), (.slice none 0 0)] ∧ Blk (laidN wx (w.heap.size + 1) (.bool true) (.slice (some ⟨b, off, none⟩) i pc) (.slice none 0 0) (.slice none 0 0)) (w.heap.size + 1 + 1) 26 zeroC := ⟨hF.only ho (fun j hj => by omega), laidN_blk hb1 _ _ _ _, hb2.only ho (by omega)⟩
        clear hF hb1 hb2
        refine gives_by rfl act.eval rfl ?_
        generalize act.eval = ρ at *
        intro hf hc
        go_simp
        exact hfin
      · intro k vals act wx hk h hs
        have e19 : act.eval (.tmp 19) = .slice k1 k2 k3 := h.q 10 19 (by kernel_rfl) rfl
        clear h
        refine gives_by rfl act.eval rfl ?_
        generalize act.eval = ρ at *
        intro hf hc
        go_simp
        exact ⟨rfl, hs⟩
      · intro vals act wx h hs
        have e6 : act.eval (.tmp 6) = .pointer (some ⟨w.heap.size + 1 + 1, 0, none⟩) := h.old 6 (by kernel_rfl)
        have e24 : act.eval (.tmp 24) = .agg #[(.bool true), (.slice (some ⟨b, off + IT, none⟩) NI CI), (.slice none 0 0), (.slice none 0 0)] := h.q 15 24 (by kernel_rfl) rfl
        clear h
        obtain ⟨hF, hb1, hb2⟩ : (fun W => Hf w [.bool true, .slice (some ⟨b, off, none⟩) np pc, .slice ka nk kc, .slice ca nc cc] W) wx ∧ Blk wx (w.heap.size + 1) 26 [(.bool true), (.slice (some ⟨b, off, none⟩) i pc), (.slice none 0 0), (.slice none 0 0)] ∧ Blk wx (w.heap.size + 1 + 1) 26 zeroC := hs
        obtain ⟨⟨d0, d1, d2, d3⟩, k0, k1, k2', k3'⟩ := node_cells hb2
        have ho := laidN_only wx (w.heap.size + 1 + 1) (.bool true) (.slice (some ⟨b, off + IT, none⟩) NI CI) (.slice none 0 0) (.slice none 0 0)
        have hfin : (fun W => Hf w [.bool true, .slice (some ⟨b, off, none⟩) np pc, .slice ka nk kc, .slice ca nc cc] W) (laidN wx (w.heap.size + 1 + 1) (.bool true) (.slice (some ⟨b, off + IT, none⟩) NI CI) (.slice none 0 0) (.slice none 0 0)) ∧ Blk (laidN wx (w.heap.size + 1 + 1) (.bool true) (.slice (some ⟨b, off + IT, none⟩) NI CI) (.slice none 0 0) (.slice none 0 0)) (w.heap.size + 1) 26 [(.bool true), (.slice (some ⟨b, off, none⟩) i pc), (.slice none 0 0), (.slice none 0 0)] ∧ Blk (laidN wx (w.heap.size + 1 + 1) (.bool true) (.slice (some ⟨b, off + IT, none⟩) NI CI) (.slice none 0 0) (.slice none 0 0)) (w.heap.size + 1 + 1) 26 [(.bool true), (.slice (some ⟨b, off + IT, none⟩) NI CI), (.slice none 0 0), (.slice none 0 0)] := ⟨hF.only ho (fun j hj => by omega), hb1.only ho (by omega), laidN_blk hb2 _ _ _ _⟩
        clear hF hb1 hb2
        refine gives_by rfl act.eval rfl ?_
        generalize act.eval = ρ at *
        intro hf hc
        go_simp
        exact hfin
    · intro vals w' hq hs
      have h5 : vals 17 = .slice k1 k2 k3 := hq 17 _ rfl
      obtain ⟨hF, hb1, hb2⟩ : (fun W => Hf w [.bool true, .slice (some ⟨b, off, none⟩) np pc, .slice ka nk kc, .slice ca nc cc] W) w' ∧ Blk w' (w.heap.size + 1) 26 [(.bool true), (.slice (some ⟨b, off, none⟩) i pc), (.slice none 0 0), (.slice none 0 0)] ∧ Blk w' (w.heap.size + 1 + 1) 26 [(.bool true), (.slice (some ⟨b, off + IT, none⟩) NI CI), (.slice none 0 0), (.slice none 0 0)] := hs
      have HF := hide hF
      have HR1 := hide hb1
      have HR2 := hide hb2
      clear hq hF hb1 hb2
      simp only [putAll, Act.put, List.setIfInBounds_toArray, List.set_cons_zero, List.set_cons_succ, Nat.zero_add, Nat.reduceAdd, h5]
      (try go_wp2)
      (try simp only [Exit.inBlock, Exit.then])
      refine bodyPost_ret (ret_node3 rfl _ _ (w.heap.size + 1) (w.heap.size + 1 + 1) _ _ _ _ _ _ _ _ _ rfl rfl rfl HR1.out HR2.out) rfl ?_
      have hb := HF.out.below
      rw [HHA.out, HHB.out, HHK.out]
      exact ⟨_, k1, k2, k3, _, rfl, ⟨_, _, _, _, [], rfl, HPA.out, Bss.nil _, Is.nil' _⟩, HSK.out, ⟨_, _, _, _, [], rfl, HPB.out, Bss.nil _, Is.nil' _⟩, hb⟩
  | false =>
    obtain ⟨hin, hcn, hkl⟩ := hi hlf
    rw [hlf] at HHA HHB HHK
    simp only [Bool.false_eq_true, if_false] at HHA HHB HHK
    obtain ⟨b, off, rfl, hrg, hsk⟩ := hK.at i (by omega)
    obtain ⟨b', off', rfl, -⟩ := hC.at 0 (by omega)
    have HKA := hide (hK.take i kc (by omega) (by omega) hk2)
    have HKB := hide (hK.drop (i + 1) (by omega))
    have HCA := hide (hC.take (n := i + 1) (by omega) cc (by omega) hc2)
    have HCB := hide (hC.drop (i + 1) (by omega))
    obtain ⟨x1, hx1⟩ : ∃ x, x = ys.getD i nilS := ⟨_, rfl⟩
    rw [← hx1] at hsk hrg
    obtain ⟨k1, k2, k3, hkf⟩ := sl_form hsk
    rw [hkf] at hsk hrg
    obtain ⟨nk, hnk⟩ : ∃ m, n.ks.length = m := ⟨_, rfl⟩
    obtain ⟨nc, hnc⟩ : ∃ m, n.cs.length = m := ⟨_, rfl⟩
    rw [hnk] at hin hk1 hkl hcn HKB ⊢
    rw [hnc] at hcn hc1 HCB ⊢
    generalize n.ps.length = np at *
    obtain ⟨I1, hI1⟩ : ∃ x, x = i + 1 := ⟨_, rfl⟩
    obtain ⟨NK, hNK⟩ : ∃ x, x = nk - I1 := ⟨_, rfl⟩
    obtain ⟨CK, hCK⟩ : ∃ x, x = kc - I1 := ⟨_, rfl⟩
    obtain ⟨NC, hNC⟩ : ∃ x, x = nc - I1 := ⟨_, rfl⟩
    obtain ⟨CC, hCC⟩ : ∃ x, x = cc - I1 := ⟨_, rfl⟩
    have ct1 := fun wx => cut_hi (P := Try.prog) 23 34 1 Try.underlying23 sizeRowE (some ⟨b, off, none⟩) nk kc i (by omega) (by omega) (by unfold maxLen; omega) wx
    have ct2 := fun wx => cut_hi (P := Try.prog) 24 3 1 Try.underlying24 sizeIntE (some ⟨b', off', none⟩) nc cc I1 (by omega) (by omega) (by unfold maxLen; omega) wx
    have ct3 := fun wx => cut_low (P := Try.prog) 23 34 1 Try.underlying23 sizeRowE (some ⟨b, off, none⟩) nk kc I1 (by omega) hk1 (by omega) (by unfold maxLen; omega) wx
    have ct4 := fun wx => cut_low (P := Try.prog) 24 3 1 Try.underlying24 sizeIntE (some ⟨b', off', none⟩) nc cc I1 (by omega) hc1 (by omega) (by unfold maxLen; omega) wx
    simp only [← hI1] at HKB HCA HCB HHA HHB
    simp only [Option.map_some, Addr.add_mid, Nat.mul_one, ← hNK, ← hCK, ← hNC, ← hCC] at ct3 ct4 HKB HCB
    have hii : (i : Int) < (nk : Int) := by omega
    have hI1i : (i : Int) + 1 = (I1 : Int) := by omega
    have hwI : IntKind.i64.wrap (I1 : Int) = (I1 : Int) := IntWalk.i64_in _ (by omega)
    have HSK := hide hsk
    have HCE := hide hrg
    obtain ⟨W, hW⟩ : ∃ W, W = (((w.alloc (.cells #[.bool false, .slice pa np pc, .slice (some ⟨b, off, none⟩) nk kc, .slice (some ⟨b', off', none⟩) nc cc] 26)).alloc (.cells #[.bool false, .slice none 0 0, .slice none 0 0, .slice none 0 0] 26)).alloc (.cells #[.bool false, .slice none 0 0, .slice none 0 0, .slice none 0 0] 26)) := ⟨_, rfl⟩
    have HF0 : Hid (Hf w [.bool false, .slice pa np pc, .slice (some ⟨b, off, none⟩) nk kc, .slice (some ⟨b', off', none⟩) nc cc] W) := by
      rw [hW]
      exact ⟨(((Below.refl _ w).alloc (Nat.le_refl _) _).alloc (by simp) _).alloc (by simp <;> omega) _, hA0 _ _ _ _, by simp <;> omega⟩
    have HZ1 : Hid (Blk W (w.heap.size + 1) 26 zeroC) := by
      rw [hW]
      have := (Blk.new (w.alloc (.cells #[.bool false, .slice pa np pc, .slice (some ⟨b, off, none⟩) nk kc, .slice (some ⟨b', off', none⟩) nc cc] 26)) 26 zeroC).alloc (.cells #[.bool false, .slice none 0 0, .slice none 0 0, .slice none 0 0] 26)
      rw [World.size_alloc] at this
      exact this
    have HZ2 : Hid (Blk W (w.heap.size + 1 + 1) 26 zeroC) := by
      rw [hW]
      have := Blk.new ((w.alloc (.cells #[.bool false, .slice pa np pc, .slice (some ⟨b, off, none⟩) nk kc, .slice (some ⟨b', off', none⟩) nc cc] 26)).alloc (.cells #[.bool false, .slice none 0 0, .slice none 0 0, .slice none 0 0] 26)) 26 zeroC
      rw [World.size_alloc, World.size_alloc] at this
      exact this
    have HCX : Hid (∀ wx, Below w.heap.size w wx → wx.cell? ⟨b, off + i, none⟩ = some (.slice k1 k2 k3)) := fun wx hb => by
      rw [World.cell?_of_block (w := w0) ((hb0.trans (hb.mono hb0.size)).block b (World.block_lt_of_cell? w0 _ HCE.out))]
      exact HCE.out
    have HW := hide hW
    have hIb : I1 ≤ 1001 := by omega
    clear hP hK hC h hA0 hrg hsk hW hx1 hkf hl hi hNK hCK hNC hCC hI1 hcn
    go_enter Try.func83, Try.ntmps83
    go_wp2
    rw [← HW.out]
    refine wp_region_chain [some (.pointer (some ⟨w.heap.size, 2, none⟩)), some (.slice (some ⟨b, off, none⟩) nk kc), some (.int .i64 (i : Int)), some (.slice (some ⟨b, off, none⟩) i kc), some (.pointer (some ⟨w.heap.size, 3, none⟩)), some (.slice (some ⟨b', off', none⟩) nc cc), some (.int .i64 (i : Int)), some (.int .i64 (I1 : Int)), some (.slice (some ⟨b', off', none⟩) I1 cc), some (.agg #[(.bool false), (.slice none 0 0), (.slice (some ⟨b, off, none⟩) i kc), (.slice (some ⟨b', off', none⟩) I1 cc)]), some (.pointer (some ⟨w.heap.size, 2, none⟩)), some (.slice (some ⟨b, off, none⟩) nk kc), some (.int .i64 (i : Int)), some (.pointer (some ⟨b, off + i, none⟩)), some (.slice k1 k2 k3), some (.pointer (some ⟨w.heap.size, 2, none⟩)), some (.slice (some ⟨b, off, none⟩) nk kc), some (.int .i64 (i : Int)), some (.int .i64 (I1 : Int)), some (.slice (some ⟨b, off + I1, none⟩) NK CK), some (.pointer (some ⟨w.heap.size, 3, none⟩)), some (.slice (some ⟨b', off', none⟩) nc cc), some (.int .i64 (i : Int)), some (.int .i64 (I1 : Int)), some (.slice (some ⟨b', off' + I1, none⟩) NC CC), some (.agg #[(.bool false), (.slice none 0 0), (.slice (some ⟨b, off + I1, none⟩) NK CK), (.slice (some ⟨b', off' + I1, none⟩) NC CC)]), none, some (.slice k1 k2 k3), none] [26, 28] (TwS (fun W => Hf w [.bool false, .slice pa np pc, .slice (some ⟨b, off, none⟩) nk kc, .slice (some ⟨b', off', none⟩) nc cc] W) (w.heap.size + 1) (w.heap.size + 1 + 1) [(.bool false), (.slice none 0 0), (.slice (some ⟨b, off, none⟩) i kc), (.slice (some ⟨b', off', none⟩) I1 cc)] [(.bool false), (.slice none 0 0), (.slice (some ⟨b, off + I1, none⟩) NK CK), (.slice (some ⟨b', off' + I1, none⟩) NC CC)]) 51 (by kernel_rfl) (by kernel_rfl) (by kernel_rfl) (by kernel_rfl) rfl ?_ ?_ ?_
    · intro vals0
      have ho := (Only.refl (fun _ => False) W).drew
      exact (⟨HF0.out.only ho (fun _ h => h.elim), HZ1.out.only ho (fun h => h), HZ2.out.only ho (fun h => h)⟩ : (fun W => Hf w [.bool false, .slice pa np pc, .slice (some ⟨b, off, none⟩) nk kc, .slice (some ⟨b', off', none⟩) nc cc] W) W.drew ∧ Blk W.drew (w.heap.size + 1) 26 zeroC ∧ Blk W.drew (w.heap.size + 1 + 1) 26 zeroC)
    · refine ⟨?_, ?_, ?_, ?_, ?_, ?_, ?_, ?_, ?_, ?_, ?_, ?_, ?_, ?_, ?_, ?_, ?_, ?_, ?_, ?_, ?_, ?_, ?_, ?_, ?_, ?_, ?_, ?_, ?_, trivial⟩
      · intro k vals act wx hk h hs
        have e2 : act.eval (.tmp 2) = .pointer (some ⟨w.heap.size, 0, none⟩) := h.old 2 (by kernel_rfl)
        clear h
        refine gives_by rfl act.eval rfl ?_
        generalize act.eval = ρ at *
        intro hf hc
        go_simp
        exact ⟨rfl, hs⟩
      · intro k vals act wx hk h hs
        have e25 : act.eval (.tmp 25) = .pointer (some ⟨w.heap.size, 2, none⟩) := h.q 0 25 (by kernel_rfl) rfl
        clear h
        have hF : (fun W => Hf w [.bool false, .slice pa np pc, .slice (some ⟨b, off, none⟩) nk kc, .slice (some ⟨b', off', none⟩) nc cc] W) wx := TwS.f hs
        obtain ⟨⟨x0, x1', x2, x3⟩, _⟩ := node_cells hF.box
        refine gives_by rfl act.eval rfl ?_
        generalize act.eval = ρ at *
        intro hf hc
        go_simp
        exact ⟨rfl, hs⟩
      · intro k vals act wx hk h hs
        have e1 : act.eval (.tmp 1) = .int .i64 (i : Int) := h.old 1 (by kernel_rfl)
        clear h
        refine gives_by rfl act.eval rfl ?_
        generalize act.eval = ρ at *
        intro hf hc
        go_simp
        exact ⟨rfl, hs⟩
      · intro k vals act wx hk h hs
        have e26 : act.eval (.tmp 26) = .slice (some ⟨b, off, none⟩) nk kc := h.q 1 26 (by kernel_rfl) rfl
        have e27 : act.eval (.tmp 27) = .int .i64 (i : Int) := h.q 2 27 (by kernel_rfl) rfl
        clear h
        refine gives_by rfl act.eval rfl ?_
        generalize act.eval = ρ at *
        intro hf hc
        go_simp
        exact ⟨rfl, hs⟩
      · intro k vals act wx hk h hs
        have e2 : act.eval (.tmp 2) = .pointer (some ⟨w.heap.size, 0, none⟩) := h.old 2 (by kernel_rfl)
        clear h
        refine gives_by rfl act.eval rfl ?_
        generalize act.eval = ρ at *
        intro hf hc
        go_simp
        exact ⟨rfl, hs⟩
      · intro k vals act wx hk h hs
        have e29 : act.eval (.tmp 29) = .pointer (some ⟨w.heap.size, 3, none⟩) := h.q 4 29 (by kernel_rfl) rfl
        clear h
        have hF : (fun W => Hf w [.bool false, .slice pa np pc, .slice (some ⟨b, off, none⟩) nk kc, .slice (some ⟨b', off', none⟩) nc cc] W) wx := TwS.f hs
        obtain ⟨⟨x0, x1', x2, x3⟩, _⟩ := node_cells hF.box
        refine gives_by rfl act.eval rfl ?_
        generalize act.eval = ρ at *
        intro hf hc
        go_simp
        exact ⟨rfl, hs⟩
      · intro k vals act wx hk h hs
        have e1 : act.eval (.tmp 1) = .int .i64 (i : Int) := h.old 1 (by kernel_rfl)
        clear h
        refine gives_by rfl act.eval rfl ?_
        generalize act.eval = ρ at *
        intro hf hc
        go_simp
        exact ⟨rfl, hs⟩
      · intro k vals act wx hk h hs
        have e31 : act.eval (.tmp 31) = .int .i64 (i : Int) := h.q 6 31 (by kernel_rfl) rfl
        clear h
        refine gives_by rfl act.eval rfl ?_
        generalize act.eval = ρ at *
        intro hf hc
        go_simp
        exact ⟨rfl, hs⟩
      · intro k vals act wx hk h hs
        have e30 : act.eval (.tmp 30) = .slice (some ⟨b', off', none⟩) nc cc := h.q 5 30 (by kernel_rfl) rfl
        have e32 : act.eval (.tmp 32) = .int .i64 (I1 : Int) := h.q 7 32 (by kernel_rfl) rfl
        clear h
        refine gives_by rfl act.eval rfl ?_
        generalize act.eval = ρ at *
        intro hf hc
        go_simp
        exact ⟨rfl, hs⟩
      · intro k vals act wx hk h hs
        have e28 : act.eval (.tmp 28) = .slice (some ⟨b, off, none⟩) i kc := h.q 3 28 (by kernel_rfl) rfl
        have e33 : act.eval (.tmp 33) = .slice (some ⟨b', off', none⟩) I1 cc := h.q 8 33 (by kernel_rfl) rfl
        clear h
        refine gives_by rfl act.eval rfl ?_
        generalize act.eval = ρ at *
        intro hf hc
        go_simp
        exact ⟨rfl, hs⟩
      · intro k vals act wx hk h hs
        have e2 : act.eval (.tmp 2) = .pointer (some ⟨w.heap.size, 0, none⟩) := h.old 2 (by kernel_rfl)
        clear h
        refine gives_by rfl act.eval rfl ?_
        generalize act.eval = ρ at *
        intro hf hc
        go_simp
        exact ⟨rfl, hs⟩
      · intro k vals act wx hk h hs
        have e35 : act.eval (.tmp 35) = .pointer (some ⟨w.heap.size, 2, none⟩) := h.q 10 35 (by kernel_rfl) rfl
        clear h
        have hF : (fun W => Hf w [.bool false, .slice pa np pc, .slice (some ⟨b, off, none⟩) nk kc, .slice (some ⟨b', off', none⟩) nc cc] W) wx := TwS.f hs
        obtain ⟨⟨x0, x1', x2, x3⟩, _⟩ := node_cells hF.box
        refine gives_by rfl act.eval rfl ?_
        generalize act.eval = ρ at *
        intro hf hc
        go_simp
        exact ⟨rfl, hs⟩
      · intro k vals act wx hk h hs
        have e1 : act.eval (.tmp 1) = .int .i64 (i : Int) := h.old 1 (by kernel_rfl)
        clear h
        refine gives_by rfl act.eval rfl ?_
        generalize act.eval = ρ at *
        intro hf hc
        go_simp
        exact ⟨rfl, hs⟩
      · intro k vals act wx hk h hs
        have e36 : act.eval (.tmp 36) = .slice (some ⟨b, off, none⟩) nk kc := h.q 11 36 (by kernel_rfl) rfl
        have e37 : act.eval (.tmp 37) = .int .i64 (i : Int) := h.q 12 37 (by kernel_rfl) rfl
        clear h
        have hF : (fun W => Hf w [.bool false, .slice pa np pc, .slice (some ⟨b, off, none⟩) nk kc, .slice (some ⟨b', off', none⟩) nc cc] W) wx := TwS.f hs
        refine gives_by rfl act.eval rfl ?_
        generalize act.eval = ρ at *
        intro hf hc
        go_simp
        exact ⟨rfl, hs⟩
      · intro k vals act wx hk h hs
        have e38 : act.eval (.tmp 38) = .pointer (some ⟨b, off + i, none⟩) := h.q 13 38 (by kernel_rfl) rfl
        clear h
        have hF : (fun W => Hf w [.bool false, .slice pa np pc, .slice (some ⟨b, off, none⟩) nk kc, .slice (some ⟨b', off', none⟩) nc cc] W) wx := TwS.f hs
        have cx := HCX.out wx hF.below
        refine gives_by rfl act.eval rfl ?_
        generalize act.eval = ρ at *
        intro hf hc
        go_simp
        exact ⟨rfl, hs⟩
      · intro k vals act wx hk h hs
        have e2 : act.eval (.tmp 2) = .pointer (some ⟨w.heap.size, 0, none⟩) := h.old 2 (by kernel_rfl)
        clear h
        refine gives_by rfl act.eval rfl ?_
        generalize act.eval = ρ at *
        intro hf hc
        go_simp
        exact ⟨rfl, hs⟩
      · intro k vals act wx hk h hs
        have e40 : act.eval (.tmp 40) = .pointer (some ⟨w.heap.size, 2, none⟩) := h.q 15 40 (by kernel_rfl) rfl
        clear h
        have hF : (fun W => Hf w [.bool false, .slice pa np pc, .slice (some ⟨b, off, none⟩) nk kc, .slice (some ⟨b', off', none⟩) nc cc] W) wx := TwS.f hs
        obtain ⟨⟨x0, x1', x2, x3⟩, _⟩ := node_cells hF.box
        refine gives_by rfl act.eval rfl ?_
        generalize act.eval = ρ at *
        intro hf hc
        go_simp
        exact ⟨rfl, hs⟩
      · intro k vals act wx hk h hs
        have e1 : act.eval (.tmp 1) = .int .i64 (i : Int) := h.old 1 (by kernel_rfl)
        clear h
        refine gives_by rfl act.eval rfl ?_
        generalize act.eval = ρ at *
        intro hf hc
        go_simp
        exact ⟨rfl, hs⟩
      · intro k vals act wx hk h hs
        have e42 : act.eval (.tmp 42) = .int .i64 (i : Int) := h.q 17 42 (by kernel_rfl) rfl
        clear h
        refine gives_by rfl act.eval rfl ?_
        generalize act.eval = ρ at *
        intro hf hc
        go_simp
        exact ⟨rfl, hs⟩
      · intro k vals act wx hk h hs
        have e41 : act.eval (.tmp 41) = .slice (some ⟨b, off, none⟩) nk kc := h.q 16 41 (by kernel_rfl) rfl
        have e43 : act.eval (.tmp 43) = .int .i64 (I1 : Int) := h.q 18 43 (by kernel_rfl) rfl
        clear h
        refine gives_by rfl act.eval rfl ?_
        generalize act.eval = ρ at *
        intro hf hc
        go_simp
        exact ⟨rfl, hs⟩
      · intro k vals act wx hk h hs
        have e2 : act.eval (.tmp 2) = .pointer (some ⟨w.heap.size, 0, none⟩) := h.old 2 (by kernel_rfl)
        clear h
        refine gives_by rfl act.eval rfl ?_
        generalize act.eval = ρ at *
        intro hf hc
        go_simp
        exact ⟨rfl, hs⟩
      · intro k vals act wx hk h hs
        have e45 : act.eval (.tmp 45) = .pointer (some ⟨w.heap.size, 3, none⟩) := h.q 20 45 (by kernel_rfl) rfl
        clear h
        have hF : (fun W => Hf w [.bool false, .slice pa np pc, .slice (some ⟨b, off, none⟩) nk kc, .slice (some ⟨b', off', none⟩) nc cc] W) wx := TwS.f hs
        obtain ⟨⟨x0, x1', x2, x3⟩, _⟩ := node_cells hF.box
        refine gives_by rfl act.eval rfl ?_
        generalize act.eval = ρ at *
        intro hf hc
        go_simp
        exact ⟨rfl, hs⟩
      · intro k vals act wx hk h hs
        have e1 : act.eval (.tmp 1) = .int .i64 (i : Int) := h.old 1 (by kernel_rfl)
        clear h
        refine gives_by rfl act.eval rfl ?_
        generalize act.eval = ρ at *
        intro hf hc
        go_simp
        exact ⟨rfl, hs⟩
      · intro k vals act wx hk h hs
        have e47 : act.eval (.tmp 47) = .int .i64 (i : Int) := h.q 22 47 (by kernel_rfl) rfl
        clear h
        refine gives_by rfl act.eval rfl ?_
        generalize act.eval = ρ at *
        intro hf hc
        go_simp
        exact ⟨rfl, hs⟩
      · intro k vals act wx hk h hs
        have e46 : act.eval (.tmp 46) = .slice (some ⟨b', off', none⟩) nc cc := h.q 21 46 (by kernel_rfl) rfl
        have e48 : act.eval (.tmp 48) = .int .i64 (I1 : Int) := h.q 23 48 (by kernel_rfl) rfl
        clear h
        refine gives_by rfl act.eval rfl ?_
        generalize act.eval = ρ at *
        intro hf hc
        go_simp
        exact ⟨rfl, hs⟩
      · intro k vals act wx hk h hs
        have e44 : act.eval (.tmp 44) = .slice (some ⟨b, off + I1, none⟩) NK CK := h.q 19 44 (by kernel_rfl) rfl
        have e49 : act.eval (.tmp 49) = .slice (some ⟨b', off' + I1, none⟩) NC CC := h.q 24 49 (by kernel_rfl) rfl
        clear h
        refine gives_by rfl act.eval rfl ?_
        generalize act.eval = ρ at *
        intro hf hc
        go_simp
        exact ⟨rfl, hs⟩
      · intro vals act wx h hs
        have e4 : act.eval (.tmp 4) = .pointer (some ⟨w.heap.size + 1, 0, none⟩) := h.old 4 (by kernel_rfl)
        have e34 : act.eval (.tmp 34) = .agg #[(.bool false), (.slice none 0 0), (.slice (some ⟨b, off, none⟩) i kc), (.slice (some ⟨b', off', none⟩) I1 cc)] := h.q 9 34 (by kernel_rfl) rfl
        clear h
        obtain ⟨hF, hb1, hb2⟩ : (fun W => Hf w [.bool false, .slice pa np pc, .slice (some ⟨b, off, none⟩) nk kc, .slice (some ⟨b', off', none⟩) nc cc] W) wx ∧ Blk wx (w.heap.size + 1) 26 zeroC ∧ Blk wx (w.heap.size + 1 + 1) 26 zeroC := hs
        obtain ⟨⟨d0, d1, d2, d3⟩, k0, k1, k2', k3'⟩ := node_cells hb1
        have ho := laidN_only wx (w.heap.size + 1) (.bool false) (.slice none 0 0) (.slice (some ⟨b, off, none⟩) i kc) (.slice (some ⟨b', off', none⟩) I1 cc)
        have hfin : (fun W => Hf w [.bool false, .slice pa np pc, .slice (some ⟨b, off, none⟩) nk kc, .slice (some ⟨b', off', none⟩) nc cc] W) (laidN wx (w.heap.size + 1) (.bool false) (.slice none 0 0) (.slice (some ⟨b, off, none⟩) i kc) (.slice (some ⟨b', off', none⟩) I1 cc)) ∧ Blk (laidN wx (w.heap.size + 1) (.bool false) (.slice none 0 0) (.slice (some ⟨b, off, none⟩) i kc) (.slice (some ⟨b', off', none⟩) I1 cc)) (w.heap.size + 1) 26 [(.bool false), (.slice none 0 0), (.slice (some ⟨b, off, none⟩) i kc), (.slice (some ⟨b', off', none⟩) I1 cc)] ∧ Blk (laidN wx (w.heap.size + 1) (.bool false) (.slice none 0 0) (.slice (some ⟨b, off, none⟩) i kc) (.slice (some ⟨b', off', none⟩) I1 cc)) (w.heap.size + 1 + 1) 26 zeroC := ⟨hF.only ho (fun j hj => by omega), laidN_blk hb1 _ _ _ _, hb2.only ho (by omega)⟩
        clear hF hb1 hb2
        refine gives_by rfl act.eval rfl ?_
        generalize act.eval = ρ at *
        intro hf hc
        go_simp
        exact hfin
      · intro k vals act wx hk h hs
        have e39 : act.eval (.tmp 39) = .slice k1 k2 k3 := h.q 14 39 (by kernel_rfl) rfl
        clear h
        refine gives_by rfl act.eval rfl ?_
        generalize act.eval = ρ at *
        intro hf hc
        go_simp
        exact ⟨rfl, hs⟩
      · intro vals act wx h hs
        have e6 : act.eval (.tmp 6) = .pointer (some ⟨w.heap.size + 1 + 1, 0, none⟩) := h.old 6 (by kernel_rfl)
        have e50 : act.eval (.tmp 50) = .agg #[(.bool false), (.slice none 0 0), (.slice (some ⟨b, off + I1, none⟩) NK CK), (.slice (some ⟨b', off' + I1, none⟩) NC CC)] := h.q 25 50 (by kernel_rfl) rfl
        clear h
        obtain ⟨hF, hb1, hb2⟩ : (fun W => Hf w [.bool false, .slice pa np pc, .slice (some ⟨b, off, none⟩) nk kc, .slice (some ⟨b', off', none⟩) nc cc] W) wx ∧ Blk wx (w.heap.size + 1) 26 [(.bool false), (.slice none 0 0), (.slice (some ⟨b, off, none⟩) i kc), (.slice (some ⟨b', off', none⟩) I1 cc)] ∧ Blk wx (w.heap.size + 1 + 1) 26 zeroC := hs
        obtain ⟨⟨d0, d1, d2, d3⟩, k0, k1, k2', k3'⟩ := node_cells hb2
        have ho := laidN_only wx (w.heap.size + 1 + 1) (.bool false) (.slice none 0 0) (.slice (some ⟨b, off + I1, none⟩) NK CK) (.slice (some ⟨b', off' + I1, none⟩) NC CC)
        have hfin : (fun W => Hf w [.bool false, .slice pa np pc, .slice (some ⟨b, off, none⟩) nk kc, .slice (some ⟨b', off', none⟩) nc cc] W) (laidN wx (w.heap.size + 1 + 1) (.bool false) (.slice none 0 0) (.slice (some ⟨b, off + I1, none⟩) NK CK) (.slice (some ⟨b', off' + I1, none⟩) NC CC)) ∧ Blk (laidN wx (w.heap.size + 1 + 1) (.bool false) (.slice none 0 0) (.slice (some ⟨b, off + I1, none⟩) NK CK) (.slice (some ⟨b', off' + I1, none⟩) NC CC)) (w.heap.size + 1) 26 [(.bool false), (.slice none 0 0), (.slice (some ⟨b, off, none⟩) i kc), (.slice (some ⟨b', off', none⟩) I1 cc)] ∧ Blk (laidN wx (w.heap.size + 1 + 1) (.bool false) (.slice none 0 0) (.slice (some ⟨b, off + I1, none⟩) NK CK) (.slice (some ⟨b', off' + I1, none⟩) NC CC)) (w.heap.size + 1 + 1) 26 [(.bool false), (.slice none 0 0), (.slice (some ⟨b, off + I1, none⟩) NK CK), (.slice (some ⟨b', off' + I1, none⟩) NC CC)] := ⟨hF.only ho (fun j hj => by omega), hb1.only ho (by omega), laidN_blk hb2 _ _ _ _⟩
        clear hF hb1 hb2
        refine gives_by rfl act.eval rfl ?_
        generalize act.eval = ρ at *
        intro hf hc
        go_simp
        exact hfin
    · intro vals w' hq hs
      have h5 : vals 27 = .slice k1 k2 k3 := hq 27 _ rfl
      obtain ⟨hF, hb1, hb2⟩ : (fun W => Hf w [.bool false, .slice pa np pc, .slice (some ⟨b, off, none⟩) nk kc, .slice (some ⟨b', off', none⟩) nc cc] W) w' ∧ Blk w' (w.heap.size + 1) 26 [(.bool false), (.slice none 0 0), (.slice (some ⟨b, off, none⟩) i kc), (.slice (some ⟨b', off', none⟩) I1 cc)] ∧ Blk w' (w.heap.size + 1 + 1) 26 [(.bool false), (.slice none 0 0), (.slice (some ⟨b, off + I1, none⟩) NK CK), (.slice (some ⟨b', off' + I1, none⟩) NC CC)] := hs
      have HF := hide hF
      have HR1 := hide hb1
      have HR2 := hide hb2
      clear hq hF hb1 hb2
      simp only [putAll, Act.put, List.setIfInBounds_toArray, List.set_cons_zero, List.set_cons_succ, Nat.zero_add, Nat.reduceAdd, h5]
      (try go_wp2)
      (try simp only [Exit.inBlock, Exit.then])
      refine bodyPost_ret (ret_node3 rfl _ _ (w.heap.size + 1) (w.heap.size + 1 + 1) _ _ _ _ _ _ _ _ _ rfl rfl rfl HR1.out HR2.out) rfl ?_
      have hb := HF.out.below
      rw [HHA.out, HHB.out, HHK.out]
      exact ⟨_, k1, k2, k3, _, rfl, ⟨_, _, _, [], _, rfl, Prs.nil _, HKA.out, HCA.out⟩, HSK.out, ⟨_, _, _, [], _, rfl, Prs.nil _, HKB.out, HCB.out⟩, hb⟩

end Go.Proofs.Ythnppkeifhnceaa
