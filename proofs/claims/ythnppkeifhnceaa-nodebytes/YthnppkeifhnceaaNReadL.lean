/- Contract: what is read of a leaf's bytes (node.readLeaf). -/
import Derived.Test.YthnppkeifhnceaaNRg
namespace Go.Proofs.Ythnppkeifhnceaa
set_option maxRecDepth 20000
open Go.RowKit Go.Shelf
set_option linter.unusedVariables false
set_option linter.unusedSimpArgs false
set_option maxRecDepth 100000
attribute [local go_sem] Oper.semAt_some

theorem getD_snoc {α : Type} (l : List α) (x d : α) (i : Nat) (hi : i < l.length + 1) : (l ++ [x]).getD i d = if i < l.length then l.getD i d else x := by
  by_cases h : i < l.length
  · rw [if_pos h]; simp [List.getD, List.getElem?_append_left h]
  · obtain rfl : i = l.length := by omega
    rw [if_neg (by omega)]; simp [List.getD]
/-- one pair more is known -/
theorem pairs_snoc {zs : List (Value × Value)} {ps : List (List Int × List Int)} {ex ex' : List (Value × List Int)} {k v : Value} {q1 q2 : List Int} (hl : zs.length = ps.length) (hs : ∀ x ∈ ex, x ∈ ex') (hk : (k, q1) ∈ ex') (hv : (v, q2) ∈ ex')
    (h : ∀ i, i < ps.length → ((zs.getD i nil2).1, (ps.getD i ([], [])).1) ∈ ex ∧ ((zs.getD i nil2).2, (ps.getD i ([], [])).2) ∈ ex) :
    ∀ i, i < (ps ++ [(q1, q2)]).length → (((zs ++ [(k, v)]).getD i nil2).1, ((ps ++ [(q1, q2)]).getD i ([], [])).1) ∈ ex' ∧ (((zs ++ [(k, v)]).getD i nil2).2, ((ps ++ [(q1, q2)]).getD i ([], [])).2) ∈ ex' := fun i hi => by
  rw [List.length_append, List.length_singleton] at hi
  rw [getD_snoc _ _ _ _ (by omega), getD_snoc _ _ _ _ (by omega), hl]
  by_cases h1 : i < ps.length
  · rw [if_pos h1, if_pos h1]; exact ⟨hs _ (h i h1).1, hs _ (h i h1).2⟩
  · rw [if_neg h1, if_neg h1]; exact ⟨hk, hv⟩
theorem oks_snoc {ps : List (List Int × List Int)} {q1 q2 : List Int} (h1 : ByteOk q1) (h2 : ByteOk q2) (h : ∀ i, i < ps.length → ByteOk (ps.getD i ([], [])).1 ∧ ByteOk (ps.getD i ([], [])).2) :
    ∀ i, i < (ps ++ [(q1, q2)]).length → ByteOk ((ps ++ [(q1, q2)]).getD i ([], [])).1 ∧ ByteOk ((ps ++ [(q1, q2)]).getD i ([], [])).2 := fun i hi => by
  rw [List.length_append, List.length_singleton] at hi
  rw [getD_snoc _ _ _ _ (by omega)]
  by_cases h3 : i < ps.length
  · rw [if_pos h3]; exact h i h3
  · rw [if_neg h3]; exact ⟨h1, h2⟩

/-- a pair more: how far the region is (W0: a reader of zr, er behind the key's text) -/
def RlS (w : World) (lim cb b : Nat) (zr : List Int) (er : Int) (p0 kv : Value) (xs : List (Value × Value)) (ex : List (Value × List Int)) : Nat → (Nat → Value) → World → Prop := fun i vals W => match i with
  | 0 => Ng w lim cb (RdR b lim zr er) true p0 nilS nilS p0 nilS nilS xs [] [] ex W
  | 1 => Ng w lim cb (RdR b lim (textS zr er 24).2.1 (textS zr er 24).2.2) true p0 nilS nilS p0 nilS nilS xs [] [] (ex ++ [(vals 4, (textS zr er 24).1)]) W
  | 2 => Ng w lim cb (RdR b lim (textS zr er 24).2.1 (textS zr er 24).2.2) true p0 nilS nilS p0 nilS nilS xs [] [] (ex ++ [(vals 4, (textS zr er 24).1)]) W ∧ vals 5 = .agg #[kv, vals 4]
  | 3 => Ng w lim cb (RdR b lim (textS zr er 24).2.1 (textS zr er 24).2.2) true p0 nilS nilS p0 nilS nilS xs [] [] (ex ++ [(vals 4, (textS zr er 24).1)]) W ∧ ∃ g, vals 6 = .slice (some ⟨g, 0, none⟩) 1 1 ∧ Blk W g 36 [kv, vals 4]
  | 4 => Ng w lim cb (RdR b lim (textS zr er 24).2.1 (textS zr er 24).2.2) true p0 nilS nilS (vals 7) nilS nilS (xs ++ [(kv, vals 4)]) [] [] (ex ++ [(vals 4, (textS zr er 24).1)]) W ∧ ∃ a n c, vals 7 = .slice a n c
  | _ => Ng w lim cb (RdR b lim (textS zr er 24).2.1 (textS zr er 24).2.2) true (vals 7) nilS nilS (vals 7) nilS nilS (xs ++ [(kv, vals 4)]) [] [] (ex ++ [(vals 4, (textS zr er 24).1)]) W
theorem RlS.cell {w : World} {lim cb b : Nat} {zr : List Int} {er : Int} {p0 kv : Value} {xs : List (Value × Value)} {ex : List (Value × List Int)} {i : Nat} {vals : Nat → Value} {W : World} (h : RlS w lim cb b zr er p0 kv xs ex i vals W) (hi : i < 5) : W.cell? ⟨cb, 1, none⟩ = some p0 := by
  match i, hi, h with
  | 0, _, h => exact h.cbox.cell 1
  | 1, _, h => exact h.cbox.cell 1
  | 2, _, ⟨h, _⟩ => exact h.cbox.cell 1
  | 3, _, ⟨h, _⟩ => exact h.cbox.cell 1
  | 4, _, ⟨h, _⟩ => exact h.cbox.cell 1

set_option maxHeartbeats 4000000 in
theorem readLeaf_any (w : World) (v : Value) (zs : List Int) (h : Sl w v zs) (hl : zs.length ≤ 50000) :
    Calls Try.prog 58 #[v] w fun e w' => ∃ u, e = .returned u ∧ NdN w' w.heap.size u (rdLeaf zs) ∧ Below w.heap.size w w' := by
  have hok := h.bytes
  obtain ⟨ao, cap, rfl⟩ := sl_form' h
  have hB0 : Blk (w.alloc (.cells #[.bool false, .slice none 0 0, .slice none 0 0, .slice none 0 0] 26)) w.heap.size 26 [.bool false, .slice none 0 0, .slice none 0 0, .slice none 0 0] := Blk.new w _ _
  have hb0 : Below w.heap.size w (w.alloc (.cells #[.bool false, .slice none 0 0, .slice none 0 0, .slice none 0 0] 26)) := (Below.refl _ w).alloc (Nat.le_refl _) _
  have HR0 := hide (read_k _ _ zs (h.below hb0) (by omega))
  have HRL : Hid (rdLeaf zs = ⟨true, rdP (numOf (takeS zs 0 1).1) (takeS zs 0 1).2.1 (takeS zs 0 1).2.2, [], []⟩) := rfl
  have ht1 := (takeS_ok zs 0 1 hok).2
  have hn1 : numOf (takeS zs 0 1).1 < 256 ^ 1 := numOf_takeS zs 0 1 hok
  obtain ⟨N, hN⟩ : ∃ N, N = numOf (takeS zs 0 1).1 := ⟨_, rfl⟩
  have HU : Hid (∀ wx b lim, RdK wx b lim zs 0 → Calls Try.prog 88 #[.pointer (some ⟨b, 0, none⟩)] wx fun e w' => e = .returned (.int .u8 (N : Int)) ∧ wx.grownBy w' (some b) ∧ RdK w' b lim (takeS zs 0 1).2.1 (takeS zs 0 1).2.2) := by
    intro wx b lim hr
    rw [hN]
    exact u8_k hr
  rw [← hN] at HRL hn1
  obtain ⟨z1, hz1⟩ : ∃ z, z = (takeS zs 0 1).2.1 := ⟨_, rfl⟩
  obtain ⟨e1, he1⟩ : ∃ z, z = (takeS zs 0 1).2.2 := ⟨_, rfl⟩
  rw [← hz1, ← he1] at HU HRL
  rw [← hz1] at ht1
  have hn8 : N < 256 := by simpa using hn1
  have HB0 := hide hB0
  have HBL0 := hide hb0
  have HOK1 := hide ht1
  generalize zs.length = nz at *
  clear h hN hz1 he1 ht1 hn1 hok hB0 hb0
  go_enter Try.func58, Try.ntmps58
  go_wp2_with (first
    | (go_at_call 87; refine HR0.out.mono ?_; rintro e3 w2 ⟨b, rfl, hb2, rd2, bel2⟩; have hB2 := HB0.out.only (Only.of_below (fun _ => False) bel2) (fun h => h); have hb12 := HBL0.out.trans (bel2.mono (by simp)); have hbb : w.heap.size < b := (by simp at hb2; omega); have hlm : b < w2.heap.size := (by obtain ⟨_, _, h, _⟩ := rd2; exact h); have HB2 := hide hB2; have HBL2 := hide hb12; have HRD2 := hide rd2; clear HR0 HB0 HBL0 hb2 bel2 hB2 hb12 rd2)
    | (go_at_call 88; refine (HU.out _ b _ (HRD2.out.only (Only.of_below (fun _ => False) ((Below.refl _ w2).alloc (Nat.le_refl _) (.cells #[.bool true, .slice none 0 0, .slice none 0 0, .slice none 0 0] 26))) (fun _ h => h.elim))).mono ?_; rintro e3 w5 ⟨rfl, g5, rd5⟩))
  obtain ⟨cb, hcb⟩ : ∃ cb, cb = w2.heap.size := ⟨_, rfl⟩
  have HNG : Hid (Ng w cb cb (RdR b cb z1 e1) true nilS nilS nilS nilS nilS nilS [] [] [] [] w5) := by
    have hn := Blk.new w2 26 [.bool true, .slice none 0 0, .slice none 0 0, .slice none 0 0]
    have hx : Only (fun _ => False) w2 (w2.alloc (.cells #[.bool true, .slice none 0 0, .slice none 0 0, .slice none 0 0] 26)) := (Only.refl _ w2).alloc _
    rw [hcb]
    refine ⟨fun q hq => (by simp at hq), hn.only (only_grown g5) (by omega), World.ownsRow_nil _ _ _ _, World.ownsRow_nil _ _ _ _, Ints.nil _ _, (HB2.out.only hx (fun h => h)).only (only_grown g5) (by omega), by omega, Nat.le_refl _, rd5, ?_⟩
    exact (HBL2.out.trans (hx.below HBL2.out.size (fun _ _ h => h))).trans ((only_grown g5).below (by have := HBL2.out.size; simp; omega) (fun j hj e => by omega))
  rw [← hcb] at hlm
  simp only [← hcb]
  clear hcb g5 rd5 HB2 HBL2 HRD2 HU
  go_loopg [11] N (fun g i wr => ∃ (j : Nat) (p : Value) (xs : List (Value × Value)) (ps : List (List Int × List Int)) (ex : List (Value × List Int)) (zr : List Int) (er : Int), g + j = N ∧ i = .int .u8 j ∧ xs.length = ps.length ∧ ps.length = j ∧ ByteOk zr ∧ Ng w cb cb (RdR b cb zr er) true p nilS nilS p nilS nilS xs [] [] ex wr ∧ rdP N z1 e1 = ps ++ rdP g zr er ∧
      (∀ i, i < ps.length → ((xs.getD i nil2).1, (ps.getD i ([], [])).1) ∈ ex ∧ ((xs.getD i nil2).2, (ps.getD i ([], [])).2) ∈ ex) ∧ ∀ i, i < ps.length → ByteOk (ps.getD i ([], [])).1 ∧ ByteOk (ps.getD i ([], [])).2)
  case atStart => exact ⟨0, nilS, [], [], [], z1, e1, by omega, rfl, rfl, rfl, HOK1.out, HNG.out, rfl, fun i hi => by simp at hi, fun i hi => by simp at hi⟩
  case round =>
    obtain ⟨j, p0, xs, ps, ex, zr, er, hgj, rfl, hxl, hpl, hokr, hng, hrd, hex, hoks⟩ := hrel
    obtain ⟨W, rfl⟩ : ∃ x, x = wr := ⟨_, rfl⟩
    have HXL := hide hxl
    have HPL := hide hpl
    have HRD := hide hrd
    have HEX := hide hex
    have HOKS := hide hoks
    obtain ⟨pa0, pc0, hpf⟩ := own_form' hng.prow
    rw [hxl, hpl] at hpf
    subst hpf
    have HNG2 := hide hng
    clear HNG HOK1 hxl hpl hrd hex hoks
    cases gk with
    | zero =>
      obtain rfl : j = N := by omega
      have t0 : W.cell? ⟨cb, 0, none⟩ = some (.bool true) := hng.cbox.cell 0
      have t1 : W.cell? ⟨cb, 1, none⟩ = some (.slice pa0 j pc0) := hng.cbox.cell 1
      have t2 : W.cell? ⟨cb, 2, none⟩ = some (.slice none 0 0) := hng.cbox.cell 2
      have t3 : W.cell? ⟨cb, 3, none⟩ = some (.slice none 0 0) := hng.cbox.cell 3
      have r0 : W.cell? ⟨w.heap.size, 0, none⟩ = some (.bool false) := hng.b0.cell 0
      have r1 : W.cell? ⟨w.heap.size, 1, none⟩ = some (.slice none 0 0) := hng.b0.cell 1
      have r2 : W.cell? ⟨w.heap.size, 2, none⟩ = some (.slice none 0 0) := hng.b0.cell 2
      have r3 : W.cell? ⟨w.heap.size, 3, none⟩ = some (.slice none 0 0) := hng.b0.cell 3
      have f0 : W.frozen? ⟨w.heap.size, 0, none⟩ = false := hng.b0.frozen 0
      have f1 : W.frozen? ⟨w.heap.size, 1, none⟩ = false := hng.b0.frozen 1
      have f2 : W.frozen? ⟨w.heap.size, 2, none⟩ = false := hng.b0.frozen 2
      have f3 : W.frozen? ⟨w.heap.size, 3, none⟩ = false := hng.b0.frozen 3
      clear hng
      go_wp2
      clear t0 t1 t2 t3 r0 r1 r2 r3 f0 f1 f2 f3
      have hB1 := (((HNG2.out.b0.set 0 (.bool true)).set 1 (.slice pa0 j pc0)).set 2 (.slice none 0 0)).set 3 (.slice none 0 0)
      have hoR : Only (· = w.heap.size) W ((((W.setCell ⟨w.heap.size, 0, none⟩ (.bool true)).setCell ⟨w.heap.size, 1, none⟩ (.slice pa0 j pc0)).setCell ⟨w.heap.size, 2, none⟩ (.slice none 0 0)).setCell ⟨w.heap.size, 3, none⟩ (.slice none 0 0)) :=
        ((((Only.refl (· = w.heap.size) W).setCell ⟨w.heap.size, 0, none⟩ _ (fun _ => rfl)).setCell ⟨w.heap.size, 1, none⟩ _ (fun _ => rfl)).setCell ⟨w.heap.size, 2, none⟩ _ (fun _ => rfl)).setCell ⟨w.heap.size, 3, none⟩ _ (fun _ => rfl)
      generalize (((W.setCell ⟨w.heap.size, 0, none⟩ (.bool true)).setCell ⟨w.heap.size, 1, none⟩ (.slice pa0 j pc0)).setCell ⟨w.heap.size, 2, none⟩ (.slice none 0 0)).setCell ⟨w.heap.size, 3, none⟩ (.slice none 0 0) = X at *
      refine bodyPost_ret (results_cell_row rfl _ _ w.heap.size 26 #[.bool true, .slice pa0 j pc0, .slice none 0 0, .slice none 0 0] (0, 0) _ rfl hB1 Try.underlying26 rfl sizeNode) rfl ?_
      have hv := HNG2.out.val (ks := []) HXL.out rfl HEX.out (fun i hi => by simp at hi) HOKS.out (fun i hi => by simp at hi) hoR (fun k hk => .inl hk)
      refine ⟨_, rfl, ?_, hv.2⟩
      rw [HRL.out, HRD.out, rdP, List.append_nil]
      exact hv.1
    | succ g =>
      have hjN : (j : Int) < (N : Int) := by omega
      have ht := textS_ok zr er 25 hokr
      have HST : Hid (rdP (g + 1) zr er = ((textS zr er 25).1, (textS (textS zr er 25).2.1 (textS zr er 25).2.2 24).1) :: rdP g (textS (textS zr er 25).2.1 (textS zr er 25).2.2 24).2.1 (textS (textS zr er 25).2.1 (textS zr er 25).2.2 24).2.2) := rfl
      have HTX := hide (hng.text hbb 25)
      obtain ⟨zk, hzk⟩ : ∃ z, z = (textS zr er 25).2.1 := ⟨_, rfl⟩
      obtain ⟨ek, hek⟩ : ∃ z, z = (textS zr er 25).2.2 := ⟨_, rfl⟩
      obtain ⟨q1, hq1⟩ : ∃ z, z = (textS zr er 25).1 := ⟨_, rfl⟩
      rw [← hzk, ← hek, ← hq1] at HTX HST
      rw [← hq1, ← hzk] at ht
      have ht2 := textS_ok zk ek 24 ht.2
      have hz1 : xs.length ≤ 1000 := by have := HXL.out; have := HPL.out; omega
      have HT := hide ht
      have HT2 := hide ht2
      clear hzk hek hq1 hng ht ht2
      go_wp2_with (go_at_call 89; refine HTX.out.mono ?_; rintro e3 w6 ⟨kv, rfl, ng6⟩; obtain ⟨a1, d1, hkf⟩ := own_form' (ng6.ex (kv, q1) (by simp)); simp only at hkf; generalize q1.length = n1 at hkf; subst hkf; have HNG6 := hide ng6; clear HTX HNG2 ng6)
      refine wp_region_chain [some (.pointer (some ⟨cb, 1, none⟩)), some (.slice pa0 j pc0), some (.slice a1 n1 d1), some (.pointer (some ⟨b, 0, none⟩)), none, none, none, none, some (.pointer (some ⟨cb, 1, none⟩)), none] [4, 5, 6, 7, 9] (RlS w cb cb b zk ek (.slice pa0 j pc0) ((.slice a1 n1 d1 : Value)) xs (ex ++ [((.slice a1 n1 d1 : Value), q1)])) 26 (by kernel_rfl) (by kernel_rfl) (by kernel_rfl) (by kernel_rfl) rfl ?_ ?_ ?_
      · intro vals0
        exact (HNG6.out.keep (RdR.stab _ _ _ _) ((Below.refl _ w6).drew) : Ng w cb cb (RdR b cb zk ek) true (.slice pa0 j pc0) nilS nilS (.slice pa0 j pc0) nilS nilS xs [] [] (ex ++ [(.slice a1 n1 d1, q1)]) w6.drew)
      · refine ⟨?_, ?_, ?_, ?_, ?_, ?_, ?_, ?_, ?_, ?_, trivial⟩
        · intro k vals act wx hk h hs
          have e4 : act.eval (.tmp 4) = .pointer (some ⟨cb, 0, none⟩) := h.old 4 (by kernel_rfl)
          clear h
          refine gives_by rfl act.eval rfl ?_
          generalize act.eval = ρ at *
          intro hf hc
          go_simp
          exact ⟨rfl, hs⟩
        · intro k vals act wx hk h hs
          have e15 : act.eval (.tmp 15) = .pointer (some ⟨cb, 1, none⟩) := h.q 0 15 (by kernel_rfl) rfl
          clear h
          have cx := RlS.cell hs hk
          refine gives_by rfl act.eval rfl ?_
          generalize act.eval = ρ at *
          intro hf hc
          go_simp
          exact ⟨rfl, hs⟩
        · intro k vals act wx hk h hs
          have e5 : act.eval (.tmp 5) = .slice a1 n1 d1 := h.old 5 (by kernel_rfl)
          clear h
          refine gives_by rfl act.eval rfl ?_
          generalize act.eval = ρ at *
          intro hf hc
          go_simp
          exact ⟨rfl, hs⟩
        · intro k vals act wx hk h hs
          have e3 : act.eval (.tmp 3) = .pointer (some ⟨b, 0, none⟩) := h.old 3 (by kernel_rfl)
          clear h
          refine gives_by rfl act.eval rfl ?_
          generalize act.eval = ρ at *
          intro hf hc
          go_simp
          exact ⟨rfl, hs⟩
        · intro vals act wx h hs
          have e18 : act.eval (.tmp 18) = .pointer (some ⟨b, 0, none⟩) := h.q 3 18 (by kernel_rfl) rfl
          clear h
          have hng : Ng w cb cb (RdR b cb zk ek) true (.slice pa0 j pc0) nilS nilS (.slice pa0 j pc0) nilS nilS (xs) [] [] (ex ++ [((.slice a1 n1 d1 : Value), q1)]) wx := hs
          refine gives_by rfl act.eval rfl ?_
          generalize act.eval = ρ at *
          intro hf hc
          go_simp
          refine (hng.text hbb 24).mono ?_
          rintro e w' ⟨r, he, hc'⟩
          exact ⟨r, he, (hc' : Ng w cb cb (RdR b cb (textS zk ek 24).2.1 (textS zk ek 24).2.2) true (.slice pa0 j pc0) nilS nilS (.slice pa0 j pc0) nilS nilS (xs) [] [] ((ex ++ [((.slice a1 n1 d1 : Value), q1)]) ++ [(r, (textS zk ek 24).1)]) w')⟩
        · intro vals act wx h hs
          have e17 : act.eval (.tmp 17) = .slice a1 n1 d1 := h.q 2 17 (by kernel_rfl) rfl
          have e19 : act.eval (.tmp 19) = vals 4 := h.val 4 19 (by kernel_rfl)
          clear h
          have hng : Ng w cb cb (RdR b cb (textS zk ek 24).2.1 (textS zk ek 24).2.2) true (.slice pa0 j pc0) nilS nilS (.slice pa0 j pc0) nilS nilS (xs) [] [] ((ex ++ [((.slice a1 n1 d1 : Value), q1)]) ++ [(vals 4, (textS zk ek 24).1)]) wx := hs
          obtain ⟨b2, d2, hf2⟩ := own_form' (hng.ex (vals 4, (textS zk ek 24).1) (by simp))
          simp only at hf2
          rw [hf2] at e19
          refine gives_by rfl act.eval rfl ?_
          generalize act.eval = ρ at *
          intro hf hc
          go_simp
          exact (⟨hng, by rw [hf2]⟩ : Ng w cb cb (RdR b cb (textS zk ek 24).2.1 (textS zk ek 24).2.2) true (.slice pa0 j pc0) nilS nilS (.slice pa0 j pc0) nilS nilS (xs) [] [] ((ex ++ [((.slice a1 n1 d1 : Value), q1)]) ++ [(vals 4, (textS zk ek 24).1)]) wx ∧ (.agg #[(.slice a1 n1 d1 : Value), .slice b2 (textS zk ek 24).1.length d2] : Value) = .agg #[(.slice a1 n1 d1 : Value), vals 4])
        · intro vals act wx h hs
          have e20 : act.eval (.tmp 20) = vals 5 := h.val 5 20 (by kernel_rfl)
          clear h
          obtain ⟨hng, h6⟩ : Ng w cb cb (RdR b cb (textS zk ek 24).2.1 (textS zk ek 24).2.2) true (.slice pa0 j pc0) nilS nilS (.slice pa0 j pc0) nilS nilS (xs) [] [] ((ex ++ [((.slice a1 n1 d1 : Value), q1)]) ++ [(vals 4, (textS zk ek 24).1)]) wx ∧ vals 5 = .agg #[(.slice a1 n1 d1 : Value), vals 4] := hs
          rw [h6] at e20
          obtain ⟨i0, hi, hz0, hz1, hz2⟩ := info_parts infoPair
          have hr := run_build_one (P := Try.prog) wx 22 36 i0 _ [(.slice a1 n1 d1 : Value), vals 4] Try.underlying22 hi hz0 hz1 (by simp) (by simp)
          refine gives_of_run rfl (exec_buildSlice1 22 1 (.tmp 20) rfl _ _ e20 hr) ?_
          have hbn : Below wx.heap.size wx (wx.alloc (.cells [(.slice a1 n1 d1 : Value), vals 4].toArray 36)) := (Below.refl _ wx).alloc (Nat.le_refl _) _
          exact (⟨hng.keep (RdR.stab _ _ _ _) hbn, wx.heap.size, rfl, Blk.new wx _ [(.slice a1 n1 d1 : Value), vals 4]⟩ : Ng w cb cb (RdR b cb (textS zk ek 24).2.1 (textS zk ek 24).2.2) true (.slice pa0 j pc0) nilS nilS (.slice pa0 j pc0) nilS nilS (xs) [] [] ((ex ++ [((.slice a1 n1 d1 : Value), q1)]) ++ [(vals 4, (textS zk ek 24).1)]) (wx.alloc (.cells [(.slice a1 n1 d1 : Value), vals 4].toArray 36)) ∧ ∃ g, (.slice (some ⟨wx.heap.size, 0, none⟩) 1 1 : Value) = .slice (some ⟨g, 0, none⟩) 1 1 ∧ Blk (wx.alloc (.cells [(.slice a1 n1 d1 : Value), vals 4].toArray 36)) g 36 [(.slice a1 n1 d1 : Value), vals 4])
        · intro vals act wx h hs
          have e16 : act.eval (.tmp 16) = .slice pa0 j pc0 := h.q 1 16 (by kernel_rfl) rfl
          have e21 : act.eval (.tmp 21) = vals 6 := h.val 6 21 (by kernel_rfl)
          clear h
          obtain ⟨hng, g', h7, hg⟩ : Ng w cb cb (RdR b cb (textS zk ek 24).2.1 (textS zk ek 24).2.2) true (.slice pa0 j pc0) nilS nilS (.slice pa0 j pc0) nilS nilS (xs) [] [] ((ex ++ [((.slice a1 n1 d1 : Value), q1)]) ++ [(vals 4, (textS zk ek 24).1)]) wx ∧ ∃ g, vals 6 = .slice (some ⟨g, 0, none⟩) 1 1 ∧ Blk wx g 36 [(.slice a1 n1 d1 : Value), vals 4] := hs
          rw [h7] at e21
          obtain ⟨b2, d2, hf2⟩ := own_form' (hng.ex (vals 4, (textS zk ek 24).1) (by simp))
          simp only at hf2
          rw [hf2] at hg
          obtain ⟨p', w', hr, hc', a', c', hp'⟩ := hng.pushP (RdR.stab _ _ _ _) g' a1 b2 n1 _ d1 d2 hg hz1
          rw [← hf2] at hc'
          refine gives_of_run rfl (exec_append (.tmp 16) (.tmp 21) 22 rfl _ _ e16 e21 _ hr) ?_
          exact (⟨hc', a', _, c', hp'⟩ : Ng w cb cb (RdR b cb (textS zk ek 24).2.1 (textS zk ek 24).2.2) true (.slice pa0 j pc0) nilS nilS (p') nilS nilS (xs ++ [((.slice a1 n1 d1 : Value), vals 4)]) [] [] ((ex ++ [((.slice a1 n1 d1 : Value), q1)]) ++ [(vals 4, (textS zk ek 24).1)]) w' ∧ ∃ a n c, p' = .slice a n c)
        · intro k vals act wx hk h hs
          have e4 : act.eval (.tmp 4) = .pointer (some ⟨cb, 0, none⟩) := h.old 4 (by kernel_rfl)
          clear h
          refine gives_by rfl act.eval rfl ?_
          generalize act.eval = ρ at *
          intro hf hc
          go_simp
          exact ⟨rfl, hs⟩
        · intro vals act wx h hs
          have e23 : act.eval (.tmp 23) = .pointer (some ⟨cb, 1, none⟩) := h.q 8 23 (by kernel_rfl) rfl
          have e22 : act.eval (.tmp 22) = vals 7 := h.val 7 22 (by kernel_rfl)
          clear h
          obtain ⟨hng, a', n', c', h8⟩ : Ng w cb cb (RdR b cb (textS zk ek 24).2.1 (textS zk ek 24).2.2) true (.slice pa0 j pc0) nilS nilS (vals 7) nilS nilS (xs ++ [((.slice a1 n1 d1 : Value), vals 4)]) [] [] ((ex ++ [((.slice a1 n1 d1 : Value), q1)]) ++ [(vals 4, (textS zk ek 24).1)]) wx ∧ ∃ a n c, vals 7 = .slice a n c := hs
          rw [h8] at e22
          have c0 : wx.cell? ⟨cb, 1, none⟩ = some (.slice pa0 j pc0) := hng.cbox.cell 1
          have f0 : wx.frozen? ⟨cb, 1, none⟩ = false := hng.cbox.frozen 1
          have hfin : Ng w cb cb (RdR b cb (textS zk ek 24).2.1 (textS zk ek 24).2.2) true (vals 7) nilS nilS (vals 7) nilS nilS (xs ++ [((.slice a1 n1 d1 : Value), vals 4)]) [] [] ((ex ++ [((.slice a1 n1 d1 : Value), q1)]) ++ [(vals 4, (textS zk ek 24).1)]) (wx.setCell ⟨cb, 1, none⟩ (.slice a' n' c')) := by have := hng.put (RdR.stab _ _ _ _) 1 (.slice a' n' c') (.slice a' n' c') nilS nilS rfl; rw [h8] at this ⊢; exact this
          clear hng h8
          refine gives_by rfl act.eval rfl ?_
          generalize act.eval = ρ at *
          intro hf hc
          go_simp
          exact hfin
      · intro vals1 w' hq hs
        have hfin : Ng w cb cb (RdR b cb (textS zk ek 24).2.1 (textS zk ek 24).2.2) true (vals1 7) nilS nilS (vals1 7) nilS nilS (xs ++ [(.slice a1 n1 d1, vals1 4)]) [] [] ((ex ++ [(.slice a1 n1 d1, q1)]) ++ [(vals1 4, (textS zk ek 24).1)]) w' := hs
        have HNX := hide (pairs_snoc (k := .slice a1 n1 d1) (v := vals1 4) (q1 := q1) (q2 := (textS zk ek 24).1) (ex' := (ex ++ [(.slice a1 n1 d1, q1)]) ++ [(vals1 4, (textS zk ek 24).1)]) HXL.out (fun x hx => List.mem_append_left _ (List.mem_append_left _ hx)) (by simp) (by simp) HEX.out)
        have HF := hide hfin
        clear hq hs hfin
        simp only [putAll, Act.put, List.setIfInBounds_toArray, List.set_cons_zero, List.set_cons_succ, Nat.zero_add, Nat.reduceAdd]
        go_wp2
        go_roundg g
        case measure => omega
        case rel =>
          refine ⟨j + 1, vals1 7, _, ps ++ [(q1, (textS zk ek 24).1)], _, _, _, by omega, by go_num, by rw [List.length_append, List.length_append, HXL.out]; rfl, by rw [List.length_append, HPL.out]; rfl, HT2.out.2, HF.out, ?_, HNX.out, oks_snoc HT.out.1 HT2.out.1 HOKS.out⟩
          rw [HRD.out, HST.out]
          simp

end Go.Proofs.Ythnppkeifhnceaa
