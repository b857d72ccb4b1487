/- Contract: what is read of an inner node's bytes (node.readInner). -/
import Derived.Test.YthnppkeifhnceaaNReadL
namespace Go.Proofs.Ythnppkeifhnceaa
set_option maxRecDepth 20000
open Go.RowKit Go.Shelf
set_option linter.unusedVariables false
set_option linter.unusedSimpArgs false
set_option maxRecDepth 100000
attribute [local go_sem] Oper.semAt_some

theorem keys_snoc {ys : List Value} {ks : List (List Int)} {ex ex' : List (Value × List Int)} {v : Value} {q : List Int} (hl : ys.length = ks.length) (hs : ∀ x ∈ ex, x ∈ ex') (hk : (v, q) ∈ ex') (h : ∀ i, i < ks.length → (ys.getD i nilS, ks.getD i []) ∈ ex) :
    ∀ i, i < (ks ++ [q]).length → ((ys ++ [v]).getD i nilS, (ks ++ [q]).getD i []) ∈ ex' := fun i hi => by
  rw [List.length_append, List.length_singleton] at hi
  rw [getD_snoc _ _ _ _ (by omega), getD_snoc _ _ _ _ (by omega), hl]
  by_cases h1 : i < ks.length
  · rw [if_pos h1, if_pos h1]; exact hs _ (h i h1)
  · rw [if_neg h1, if_neg h1]; exact hk
theorem okk_snoc {ks : List (List Int)} {q : List Int} (h1 : ByteOk q) (h : ∀ i, i < ks.length → ByteOk (ks.getD i [])) : ∀ i, i < (ks ++ [q]).length → ByteOk ((ks ++ [q]).getD i []) := fun i hi => by
  rw [List.length_append, List.length_singleton] at hi
  rw [getD_snoc _ _ _ _ (by omega)]
  by_cases h3 : i < ks.length
  · rw [if_pos h3]; exact h i h3
  · rw [if_neg h3]; exact h1

/-- a key more -/
def RiS (w : World) (lim cb b : Nat) (zr : List Int) (er : Int) (k0 c : Value) (ys : List Value) (cs : List Int) (ex : List (Value × List Int)) : Nat → (Nat → Value) → World → Prop := fun i vals W => match i with
  | 0 => Ng w lim cb (RdR b lim zr er) false nilS k0 c nilS k0 c [] ys cs ex W
  | 1 => Ng w lim cb (RdR b lim (textS zr er 25).2.1 (textS zr er 25).2.2) false nilS k0 c nilS k0 c [] ys cs (ex ++ [(vals 3, (textS zr er 25).1)]) W
  | 2 => Ng w lim cb (RdR b lim (textS zr er 25).2.1 (textS zr er 25).2.2) false nilS k0 c nilS k0 c [] ys cs (ex ++ [(vals 3, (textS zr er 25).1)]) W ∧ ∃ g, vals 4 = .slice (some ⟨g, 0, none⟩) 1 1 ∧ Blk W g 34 [vals 3]
  | 3 => Ng w lim cb (RdR b lim (textS zr er 25).2.1 (textS zr er 25).2.2) false nilS k0 c nilS (vals 5) c [] (ys ++ [vals 3]) cs (ex ++ [(vals 3, (textS zr er 25).1)]) W ∧ ∃ a n c, vals 5 = .slice a n c
  | _ => Ng w lim cb (RdR b lim (textS zr er 25).2.1 (textS zr er 25).2.2) false nilS (vals 5) c nilS (vals 5) c [] (ys ++ [vals 3]) cs (ex ++ [(vals 3, (textS zr er 25).1)]) W
theorem RiS.cell {w : World} {lim cb b : Nat} {zr : List Int} {er : Int} {k0 c : Value} {ys : List Value} {cs : List Int} {ex : List (Value × List Int)} {i : Nat} {vals : Nat → Value} {W : World} (h : RiS w lim cb b zr er k0 c ys cs ex i vals W) (hi : i < 4) : W.cell? ⟨cb, 2, none⟩ = some k0 := by
  match i, hi, h with
  | 0, _, h => exact h.cbox.cell 2
  | 1, _, h => exact h.cbox.cell 2
  | 2, _, ⟨h, _⟩ => exact h.cbox.cell 2
  | 3, _, ⟨h, _⟩ => exact h.cbox.cell 2
/-- a child more -/
def RjS (w : World) (lim cb b : Nat) (zr : List Int) (er : Int) (k c0 : Value) (ys : List Value) (cs : List Int) (ex : List (Value × List Int)) (X : Nat) : Nat → (Nat → Value) → World → Prop := fun i vals W => match i with
  | 0 => Ng w lim cb (RdR b lim zr er) false nilS k c0 nilS k c0 [] ys cs ex W
  | 1 => Ng w lim cb (RdR b lim (takeS zr er 2).2.1 (takeS zr er 2).2.2) false nilS k c0 nilS k c0 [] ys cs ex W ∧ vals 3 = .int .u16 (X : Int)
  | 2 => Ng w lim cb (RdR b lim (takeS zr er 2).2.1 (takeS zr er 2).2.2) false nilS k c0 nilS k c0 [] ys cs ex W ∧ vals 4 = .int .i64 (X : Int)
  | 3 => Ng w lim cb (RdR b lim (takeS zr er 2).2.1 (takeS zr er 2).2.2) false nilS k c0 nilS k c0 [] ys cs ex W ∧ ∃ g, vals 5 = .slice (some ⟨g, 0, none⟩) 1 1 ∧ Blk W g 3 [.int .i64 (X : Int)]
  | 4 => Ng w lim cb (RdR b lim (takeS zr er 2).2.1 (takeS zr er 2).2.2) false nilS k c0 nilS k (vals 6) [] ys (cs ++ [(X : Int)]) ex W ∧ ∃ a n c, vals 6 = .slice a n c
  | _ => Ng w lim cb (RdR b lim (takeS zr er 2).2.1 (takeS zr er 2).2.2) false nilS k (vals 6) nilS k (vals 6) [] ys (cs ++ [(X : Int)]) ex W
theorem RjS.cell {w : World} {lim cb b : Nat} {zr : List Int} {er : Int} {k c0 : Value} {ys : List Value} {cs : List Int} {ex : List (Value × List Int)} {X i : Nat} {vals : Nat → Value} {W : World} (h : RjS w lim cb b zr er k c0 ys cs ex X i vals W) (hi : i < 5) : W.cell? ⟨cb, 3, none⟩ = some c0 := by
  match i, hi, h with
  | 0, _, h => exact h.cbox.cell 3
  | 1, _, ⟨h, _⟩ => exact h.cbox.cell 3
  | 2, _, ⟨h, _⟩ => exact h.cbox.cell 3
  | 3, _, ⟨h, _⟩ => exact h.cbox.cell 3
  | 4, _, ⟨h, _⟩ => exact h.cbox.cell 3
theorem build_int (w : World) (x : Int) : (Instr.buildSlice 24 1 #[(0, .int .i64 x)]).run Try.prog w = .ok (.slice (some ⟨w.heap.size, 0, none⟩) 1 1) (w.alloc (.cells #[.int .i64 x] 3)) := by kernel_rfl

set_option maxHeartbeats 8000000 in
theorem readInner_any (w : World) (v : Value) (zs : List Int) (h : Sl w v zs) (hl : zs.length ≤ 50000) :
    Calls Try.prog 59 #[v] w fun e w' => ∃ u, e = .returned u ∧ NdN w' w.heap.size u (rdInner zs) ∧ Below w.heap.size w w' := by
  have hok := h.bytes
  obtain ⟨ao, cap, rfl⟩ := sl_form' h
  have hB0 : Blk (w.alloc (.cells #[.bool false, .slice none 0 0, .slice none 0 0, .slice none 0 0] 26)) w.heap.size 26 [.bool false, .slice none 0 0, .slice none 0 0, .slice none 0 0] := Blk.new w _ _
  have hb0 : Below w.heap.size w (w.alloc (.cells #[.bool false, .slice none 0 0, .slice none 0 0, .slice none 0 0] 26)) := (Below.refl _ w).alloc (Nat.le_refl _) _
  have HR0 := hide (read_k _ _ zs (h.below hb0) (by omega))
  have HRL : Hid (rdInner zs = ⟨false, [], (rdK (numOf (takeS zs 0 1).1) (takeS (takeS zs 0 1).2.1 (takeS zs 0 1).2.2 2).2.1 (takeS (takeS zs 0 1).2.1 (takeS zs 0 1).2.2 2).2.2).1,
    ((numOf (takeS (takeS zs 0 1).2.1 (takeS zs 0 1).2.2 2).1 : Nat) : Int) :: (rdK (numOf (takeS zs 0 1).1) (takeS (takeS zs 0 1).2.1 (takeS zs 0 1).2.2 2).2.1 (takeS (takeS zs 0 1).2.1 (takeS zs 0 1).2.2 2).2.2).2⟩) := rfl
  have ht1 := (takeS_ok zs 0 1 hok).2
  have hn1 : numOf (takeS zs 0 1).1 < 256 ^ 1 := numOf_takeS zs 0 1 hok
  obtain ⟨N, hN⟩ : ∃ N, N = numOf (takeS zs 0 1).1 := ⟨_, rfl⟩
  have HU : Hid (∀ wx b lim, RdK wx b lim zs 0 → Calls Try.prog 88 #[.pointer (some ⟨b, 0, none⟩)] wx fun e w' => e = .returned (.int .u8 (N : Int)) ∧ wx.grownBy w' (some b) ∧ RdK w' b lim (takeS zs 0 1).2.1 (takeS zs 0 1).2.2) := by
    intro wx b lim hr
    rw [hN]
    exact u8_k hr
  rw [← hN] at HRL hn1
  obtain ⟨z1, hz1⟩ : ∃ z, z = (takeS zs 0 1).2.1 := ⟨_, rfl⟩
  obtain ⟨e1, he1⟩ : ∃ z, z = (takeS zs 0 1).2.2 := ⟨_, rfl⟩
  rw [← hz1, ← he1] at HU HRL
  rw [← hz1] at ht1
  have hn8 : N < 256 := by simpa using hn1
  have ht2 := (takeS_ok z1 e1 2 ht1).2
  have hm1 : numOf (takeS z1 e1 2).1 < 256 ^ 2 := numOf_takeS z1 e1 2 ht1
  obtain ⟨M, hM⟩ : ∃ M, M = numOf (takeS z1 e1 2).1 := ⟨_, rfl⟩
  have HV : Hid (∀ wx b lim, RdK wx b lim z1 e1 → Calls Try.prog 90 #[.pointer (some ⟨b, 0, none⟩)] wx fun e w' => e = .returned (.int .u16 (M : Int)) ∧ wx.grownBy w' (some b) ∧ RdK w' b lim (takeS z1 e1 2).2.1 (takeS z1 e1 2).2.2) := by
    intro wx b lim hr
    rw [hM]
    exact u16_k hr
  rw [← hM] at HRL hm1
  obtain ⟨z2, hz2⟩ : ∃ z, z = (takeS z1 e1 2).2.1 := ⟨_, rfl⟩
  obtain ⟨e2, he2⟩ : ∃ z, z = (takeS z1 e1 2).2.2 := ⟨_, rfl⟩
  rw [← hz2, ← he2] at HV HRL
  rw [← hz2] at ht2
  have hm16 : M < 65536 := by simpa using hm1
  have HB0 := hide hB0
  have HBL0 := hide hb0
  have HOK1 := hide ht2
  generalize zs.length = nz at *
  clear h hN hz1 he1 ht1 hn1 hok hB0 hb0 hM hz2 he2 ht2 hm1
  go_enter Try.func59, Try.ntmps59
  go_wp2_with (first
    | (go_at_call 87; refine HR0.out.mono ?_; rintro e3 w2 ⟨b, rfl, hb2, rd2, bel2⟩; have hB2 := HB0.out.only (Only.of_below (fun _ => False) bel2) (fun h => h); have hb12 := HBL0.out.trans (bel2.mono (by simp)); have hbb : w.heap.size < b := (by simp at hb2; omega); have hlm : b < w2.heap.size := (by obtain ⟨_, _, h, _⟩ := rd2; exact h); have HB2 := hide hB2; have HBL2 := hide hb12; have HU1 := hide (HU.out _ b _ rd2); clear HR0 HB0 HBL0 HU hb2 bel2 hB2 hb12 rd2)
    | (go_at_call 88; refine HU1.out.mono ?_; rintro e3 w4 ⟨rfl, g4, rd4⟩; have HV1 := hide (HV.out _ b _ rd4); have G4 := hide g4; clear HU1 HV g4 rd4)
    | (go_at_call 90; refine HV1.out.mono ?_; rintro e3 w5 ⟨rfl, g5, rd5⟩; clear HV1))
  obtain ⟨lim, hlim⟩ : ∃ l, l = w2.heap.size := ⟨_, rfl⟩
  obtain ⟨cb, hcb⟩ : ∃ cb, cb = w5.heap.size + 1 := ⟨_, rfl⟩
  obtain ⟨gi, hgi⟩ : ∃ gi, gi = w5.heap.size := ⟨_, rfl⟩
  rw [← hgi] at hcb
  have hs4 := G4.out.size
  have hs5 := g5.size
  obtain ⟨W6, hW6⟩ : ∃ W, W = (w5.alloc (.cells #[.int .i64 (M : Int)] 3)).alloc (.cells #[.bool false, .slice none 0 0, .slice none 0 0, .slice (some ⟨gi, 0, none⟩) 1 1] 26) := ⟨_, rfl⟩
  have HNG : Hid (Ng w lim cb (RdR b lim z2 e2) false nilS nilS (.slice (some ⟨gi, 0, none⟩) 1 1) nilS nilS (.slice (some ⟨gi, 0, none⟩) 1 1) [] [] [(M : Int)] [] W6) := by
    have hx4 := only_grown G4.out
    have hx5 := only_grown g5
    have hB5 := (HB2.out.only hx4 (by omega)).only hx5 (by omega)
    have hb5 := (HBL2.out.trans (hx4.below HBL2.out.size (fun j hj e => by omega))).trans (hx5.below (by have := HBL2.out.size; omega) (fun j hj e => by omega))
    have hz5 := hb5.size
    have hx6 : Only (fun _ => False) w5 W6 := by rw [hW6]; exact ((Only.refl _ w5).alloc _).alloc _
    have hn : Blk W6 cb 26 [.bool false, .slice none 0 0, .slice none 0 0, .slice (some ⟨gi, 0, none⟩) 1 1] := by
      have := Blk.new (w5.alloc (.cells #[.int .i64 (M : Int)] 3)) 26 [.bool false, .slice none 0 0, .slice none 0 0, .slice (some ⟨gi, 0, none⟩) 1 1]
      rw [World.size_alloc, ← hgi, ← hcb] at this
      rw [hW6]
      exact this
    have hi : Blk W6 gi 3 [.int .i64 (M : Int)] := by
      have := (Blk.new w5 3 [.int .i64 (M : Int)]).alloc (.cells #[.bool false, .slice none 0 0, .slice none 0 0, .slice (some ⟨gi, 0, none⟩) 1 1] 26)
      rw [← hgi] at this
      rw [hW6]
      exact this
    refine ⟨fun q hq => (by simp at hq), hn, World.ownsRow_nil _ _ _ _, World.ownsRow_nil _ _ _ _, ?_, hB5.only hx6 (fun h => h), by omega, by omega, ?_, hb5.trans (hx6.below hz5 (fun _ _ h => h))⟩
    · exact ⟨rfl, .inr ⟨gi, 1, #[.int .i64 (M : Int)], rfl, by omega, hi, by simp, by simp [maxLen], rfl, rfl⟩⟩
    · rw [hlim]; exact RdK.only rd5 hx6 (fun _ h => h.elim)
  rw [← hlim] at hlm
  simp only [← hgi, ← hcb, ← hW6]
  clear hcb hgi hlim g5 rd5 HB2 HBL2 G4 hs4 hs5 hW6
  go_wp2
  go_loopg [16] N (fun g i wr => ∃ (j : Nat) (k c : Value) (ys : List Value) (ks : List (List Int)) (cs : List Int) (ex : List (Value × List Int)) (zr : List Int) (er : Int), g + j = N ∧ i = .int .u8 j ∧ ys.length = ks.length ∧ ks.length = j ∧ cs.length = j + 1 ∧ ByteOk zr ∧ Ng w lim cb (RdR b lim zr er) false nilS k c nilS k c [] ys cs ex wr ∧
      (rdK N z2 e2).1 = ks ++ (rdK g zr er).1 ∧ (M : Int) :: (rdK N z2 e2).2 = cs ++ (rdK g zr er).2 ∧ (∀ i, i < ks.length → (ys.getD i nilS, ks.getD i []) ∈ ex) ∧ ∀ i, i < ks.length → ByteOk (ks.getD i []))
  case atStart => exact ⟨0, nilS, _, [], [], [(M : Int)], [], z2, e2, by omega, rfl, rfl, rfl, rfl, HOK1.out, HNG.out, rfl, rfl, fun i hi => by simp at hi, fun i hi => by simp at hi⟩
  case round =>
    obtain ⟨j, k0, c0, ys, ks, cs, ex, zr, er, hgj, rfl, hyl, hkl, hcl, hokr, hng, hrd1, hrd2, hex, hoks⟩ := hrel
    obtain ⟨W, rfl⟩ : ∃ x, x = wr := ⟨_, rfl⟩
    have HYL := hide hyl
    have HKL := hide hkl
    have HCL := hide hcl
    have HRD1 := hide hrd1
    have HRD2 := hide hrd2
    have HEX := hide hex
    have HOKS := hide hoks
    obtain ⟨ka0, kc0, hkf⟩ := own_form' hng.krow
    rw [hyl, hkl] at hkf
    subst hkf
    obtain ⟨ca0, cc0, hcf⟩ := own_form' hng.ints
    rw [hcl] at hcf
    obtain ⟨cn, hcn⟩ : ∃ cn, cn = j + 1 := ⟨_, rfl⟩
    rw [← hcn] at hcf
    subst hcf
    have HCN := hide hcn
    have HNG2 := hide hng
    clear HNG HOK1 hyl hkl hrd1 hrd2 hex hoks hcl hcn
    cases gk with
    | zero =>
      obtain rfl : j = N := by omega
      have t0 : W.cell? ⟨cb, 0, none⟩ = some (.bool false) := hng.cbox.cell 0
      have t1 : W.cell? ⟨cb, 1, none⟩ = some (.slice none 0 0) := hng.cbox.cell 1
      have t2 : W.cell? ⟨cb, 2, none⟩ = some (.slice ka0 j kc0) := hng.cbox.cell 2
      have t3 : W.cell? ⟨cb, 3, none⟩ = some (.slice ca0 cn cc0) := hng.cbox.cell 3
      have r0 : W.cell? ⟨w.heap.size, 0, none⟩ = some (.bool false) := hng.b0.cell 0
      have r1 : W.cell? ⟨w.heap.size, 1, none⟩ = some (.slice none 0 0) := hng.b0.cell 1
      have r2 : W.cell? ⟨w.heap.size, 2, none⟩ = some (.slice none 0 0) := hng.b0.cell 2
      have r3 : W.cell? ⟨w.heap.size, 3, none⟩ = some (.slice none 0 0) := hng.b0.cell 3
      have f0 : W.frozen? ⟨w.heap.size, 0, none⟩ = false := hng.b0.frozen 0
      have f1 : W.frozen? ⟨w.heap.size, 1, none⟩ = false := hng.b0.frozen 1
      have f2 : W.frozen? ⟨w.heap.size, 2, none⟩ = false := hng.b0.frozen 2
      have f3 : W.frozen? ⟨w.heap.size, 3, none⟩ = false := hng.b0.frozen 3
      clear hng
      go_wp2
      clear t0 t1 t2 t3 r0 r1 r2 r3 f0 f1 f2 f3
      have hB1 := (((HNG2.out.b0.set 0 (.bool false)).set 1 (.slice none 0 0)).set 2 (.slice ka0 j kc0)).set 3 (.slice ca0 cn cc0)
      have hoR : Only (· = w.heap.size) W ((((W.setCell ⟨w.heap.size, 0, none⟩ (.bool false)).setCell ⟨w.heap.size, 1, none⟩ (.slice none 0 0)).setCell ⟨w.heap.size, 2, none⟩ (.slice ka0 j kc0)).setCell ⟨w.heap.size, 3, none⟩ (.slice ca0 cn cc0)) :=
        ((((Only.refl (· = w.heap.size) W).setCell ⟨w.heap.size, 0, none⟩ _ (fun _ => rfl)).setCell ⟨w.heap.size, 1, none⟩ _ (fun _ => rfl)).setCell ⟨w.heap.size, 2, none⟩ _ (fun _ => rfl)).setCell ⟨w.heap.size, 3, none⟩ _ (fun _ => rfl)
      generalize (((W.setCell ⟨w.heap.size, 0, none⟩ (.bool false)).setCell ⟨w.heap.size, 1, none⟩ (.slice none 0 0)).setCell ⟨w.heap.size, 2, none⟩ (.slice ka0 j kc0)).setCell ⟨w.heap.size, 3, none⟩ (.slice ca0 cn cc0) = X at *
      refine bodyPost_ret (results_cell_row rfl _ _ w.heap.size 26 #[.bool false, .slice none 0 0, .slice ka0 j kc0, .slice ca0 cn cc0] (0, 0) _ rfl hB1 Try.underlying26 rfl sizeNode) rfl ?_
      have hv := HNG2.out.val (ps := []) rfl HYL.out (fun i hi => by simp at hi) HEX.out (fun i hi => by simp at hi) HOKS.out hoR (fun k hk => .inl hk)
      refine ⟨_, rfl, ?_, hv.2⟩
      rw [HRL.out, HRD1.out, HRD2.out, rdK, List.append_nil, List.append_nil]
      exact hv.1
    | succ g =>
      have hjN : (j : Int) < (N : Int) := by omega
      have ht := textS_ok zr er 25 hokr
      have HST : Hid (rdK (g + 1) zr er = ((textS zr er 25).1 :: (rdK g (takeS (textS zr er 25).2.1 (textS zr er 25).2.2 2).2.1 (takeS (textS zr er 25).2.1 (textS zr er 25).2.2 2).2.2).1,
        ((numOf (takeS (textS zr er 25).2.1 (textS zr er 25).2.2 2).1 : Nat) : Int) :: (rdK g (takeS (textS zr er 25).2.1 (textS zr er 25).2.2 2).2.1 (takeS (textS zr er 25).2.1 (textS zr er 25).2.2 2).2.2).2)) := rfl
      have hu1 : ys.length ≤ 1000 := by have := HYL.out; have := HKL.out; omega
      have hc1 : cs.length ≤ 1000 := by have := HCL.out; omega
      have HT := hide ht
      clear ht
      go_wp2
      refine wp_region_chain [some (.pointer (some ⟨cb, 2, none⟩)), some (.slice ka0 j kc0), some (.pointer (some ⟨b, 0, none⟩)), none, none, none, some (.pointer (some ⟨cb, 2, none⟩)), none] [3, 4, 5, 7] (RiS w lim cb b zr er (.slice ka0 j kc0) (.slice ca0 cn cc0) ys cs ex) 35 (by kernel_rfl) (by kernel_rfl) (by kernel_rfl) (by kernel_rfl) rfl ?_ ?_ ?_
      · intro vals0
        exact (HNG2.out.keep (RdR.stab _ _ _ _) ((Below.refl _ W).drew) : Ng w lim cb (RdR b lim zr er) false nilS (.slice ka0 j kc0) (.slice ca0 cn cc0) nilS (.slice ka0 j kc0) (.slice ca0 cn cc0) [] ys cs ex W.drew)
      · refine ⟨?_, ?_, ?_, ?_, ?_, ?_, ?_, ?_, trivial⟩
        · intro k vals act wx hk h hs
          have e5 : act.eval (.tmp 5) = .pointer (some ⟨cb, 0, none⟩) := h.old 5 (by kernel_rfl)
          clear h
          refine gives_by rfl act.eval rfl ?_
          generalize act.eval = ρ at *
          intro hf hc
          go_simp
          exact ⟨rfl, hs⟩
        · intro k vals act wx hk h hs
          have e18 : act.eval (.tmp 18) = .pointer (some ⟨cb, 2, none⟩) := h.q 0 18 (by kernel_rfl) rfl
          clear h
          have cx := RiS.cell hs hk
          refine gives_by rfl act.eval rfl ?_
          generalize act.eval = ρ at *
          intro hf hc
          go_simp
          exact ⟨rfl, hs⟩
        · intro k vals act wx hk h hs
          have e3 : act.eval (.tmp 3) = .pointer (some ⟨b, 0, none⟩) := h.old 3 (by kernel_rfl)
          clear h
          refine gives_by rfl act.eval rfl ?_
          generalize act.eval = ρ at *
          intro hf hc
          go_simp
          exact ⟨rfl, hs⟩
        · intro vals act wx h hs
          have e20 : act.eval (.tmp 20) = .pointer (some ⟨b, 0, none⟩) := h.q 2 20 (by kernel_rfl) rfl
          clear h
          have hng : Ng w lim cb (RdR b lim zr er) false nilS (.slice ka0 j kc0) (.slice ca0 cn cc0) nilS (.slice ka0 j kc0) (.slice ca0 cn cc0) [] (ys) cs (ex) wx := hs
          refine gives_by rfl act.eval rfl ?_
          generalize act.eval = ρ at *
          intro hf hc
          go_simp
          refine (hng.text hbb 25).mono ?_
          rintro e w' ⟨r, he, hc'⟩
          exact ⟨r, he, (hc' : Ng w lim cb (RdR b lim (textS zr er 25).2.1 (textS zr er 25).2.2) false nilS (.slice ka0 j kc0) (.slice ca0 cn cc0) nilS (.slice ka0 j kc0) (.slice ca0 cn cc0) [] (ys) cs (ex ++ [(r, (textS zr er 25).1)]) w')⟩
        · intro vals act wx h hs
          have e21 : act.eval (.tmp 21) = vals 3 := h.val 3 21 (by kernel_rfl)
          clear h
          have hng : Ng w lim cb (RdR b lim (textS zr er 25).2.1 (textS zr er 25).2.2) false nilS (.slice ka0 j kc0) (.slice ca0 cn cc0) nilS (.slice ka0 j kc0) (.slice ca0 cn cc0) [] (ys) cs (ex ++ [(vals 3, (textS zr er 25).1)]) wx := hs
          obtain ⟨b1, d1, hf1⟩ := own_form' (hng.ex (vals 3, (textS zr er 25).1) (by simp))
          simp only at hf1
          rw [hf1] at e21
          refine gives_of_run rfl (exec_buildSlice1 23 1 (.tmp 21) rfl _ _ e21 (build_row wx b1 (textS zr er 25).1.length d1)) ?_
          have hbn : Below wx.heap.size wx (wx.alloc (.cells #[.slice b1 (textS zr er 25).1.length d1] 34)) := (Below.refl _ wx).alloc (Nat.le_refl _) _
          exact (⟨hng.keep (RdR.stab _ _ _ _) hbn, wx.heap.size, rfl, by rw [hf1]; exact Blk.new wx _ [.slice b1 (textS zr er 25).1.length d1]⟩ : Ng w lim cb (RdR b lim (textS zr er 25).2.1 (textS zr er 25).2.2) false nilS (.slice ka0 j kc0) (.slice ca0 cn cc0) nilS (.slice ka0 j kc0) (.slice ca0 cn cc0) [] (ys) cs (ex ++ [(vals 3, (textS zr er 25).1)]) (wx.alloc (.cells #[.slice b1 (textS zr er 25).1.length d1] 34)) ∧ ∃ g, (.slice (some ⟨wx.heap.size, 0, none⟩) 1 1 : Value) = .slice (some ⟨g, 0, none⟩) 1 1 ∧ Blk (wx.alloc (.cells #[.slice b1 (textS zr er 25).1.length d1] 34)) g 34 [vals 3])
        · intro vals act wx h hs
          have e19 : act.eval (.tmp 19) = .slice ka0 j kc0 := h.q 1 19 (by kernel_rfl) rfl
          have e22 : act.eval (.tmp 22) = vals 4 := h.val 4 22 (by kernel_rfl)
          clear h
          obtain ⟨hng, g', h7, hg⟩ : Ng w lim cb (RdR b lim (textS zr er 25).2.1 (textS zr er 25).2.2) false nilS (.slice ka0 j kc0) (.slice ca0 cn cc0) nilS (.slice ka0 j kc0) (.slice ca0 cn cc0) [] (ys) cs (ex ++ [(vals 3, (textS zr er 25).1)]) wx ∧ ∃ g, vals 4 = .slice (some ⟨g, 0, none⟩) 1 1 ∧ Blk wx g 34 [vals 3] := hs
          rw [h7] at e22
          obtain ⟨b1, d1, hf1⟩ := own_form' (hng.ex (vals 3, (textS zr er 25).1) (by simp))
          simp only at hf1
          rw [hf1] at hg
          obtain ⟨p', w', hr, hc', a', c', hp'⟩ := hng.pushK (RdR.stab _ _ _ _) g' b1 _ d1 hg hu1
          rw [← hf1] at hc'
          refine gives_of_run rfl (exec_append (.tmp 19) (.tmp 22) 23 rfl _ _ e19 e22 _ hr) ?_
          exact (⟨hc', a', _, c', hp'⟩ : Ng w lim cb (RdR b lim (textS zr er 25).2.1 (textS zr er 25).2.2) false nilS (.slice ka0 j kc0) (.slice ca0 cn cc0) nilS (p') (.slice ca0 cn cc0) [] (ys ++ [vals 3]) cs (ex ++ [(vals 3, (textS zr er 25).1)]) w' ∧ ∃ a n c, p' = .slice a n c)
        · intro k vals act wx hk h hs
          have e5 : act.eval (.tmp 5) = .pointer (some ⟨cb, 0, none⟩) := h.old 5 (by kernel_rfl)
          clear h
          refine gives_by rfl act.eval rfl ?_
          generalize act.eval = ρ at *
          intro hf hc
          go_simp
          exact ⟨rfl, hs⟩
        · intro vals act wx h hs
          have e24 : act.eval (.tmp 24) = .pointer (some ⟨cb, 2, none⟩) := h.q 6 24 (by kernel_rfl) rfl
          have e23 : act.eval (.tmp 23) = vals 5 := h.val 5 23 (by kernel_rfl)
          clear h
          obtain ⟨hng, a', n', c', h8⟩ : Ng w lim cb (RdR b lim (textS zr er 25).2.1 (textS zr er 25).2.2) false nilS (.slice ka0 j kc0) (.slice ca0 cn cc0) nilS (vals 5) (.slice ca0 cn cc0) [] (ys ++ [vals 3]) cs (ex ++ [(vals 3, (textS zr er 25).1)]) wx ∧ ∃ a n c, vals 5 = .slice a n c := hs
          rw [h8] at e23
          have cc : wx.cell? ⟨cb, 2, none⟩ = some (.slice ka0 j kc0) := hng.cbox.cell 2
          have f0 : wx.frozen? ⟨cb, 2, none⟩ = false := hng.cbox.frozen 2
          have hfin : Ng w lim cb (RdR b lim (textS zr er 25).2.1 (textS zr er 25).2.2) false nilS (vals 5) (.slice ca0 cn cc0) nilS (vals 5) (.slice ca0 cn cc0) [] (ys ++ [vals 3]) cs (ex ++ [(vals 3, (textS zr er 25).1)]) (wx.setCell ⟨cb, 2, none⟩ (.slice a' n' c')) := by have := hng.put (RdR.stab _ _ _ _) 2 (.slice a' n' c') nilS (.slice a' n' c') (.slice ca0 cn cc0) rfl; rw [h8] at this ⊢; exact this
          clear hng h8
          refine gives_by rfl act.eval rfl ?_
          generalize act.eval = ρ at *
          intro hf hc
          go_simp
          exact hfin
      · intro vals1 w' hq hs
        have hfin : Ng w lim cb (RdR b lim (textS zr er 25).2.1 (textS zr er 25).2.2) false nilS (vals1 5) (.slice ca0 cn cc0) nilS (vals1 5) (.slice ca0 cn cc0) [] (ys ++ [vals1 3]) cs (ex ++ [(vals1 3, (textS zr er 25).1)]) w' := hs
        have HNX := hide (keys_snoc (v := vals1 3) (q := (textS zr er 25).1) (ex' := ex ++ [(vals1 3, (textS zr er 25).1)]) HYL.out (fun x hx => List.mem_append_left _ hx) (by simp) HEX.out)
        obtain ⟨zk, hzk⟩ : ∃ z, z = (textS zr er 25).2.1 := ⟨_, rfl⟩
        obtain ⟨ek, hek⟩ : ∃ z, z = (textS zr er 25).2.2 := ⟨_, rfl⟩
        obtain ⟨q1, hq1⟩ : ∃ z, z = (textS zr er 25).1 := ⟨_, rfl⟩
        rw [← hzk, ← hek, ← hq1] at hfin HST
        rw [← hq1] at HNX HT
        rw [← hzk] at HT
        have ht2 := (takeS_ok zk ek 2 HT.out.2).2
        have hx1 : numOf (takeS zk ek 2).1 < 256 ^ 2 := numOf_takeS zk ek 2 HT.out.2
        obtain ⟨X, hX⟩ : ∃ X, X = numOf (takeS zk ek 2).1 := ⟨_, rfl⟩
        rw [← hX] at hx1 HST
        have hx16 : X < 65536 := by simpa using hx1
        have HX := hide hX
        have hwX : IntKind.i64.wrap (X : Int) = (X : Int) := IntWalk.i64_in _ (by omega)
        generalize ex ++ [(vals1 3, q1)] = ex1 at *
        generalize vals1 5 = k1 at *
        have HNL : Hid ((ys ++ [vals1 3]).length = ys.length + 1) := by show _ = _; simp
        generalize ys ++ [vals1 3] = ys1 at *
        obtain ⟨w7, rfl⟩ : ∃ x, x = w' := ⟨_, rfl⟩
        have HF := hide hfin
        clear hq hs hfin hzk hek hq1 hX hx1 HNG2 hng
        simp only [putAll, Act.put, List.setIfInBounds_toArray, List.set_cons_zero, List.set_cons_succ, Nat.zero_add, Nat.reduceAdd]
        go_wp2
        refine wp_region_chain [some (.pointer (some ⟨cb, 3, none⟩)), some (.slice ca0 cn cc0), some (.pointer (some ⟨b, 0, none⟩)), none, none, none, none, some (.pointer (some ⟨cb, 3, none⟩)), none] [3, 4, 5, 6, 8] (RjS w lim cb b zk ek k1 (.slice ca0 cn cc0) ys1 cs ex1 X) 35 (by kernel_rfl) (by kernel_rfl) (by kernel_rfl) (by kernel_rfl) rfl ?_ ?_ ?_
        · intro vals0
          exact (HF.out.keep (RdR.stab _ _ _ _) ((Below.refl _ w7).drew) : Ng w lim cb (RdR b lim zk ek) false nilS k1 (.slice ca0 cn cc0) nilS k1 (.slice ca0 cn cc0) [] ys1 cs ex1 w7.drew)
        · refine ⟨?_, ?_, ?_, ?_, ?_, ?_, ?_, ?_, ?_, trivial⟩
          · intro k vals act wx hk h hs
            have e5 : act.eval (.tmp 5) = .pointer (some ⟨cb, 0, none⟩) := h.old 5 (by kernel_rfl)
            clear h
            refine gives_by rfl act.eval rfl ?_
            generalize act.eval = ρ at *
            intro hf hc
            go_simp
            exact ⟨rfl, hs⟩
          · intro k vals act wx hk h hs
            have e25 : act.eval (.tmp 25) = .pointer (some ⟨cb, 3, none⟩) := h.q 0 25 (by kernel_rfl) rfl
            clear h
            have cx := RjS.cell hs hk
            refine gives_by rfl act.eval rfl ?_
            generalize act.eval = ρ at *
            intro hf hc
            go_simp
            exact ⟨rfl, hs⟩
          · intro k vals act wx hk h hs
            have e3 : act.eval (.tmp 3) = .pointer (some ⟨b, 0, none⟩) := h.old 3 (by kernel_rfl)
            clear h
            refine gives_by rfl act.eval rfl ?_
            generalize act.eval = ρ at *
            intro hf hc
            go_simp
            exact ⟨rfl, hs⟩
          · intro vals act wx h hs
            have e27 : act.eval (.tmp 27) = .pointer (some ⟨b, 0, none⟩) := h.q 2 27 (by kernel_rfl) rfl
            clear h
            have hng : Ng w lim cb (RdR b lim zk ek) false nilS k1 (.slice ca0 cn cc0) nilS k1 (.slice ca0 cn cc0) [] ys1 (cs) ex1 wx := hs
            refine gives_by rfl act.eval rfl ?_
            generalize act.eval = ρ at *
            intro hf hc
            go_simp
            refine (hng.u16 hbb).mono ?_
            rintro e w' ⟨he, hc'⟩
            rw [← HX.out] at he
            exact ⟨_, he, (⟨hc', rfl⟩ : Ng w lim cb (RdR b lim (takeS zk ek 2).2.1 (takeS zk ek 2).2.2) false nilS k1 (.slice ca0 cn cc0) nilS k1 (.slice ca0 cn cc0) [] ys1 (cs) ex1 w' ∧ (.int .u16 (X : Int) : Value) = .int .u16 (X : Int))⟩
          · intro vals act wx h hs
            have e28 : act.eval (.tmp 28) = vals 3 := h.val 3 28 (by kernel_rfl)
            clear h
            obtain ⟨hng, h3⟩ : Ng w lim cb (RdR b lim (takeS zk ek 2).2.1 (takeS zk ek 2).2.2) false nilS k1 (.slice ca0 cn cc0) nilS k1 (.slice ca0 cn cc0) [] ys1 (cs) ex1 wx ∧ vals 3 = .int .u16 (X : Int) := hs
            rw [h3] at e28
            refine gives_by rfl act.eval rfl ?_
            generalize act.eval = ρ at *
            intro hf hc
            go_simp
            exact (⟨hng, rfl⟩ : Ng w lim cb (RdR b lim (takeS zk ek 2).2.1 (takeS zk ek 2).2.2) false nilS k1 (.slice ca0 cn cc0) nilS k1 (.slice ca0 cn cc0) [] ys1 (cs) ex1 wx ∧ (.int .i64 (X : Int) : Value) = .int .i64 (X : Int))
          · intro vals act wx h hs
            have e29 : act.eval (.tmp 29) = vals 4 := h.val 4 29 (by kernel_rfl)
            clear h
            obtain ⟨hng, h4⟩ : Ng w lim cb (RdR b lim (takeS zk ek 2).2.1 (takeS zk ek 2).2.2) false nilS k1 (.slice ca0 cn cc0) nilS k1 (.slice ca0 cn cc0) [] ys1 (cs) ex1 wx ∧ vals 4 = .int .i64 (X : Int) := hs
            rw [h4] at e29
            refine gives_of_run rfl (exec_buildSlice1 24 1 (.tmp 29) rfl _ _ e29 (build_int wx (X : Int))) ?_
            have hbn : Below wx.heap.size wx (wx.alloc (.cells #[.int .i64 (X : Int)] 3)) := (Below.refl _ wx).alloc (Nat.le_refl _) _
            exact (⟨hng.keep (RdR.stab _ _ _ _) hbn, wx.heap.size, rfl, Blk.new wx _ [.int .i64 (X : Int)]⟩ : Ng w lim cb (RdR b lim (takeS zk ek 2).2.1 (takeS zk ek 2).2.2) false nilS k1 (.slice ca0 cn cc0) nilS k1 (.slice ca0 cn cc0) [] ys1 (cs) ex1 (wx.alloc (.cells #[.int .i64 (X : Int)] 3)) ∧ ∃ g, (.slice (some ⟨wx.heap.size, 0, none⟩) 1 1 : Value) = .slice (some ⟨g, 0, none⟩) 1 1 ∧ Blk (wx.alloc (.cells #[.int .i64 (X : Int)] 3)) g 3 [.int .i64 (X : Int)])
          · intro vals act wx h hs
            have e26 : act.eval (.tmp 26) = .slice ca0 cn cc0 := h.q 1 26 (by kernel_rfl) rfl
            have e30 : act.eval (.tmp 30) = vals 5 := h.val 5 30 (by kernel_rfl)
            clear h
            obtain ⟨hng, g', h7, hg⟩ : Ng w lim cb (RdR b lim (takeS zk ek 2).2.1 (takeS zk ek 2).2.2) false nilS k1 (.slice ca0 cn cc0) nilS k1 (.slice ca0 cn cc0) [] ys1 (cs) ex1 wx ∧ ∃ g, vals 5 = .slice (some ⟨g, 0, none⟩) 1 1 ∧ Blk wx g 3 [.int .i64 (X : Int)] := hs
            rw [h7] at e30
            obtain ⟨p', w', hr, hc', a', c', hp'⟩ := hng.pushI (RdR.stab _ _ _ _) g' _ hg hc1
            refine gives_of_run rfl (exec_append (.tmp 26) (.tmp 30) 24 rfl _ _ e26 e30 _ hr) ?_
            exact (⟨hc', a', _, c', hp'⟩ : Ng w lim cb (RdR b lim (takeS zk ek 2).2.1 (takeS zk ek 2).2.2) false nilS k1 (.slice ca0 cn cc0) nilS k1 (p') [] ys1 (cs ++ [(X : Int)]) ex1 w' ∧ ∃ a n c, p' = .slice a n c)
          · intro k vals act wx hk h hs
            have e5 : act.eval (.tmp 5) = .pointer (some ⟨cb, 0, none⟩) := h.old 5 (by kernel_rfl)
            clear h
            refine gives_by rfl act.eval rfl ?_
            generalize act.eval = ρ at *
            intro hf hc
            go_simp
            exact ⟨rfl, hs⟩
          · intro vals act wx h hs
            have e32 : act.eval (.tmp 32) = .pointer (some ⟨cb, 3, none⟩) := h.q 7 32 (by kernel_rfl) rfl
            have e31 : act.eval (.tmp 31) = vals 6 := h.val 6 31 (by kernel_rfl)
            clear h
            obtain ⟨hng, a', n', c', h8⟩ : Ng w lim cb (RdR b lim (takeS zk ek 2).2.1 (takeS zk ek 2).2.2) false nilS k1 (.slice ca0 cn cc0) nilS k1 (vals 6) [] ys1 (cs ++ [(X : Int)]) ex1 wx ∧ ∃ a n c, vals 6 = .slice a n c := hs
            rw [h8] at e31
            have cc : wx.cell? ⟨cb, 3, none⟩ = some (.slice ca0 cn cc0) := hng.cbox.cell 3
            have f0 : wx.frozen? ⟨cb, 3, none⟩ = false := hng.cbox.frozen 3
            have hfin : Ng w lim cb (RdR b lim (takeS zk ek 2).2.1 (takeS zk ek 2).2.2) false nilS k1 (vals 6) nilS k1 (vals 6) [] ys1 (cs ++ [(X : Int)]) ex1 (wx.setCell ⟨cb, 3, none⟩ (.slice a' n' c')) := by have := hng.put (RdR.stab _ _ _ _) 3 (.slice a' n' c') nilS k1 (.slice a' n' c') rfl; rw [h8] at this ⊢; exact this
            clear hng h8
            refine gives_by rfl act.eval rfl ?_
            generalize act.eval = ρ at *
            intro hf hc
            go_simp
            exact hfin
        · intro vals2 w8 hq hs
          have hfin : Ng w lim cb (RdR b lim (takeS zk ek 2).2.1 (takeS zk ek 2).2.2) false nilS k1 (vals2 6) nilS k1 (vals2 6) [] ys1 (cs ++ [(X : Int)]) ex1 w8 := hs
          have HF2 := hide hfin
          clear hq hs hfin HF
          simp only [putAll, Act.put, List.setIfInBounds_toArray, List.set_cons_zero, List.set_cons_succ, Nat.zero_add, Nat.reduceAdd]
          go_wp2
          go_roundg g
          case measure => omega
          case rel =>
            refine ⟨j + 1, k1, vals2 6, ys1, ks ++ [q1], cs ++ [(X : Int)], ex1, _, _, by omega, by go_num, ?_, by rw [List.length_append, HKL.out]; rfl, by rw [List.length_append, HCL.out]; rfl, ht2, HF2.out, ?_, ?_, HNX.out, okk_snoc HT.out.1 HOKS.out⟩
            · rw [HNL.out, List.length_append, HYL.out]; rfl
            · rw [HRD1.out, HST.out]; simp
            · rw [HRD2.out, HST.out]; simp

end Go.Proofs.Ythnppkeifhnceaa
