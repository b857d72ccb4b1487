/- Contracts: a way's form, its bytes. -/
import Derived.Test.YtimmfnjkknbofaaDoorJWdPs
import Derived.Test.YtimmfnjkknbofaaDoorJWdCl
import Derived.Lib.AppendStr
namespace Go.Proofs.YtimmfnjkknbofaaDoor
set_option maxRecDepth 20000
open Go.RowKit
set_option linter.unusedVariables false
set_option linter.unusedSimpArgs false
set_option maxRecDepth 100000

theorem infoB : (Tryd.prog.info? 5).map (fun i => (i.zero, i.size, i.bytes)) = some (some (.int .u8 0), 1, 1) := by kernel_rfl
theorem cell_belowW {w W : World} {a : Addr} {v : Value} (hb : Below w.heap.size w W) (h : w.cell? a = some v) : W.cell? a = some v := (World.cell?_of_block (w := w) (hb.block _ (World.block_lt_of_cell? w _ h))).trans h
/-- bytes that are owned -/
structure Ob (w : World) (base : Nat) (v : Value) (zs : List Int) : Prop where
  row : w.ownsRow base 5 1 v zs.length (zs.map (Value.int .u8))
  ok : ByteOk zs
theorem Ob.sl {w : World} {base : Nat} {v : Value} {zs : List Int} (h : Ob w base v zs) : Sl w v zs := sl_of_own h.row h.ok rfl
theorem Ob.shape {w : World} {base : Nat} {v : Value} {zs : List Int} (h : Ob w base v zs) : ∃ ao cap, v = .slice ao zs.length cap := own_form' h.row
theorem Ob.only {S : Nat → Prop} {w w' : World} {base : Nat} {v : Value} {zs : List Int} (h : Ob w base v zs) (ho : Only S w w') (hn : ∀ k, v.ownBlock = some k → ¬ S k) : Ob w' base v zs := ⟨ownsRow_only h.row ho hn, h.ok⟩
theorem Ob.fresh {w w' : World} {base : Nat} {v : Value} {zs : List Int} (h : Ob w base v zs) (hb : Below w.heap.size w w') : Ob w' base v zs := h.only (Only.of_below (fun _ => False) hb) (fun _ _ h => h)
theorem Ob.lt {w : World} {base : Nat} {v : Value} {zs : List Int} (h : Ob w base v zs) (k : Nat) (hk : v.ownBlock = some k) : base ≤ k ∧ k < w.heap.size := World.ownsRow.lt h.row k hk
theorem Ob.base {w : World} {b b' : Nat} {v : Value} {zs : List Int} (h : Ob w b v zs) (hb : b' ≤ b) : Ob w b' v zs := ⟨ownsRow_le' h.row hb, h.ok⟩
theorem ob_lit (w : World) (zs : List Int) (hb : ByteOk zs) (hm : zs.length ≤ maxLen) : Ob (w.alloc (.cells (zs.map (Value.int .u8)).toArray 5)) w.heap.size (.slice (some ⟨w.heap.size, 0, none⟩) zs.length zs.length) zs := by
  refine ⟨⟨by simp, .inr ⟨w.heap.size, zs.length, _, rfl, Nat.le_refl _, heap_alloc_new w _, Nat.le_refl _, hm, by simp, by simp; exact List.take_of_length_le (by simp)⟩⟩, hb⟩
/-- 'append(b, x)' -/
theorem run_append_b (w : World) (base : Nat) (v : Value) (zs : List Int) (h : Ob w base v zs) (x : Int) (hx : 0 ≤ x ∧ x ≤ 255) (hl : zs.length + 1 ≤ 1000000) (hb : base ≤ w.heap.size) :
    ∃ ao cap w', (Builtin.append_ #[26, 26] 26 #[v, .slice (some ⟨w.heap.size, 0, none⟩) 1 1]).run Tryd.prog (w.alloc (.cells #[.int .u8 x] 5)) = .ok (.slice ao (zs.length + 1) cap) w' ∧ Ob w' base (.slice ao (zs.length + 1) cap) (zs ++ [x]) ∧ Below base w w' := by
  obtain ⟨i0, hi, hz, hs, hby⟩ := info_parts infoB
  obtain ⟨v', w', hr, h1, h2, _, h4⟩ := run_append_own_at (P := Tryd.prog) (w.alloc (.cells #[.int .u8 x] 5)) base 26 26 5 i0 (.int .u8 0) 1 1 Tryd.underlying26 hi hz hs hby rfl (by decide) v zs.length (zs.map (Value.int .u8)) (World.ownsRow.alloc h.row _) ⟨w.heap.size, 0, none⟩ 1 1 [.int .u8 x] rfl
    (fun j u hj => by
      have hB := Blk.new w 5 [.int .u8 x]
      have hj0 : j < 1 := by have := (List.getElem?_eq_some_iff.1 hj).1; simpa using this
      obtain rfl : j = 0 := by omega
      have := hB.cell 0
      simp only [List.getElem?_cons_zero, Option.some.injEq] at hj
      subst hj
      exact this) (by intro u hu; simp at hu; subst hu; rfl) (by unfold maxLen; omega) (by omega) (by simp; omega)
  obtain ⟨ao, cap, rfl⟩ := own_form' h1
  refine ⟨ao, cap, w', hr, ⟨by simpa using h1, ?_⟩, ?_⟩
  · intro z hz
    rcases List.mem_append.1 hz with hz | hz
    · exact h.ok z hz
    · rw [List.mem_singleton] at hz
      omega
  · have ho : Only (fun q => v.ownBlock = some q) w w' := ((Only.refl _ w).alloc _).grown h2 (fun q e _ => e)
    exact ho.below hb (fun k hk e => by have := (h.lt k e).1; omega)
theorem cells_nums : ∀ (zs : List Int), ByteOk zs → Go.Lib.strCells (strOfNums zs) = zs.map (Value.int .u8) := by
  intro zs hb
  unfold Go.Lib.strCells strOfNums
  simp only [List.map_map]
  refine List.map_congr_left (fun z hz => ?_)
  have := hb z hz
  simp only [Function.comp, Value.int.injEq, true_and]
  rw [UInt8.toNat_ofNat']
  omega
/-- 'append(b, s...)' -/
theorem run_append_s (w : World) (base : Nat) (v : Value) (zs : List Int) (h : Ob w base v zs) (z : List Int) (hz : ByteOk z) (hl : zs.length + z.length ≤ 1000000) (hb : base ≤ w.heap.size) :
    ∃ ao cap w', (Builtin.append_ #[26, 9] 26 #[v, .string (strOfNums z)]).run Tryd.prog w = .ok (.slice ao (zs.length + z.length) cap) w' ∧ Ob w' base (.slice ao (zs.length + z.length) cap) (zs ++ z) ∧ Below base w w' := by
  obtain ⟨i0, hi, hz0, hs, hby⟩ := info_parts infoB
  have hsz : (strOfNums z).size = z.length := by simp [strOfNums, ByteArray.size]
  obtain ⟨v', w', hr, h1, h2, _⟩ := Go.Lib.run_append_own_string (P := Tryd.prog) (w := w) base 26 9 26 5 i0 Tryd.underlying26 Tryd.underlying9 hi hz0 hs hby v zs.length _ h.row (strOfNums z) (by unfold maxLen; omega) (by omega) hb
  rw [hsz, cells_nums z hz] at h1
  obtain ⟨ao, cap, rfl⟩ := own_form' h1
  refine ⟨ao, cap, w', hr, ⟨by simpa using h1, ?_⟩, ?_⟩
  · intro y hy
    rcases List.mem_append.1 hy with hy | hy
    · exact h.ok y hy
    · exact hz y hy
  · have ho : Only (fun q => v.ownBlock = some q) w w' := (Only.refl _ w).grown h2 (fun q e _ => e)
    exact ho.below hb (fun k hk e => by have := (h.lt k e).1; omega)

theorem wpList_append_run2 {P : Program} (w : World) {ops : Array Oper} {rest : List Oper} {o : Oper} {a : Act} {Q : Exit → Act → World → Prop} (hgd : o.guard = none) (s x : Operand) (t u : TypeId)
    (ho : o.op = .call { callee := .builtin .append, args := #[s, x], argTypes := #[t, u] }) (v y : Value) (hs : a.eval s = v) (hx : a.eval x = y) (v' : Value) (w' : World)
    (hr : (Builtin.append_ #[t, u] o.type #[v, y]).run P w = .ok v' w') (h : wpList P ops Q rest (a.put o.dst v') w') : wpList P ops Q (o :: rest) a w := by
  refine wpList_plain hgd fun _ hK => ?_
  unfold Oper.wp execOp
  simp only [ho, resolve, invoke, builtin, Sem.run_bind, Sem.run_pure, Result.andThen_ok, List.map_toArray, List.map_cons, List.map_nil, hs, hx, hr]
  exact hK _ _ h
theorem flat_snoc {α : Type} (l : List α) (f : α → List Int) (k : Nat) (x : α) (h : l[k]? = some x) : (l.take (k + 1)).flatMap f = (l.take k).flatMap f ++ f x := by
  rw [List.take_add_one, h, List.flatMap_append]
  simp
theorem flat_fd_len (fs : List Fd) : (fs.flatMap fdB).length = 5 * fs.length := by
  induction fs with
  | nil => rfl
  | cons x l ih =>
    rw [List.flatMap_cons, List.length_append, ih, List.length_cons]
    unfold fdB
    simp only [List.length_append, numBytes_len, List.length_cons, List.length_nil]
    omega
theorem flat_tx_len (ss : List (List Int)) (h : ∀ z ∈ ss, z.length ≤ 24) : (ss.flatMap txt).length ≤ 25 * ss.length := by
  induction ss with
  | nil => exact Nat.le_refl _
  | cons x l ih =>
    have := ih (fun z hz => h z (List.mem_cons_of_mem _ hz))
    have := h x (List.mem_cons_self ..)
    rw [List.flatMap_cons, List.length_append, List.length_cons]
    unfold txt at *
    rw [List.length_cons]
    omega

set_option maxHeartbeats 4000000 in
theorem wform_any (w : World) (v : Value) (C : Cn) (h : CnfV w v C) (hok : FmOk C) :
    Calls Tryd.prog 27 #[v] w fun e w' => ∃ u, e = .returned u ∧ Ob w' w.heap.size u (formP C) ∧ Below w.heap.size w w' := by
  obtain ⟨fo, fc, so, sc, w1, rfl, hw1, hb1, hB, hT, hS⟩ := box_cnf w v C h
  have c0 := hB.cell 0
  have c1 := hB.cell 1
  have c2 := hB.cell 2
  obtain ⟨K, hK⟩ : ∃ K, C.cap = K := ⟨_, rfl⟩
  obtain ⟨nf, hnf⟩ : ∃ K, C.fs.length = K := ⟨_, rfl⟩
  obtain ⟨ns, hns⟩ : ∃ K, C.ss.length = K := ⟨_, rfl⟩
  have hcap := hok.cap
  have hnfl := hok.nf
  have hnsl := hok.ns
  have HF : Hid (formP C = ([K, (nf : Int)] ++ C.fs.flatMap fdB) ++ [(ns : Int)] ++ C.ss.flatMap txt) := by
    show _ = _
    unfold formP
    rw [hK, hnf, hns]
    simp
  rw [hK] at c2 hcap hw1
  rw [hnf] at c0 hnfl hT hw1
  rw [hns] at c1 hnsl hS hw1
  simp only [List.getElem?_cons_zero, List.getElem?_cons_succ] at c0 c1 c2
  rw [hK, hnf, hns]
  have HT : Hid (∀ W, Below w1.heap.size w1 W → Tbl W (.slice fo nf fc) C.fs) := fun W hb => (hT.below hb1).below hb
  have HS : Hid (∀ W, Below w1.heap.size w1 W → Strs W (.slice so ns sc) C.ss) := fun W hb => (hS.below hb1).below hb
  have HW1 := hide hw1
  have HB1 := hide hb1
  have HNF := hide hnf
  have HNS := hide hns
  have HOK := hide hok
  have hsz1 : w1.heap.size = w.heap.size + 1 := by rw [← hw1]; simp
  have HSZ1 := hide hsz1
  have HBX : Hid (∀ W, Below w1.heap.size w1 W → W.cell? ⟨w.heap.size, 1, none⟩ = some (.slice so ns sc)) := fun W hb => cell_belowW hb c1
  obtain ⟨w2, hw2⟩ : ∃ w2, w1.alloc (.cells #[.int .u8 K, .int .u8 (nf : Int)] 5) = w2 := ⟨_, rfl⟩
  have hO2 : Ob w2 w1.heap.size (.slice (some ⟨w1.heap.size, 0, none⟩) 2 2) [K, (nf : Int)] := by
    rw [← hw2]
    exact ob_lit w1 [K, (nf : Int)] (fun z hz => by
      rcases List.mem_cons.1 hz with e | hz
      · subst e; omega
      · rw [List.mem_singleton] at hz; subst hz; omega) (by simp [maxLen])
  have hb2 : Below w1.heap.size w1 w2 := by rw [← hw2]; exact (Below.refl _ w1).alloc (Nat.le_refl _) _
  have HW2 := hide hw2
  have HO2 := hide hO2
  have HB2 := hide hb2
  have c0' := cell_belowW hb2 c0
  clear h hK hnf hns hT hS hB hb1 hok hsz1 hO2 hb2
  go_enter Tryd.func27, Tryd.ntmps27
  go_wp2
  clear hw1 hw2
  go_loopg [3, 19] nf (fun g l3 l19 wr => ∃ (k : Nat) (a : Option Addr) (n c : Nat), g + k = nf ∧ l19 = .int .i64 (k : Int) ∧ l3 = .slice a n c ∧ n = 2 + 5 * k ∧ Ob wr w1.heap.size (.slice a n c) ([K, (nf : Int)] ++ (C.fs.take k).flatMap fdB) ∧ Below w1.heap.size w1 wr)
  case atStart => exact ⟨0, _, 2, 2, by omega, rfl, rfl, rfl, by rw [List.take_zero]; exact HO2.out, HB2.out⟩
  case round =>
    obtain ⟨k, a, n, c, hg, rfl, rfl, hn, ho, hb⟩ := hrel
    have HO := hide ho
    have HB := hide hb
    have HG : Hid (gk + k = nf) := hg
    obtain ⟨GK, hGK⟩ : ∃ x, gk = x := ⟨_, rfl⟩
    have HGK := hide hGK
    obtain ⟨WR, hWR⟩ : ∃ y, y = wr := ⟨_, rfl⟩
    subst hWR
    clear ho hb hGK
    by_cases hk : k < nf
    · obtain ⟨fb, foff, x, rfl, hx, _, q0, q1, q2⟩ := (HT.out WR HB.out).at k (by have := HNF.out; omega)
      have hxm : x ∈ C.fs := List.mem_of_getElem? hx
      obtain ⟨e1, e2, e3, e4, e5, e6⟩ := HOK.out.fd x hxm
      have HX := hide hx
      obtain ⟨x0, x1, x2⟩ := x
      simp only at q0 q1 q2 e1 e2 e3 e4 e5 e6
      obtain ⟨F, rfl⟩ : ∃ F : Nat, x0 = (F : Int) := ⟨x0.toNat, by omega⟩
      obtain ⟨T, rfl⟩ : ∃ F : Nat, x1 = (F : Int) := ⟨x1.toNat, by omega⟩
      obtain ⟨W2, hW2⟩ : ∃ W2, WR.alloc (.cells #[.int .i32 (F : Int), .int .i32 (T : Int), .int .i64 x2] 54) = W2 := ⟨_, rfl⟩
      have hb2 : Below WR.heap.size WR W2 := by rw [← hW2]; exact (Below.refl _ WR).alloc (Nat.le_refl _) _
      have hB2 : Blk W2 WR.heap.size 54 [.int .i32 (F : Int), .int .i32 (T : Int), .int .i64 x2] := by rw [← hW2]; exact Blk.new WR _ _
      have hs2 : W2.heap.size = WR.heap.size + 1 := by rw [← hW2]; simp
      have r0 : W2.cell? ⟨WR.heap.size, 0, none⟩ = some (.int .i32 (F : Int)) := hB2.cell 0
      have HR1 : Hid (∀ W, Below W2.heap.size W2 W → W.cell? ⟨WR.heap.size, 1, none⟩ = some (.int .i32 (T : Int)) ∧ W.cell? ⟨WR.heap.size, 2, none⟩ = some (.int .i64 x2)) := fun W hb => ⟨cell_belowW hb (hB2.cell 1), cell_belowW hb (hB2.cell 2)⟩
      have hz1 := HB.out.size
      have hln : ([K, (nf : Int)] ++ (C.fs.take k).flatMap fdB).length = n := by rw [List.length_append, flat_fd_len, List.length_take, Nat.min_eq_left (by have := HNF.out; omega)]; simp; omega
      have HUA := hide (packU16_any W2 _ _ F ((HO.out.fresh hb2).sl) (by rw [hln]; omega) (by omega))
      have HU2 := hide (fun (W : World) (u : Value) (zs : List Int) (hu : Ob W w1.heap.size u zs) (hl : zs.length ≤ 5000) => packU16_any W u zs T hu.sl (by omega) (by omega))
      have HUB : Hid (∀ (W : World) (u : Value) (zs : List Int), Ob W w1.heap.size u zs → zs.length ≤ 5000 → w1.heap.size ≤ W.heap.size → ∃ ao cap w', (Builtin.append_ #[26, 26] 26 #[u, .slice (some ⟨W.heap.size, 0, none⟩) 1 1]).run Tryd.prog (W.alloc (.cells #[.int .u8 (x2 - 1)] 5)) = .ok (.slice ao (zs.length + 1) cap) w' ∧ Ob w' w1.heap.size (.slice ao (zs.length + 1) cap) (zs ++ [x2 - 1]) ∧ Below w1.heap.size W w') := fun W u zs hu hl hs => run_append_b W w1.heap.size u zs hu (x2 - 1) (by omega) (by omega) hs
      have HB12 : Hid (Below w1.heap.size w1 W2) := HB.out.trans (hb2.mono HB.out.size)
      have HLN := hide hln
      have hkk : (k : Int) < (nf : Int) := by omega
      have HOKB : Hid (ByteOk ([K, (nf : Int)] ++ (C.fs.take k).flatMap fdB)) := HO.out.ok
      have hn900 : n ≤ 2000 := by omega
      have HNN := hide hn
      clear hxm hx hB2 hb2 hln hn
      go_wp2_with (first
        | (go_at_call 53; refine HUA.out.mono ?_; rintro e w3 ⟨u3, rfl, ho3, hb3, _⟩; obtain ⟨a3, c3, rfl⟩ := own_form' ho3; have HO3 : Hid (Ob w3 w1.heap.size _ _) := (⟨ho3, fun z hz => by
            rcases List.mem_append.1 hz with h | h
            · exact HOKB.out z h
            · exact numBytes_ok 2 _ z h⟩ : Ob w3 W2.heap.size _ _).base HB12.out.size; have HB3 := hide hb3; have r1 := (HR1.out w3 hb3).1; rw [List.length_append, HLN.out, numBytes_len] at HO3 ⊢; clear HUA ho3 hb3)
        | (go_at_call 53; refine (HU2.out w3 _ _ HO3.out (by rw [List.length_append, HLN.out, numBytes_len]; omega)).mono ?_; rintro e w4 ⟨u4, rfl, ho4, hb4, _⟩; obtain ⟨a4, c4, rfl⟩ := own_form' ho4; have HO4 : Hid (Ob w4 w1.heap.size _ _) := (⟨ho4, fun z hz => by
            rcases List.mem_append.1 hz with h | h
            · exact HO3.out.ok z h
            · exact numBytes_ok 2 _ z h⟩ : Ob w4 w3.heap.size _ _).base (Nat.le_trans HB12.out.size HB3.out.size); have HB4 := hide (HB3.out.trans (hb4.mono HB3.out.size)); have r2 := (HR1.out w4 HB4.out).2; rw [List.length_append, List.length_append, HLN.out, numBytes_len, numBytes_len] at HO4 ⊢
           obtain ⟨a5, c5, w5, hr5, ho5, hb5⟩ := HUB.out w4 _ _ HO4.out (by rw [List.length_append, List.length_append, HLN.out, numBytes_len, numBytes_len]; omega) (Nat.le_trans HB12.out.size HB4.out.size)
           rw [List.length_append, List.length_append, HLN.out, numBytes_len, numBytes_len] at hr5 ho5
           have HR5 := hide hr5; have HO5 := hide ho5; have HB5 := hide hb5; clear HU2 HUB ho4 hb4 hr5 ho5 hb5)
        | (at_builtin; (with_reducible refine wpList_append_run _ rfl (.tmp 33) (.tmp 38) 26 rfl _ _ ?_ ?_ _ _ HR5.out ?_); exact rfl; exact rfl; clear HR5))
      go_roundg (GK - 1)
      case measure => have := HGK.out; have := HG.out; omega
      case rel =>
        refine ⟨k + 1, a5, _, c5, by have := HGK.out; have := HG.out; omega, by go_num, rfl, by have := HNN.out; omega, ?_, ?_⟩
        · have e := flat_snoc C.fs fdB k _ HX.out
          rw [e, show fdB ((F : Int), (T : Int), x2) = numBytes F 2 ++ (numBytes T 2 ++ [x2 - 1]) from rfl]
          have := HO5.out
          simpa using this
        · exact (HB12.out.trans (HB4.out.mono HB12.out.size)).trans HB5.out
    · obtain rfl : k = nf := by omega
      have hfull : C.fs.take k = C.fs := List.take_of_length_le (by have := HNF.out; omega)
      have hOa := HO.out
      rw [hfull] at hOa
      have hln : ([K, (k : Int)] ++ C.fs.flatMap fdB).length = n := by rw [List.length_append, flat_fd_len, HNF.out]; simp; omega
      have hz1 := HB.out.size
      obtain ⟨a6, c6, w6, hr6, ho6, hb6⟩ := run_append_b WR w1.heap.size _ _ hOa (ns : Int) (by omega) (by rw [hln]; omega) hz1
      rw [hln] at hr6 ho6
      have hbb6 : Below w1.heap.size w1 w6 := HB.out.trans hb6
      have r1 := HBX.out WR HB.out
      have r2 := HBX.out w6 hbb6
      have hn900 : n ≤ 2000 := by omega
      have HPL : Hid (([K, (k : Int)] ++ C.fs.flatMap fdB ++ [(ns : Int)]).length = n + 1) := by show _ = _; rw [List.length_append, hln]; rfl
      have HR6 := hide hr6
      have HO6 := hide ho6
      have HB6 := hide hbb6
      have HFD := hide HF.out
      obtain ⟨pre, hpre⟩ : ∃ pre, [K, (k : Int)] ++ C.fs.flatMap fdB ++ [(ns : Int)] = pre := ⟨_, rfl⟩
      rw [hpre] at HO6 HPL HFD
      clear hfull hOa hln hr6 ho6 hb6 hbb6 hn HF hpre
      go_wp2_with (at_builtin; (with_reducible refine wpList_append_run _ rfl (.tmp 41) (.tmp 46) 26 rfl _ _ ?_ ?_ _ _ HR6.out ?_); exact rfl; exact rfl; clear HR6)
      go_loopg [3, 51] ns (fun g l3 l51 wr => ∃ (j : Nat) (a : Option Addr) (m c : Nat), g + j = ns ∧ l51 = .int .i64 (j : Int) ∧ l3 = .slice a m c ∧ m = n + 1 + ((C.ss.take j).flatMap txt).length ∧ Ob wr w1.heap.size (.slice a m c) (pre ++ (C.ss.take j).flatMap txt) ∧ Below w1.heap.size w1 wr)
      case atStart => exact ⟨0, _, _, _, by omega, rfl, rfl, by rw [List.take_zero]; rfl, by rw [List.take_zero, List.flatMap_nil, List.append_nil]; exact HO6.out, HB6.out⟩
      case round =>
        obtain ⟨j, a, m, c, hg, rfl, rfl, hm, ho, hb⟩ := hrel
        have HO := hide ho
        have HB := hide hb
        have HG : Hid (gk + j = ns) := hg
        obtain ⟨GK, hGK⟩ : ∃ x, gk = x := ⟨_, rfl⟩
        have HGK := hide hGK
        have HM := hide hm
        have htl : ((C.ss.take j).flatMap txt).length ≤ 25 * 255 := by
          refine Nat.le_trans (flat_tx_len _ (fun z hz => (HOK.out.st z (List.mem_of_mem_take hz)).1)) ?_
          rw [List.length_take]
          have := HNS.out
          omega
        have hm2 : m ≤ 10000 := by omega
        clear ho hb hGK hm htl
        by_cases hk : j < ns
        · have hjl : j < C.ss.length := by have := HNS.out; omega
          obtain ⟨sb, soff, rfl, q0, hbz⟩ := (HS.out wr HB.out).at j hjl
          have hx : C.ss[j]? = some C.ss[j] := List.getElem?_eq_getElem hjl
          obtain ⟨z, hz⟩ : ∃ z, C.ss[j] = z := ⟨_, rfl⟩
          rw [hz] at q0 hbz hx
          have hzl : z.length ≤ 24 := (HOK.out.st z (List.mem_of_getElem? hx)).1
          obtain ⟨zn, hzn⟩ : ∃ zn, z.length = zn := ⟨_, rfl⟩
          rw [hzn] at hzl
          have hpm : (pre ++ (C.ss.take j).flatMap txt).length = m := by rw [List.length_append, HPL.out, HM.out]
          obtain ⟨a7, c7, w7, hr7, ho7, hb7⟩ := run_append_b wr w1.heap.size _ _ HO.out (zn : Int) (by omega) (by rw [hpm]; omega) HB.out.size
          have hpm7 : (pre ++ (C.ss.take j).flatMap txt ++ [(zn : Int)]).length = m + 1 := by rw [List.length_append, hpm]; rfl
          rw [hpm] at hr7 ho7
          obtain ⟨a8, c8, w8, hr8, ho8, hb8⟩ := run_append_s w7 w1.heap.size _ _ ho7 z hbz (by rw [hpm7, hzn]; omega) (Nat.le_trans HB.out.size (hb7.size))
          rw [hpm7, hzn] at hr8 ho8
          have hsz : ((strOfNums z).size : Int) = (zn : Int) := by rw [← hzn]; simp [strOfNums, ByteArray.size]
          have HR7 := hide hr7
          have HR8 := hide hr8
          have HO8 := hide ho8
          have HB8 := hide (HB.out.trans (hb7.trans hb8))
          have HX := hide hx
          have HZN := hide hzn
          have hjj : (j : Int) < (ns : Int) := by omega
          clear hz hx hzn hpm hr7 ho7 hb7 hpm7 hr8 ho8 hb8 hjl
          go_wp2_with (first
            | (at_builtin; (with_reducible refine wpList_append_run _ rfl (.tmp 55) (.tmp 59) 26 rfl _ _ ?_ ?_ _ _ HR7.out ?_); exact rfl; exact rfl; clear HR7)
            | (at_builtin; (with_reducible refine wpList_append_run2 _ rfl (.tmp 61) (.tmp 62) 26 9 rfl _ _ ?_ ?_ _ _ HR8.out ?_); exact rfl; exact rfl; clear HR8))
          go_roundg (GK - 1)
          case measure => have := HGK.out; have := HG.out; omega
          case rel =>
            have e := flat_snoc C.ss txt j _ HX.out
            refine ⟨j + 1, a8, _, c8, by have := HGK.out; have := HG.out; omega, by go_num, rfl, ?_, ?_, HB8.out⟩
            · rw [e, List.length_append, HM.out]
              have := HZN.out
              unfold txt
              rw [List.length_cons, this]
              omega
            · rw [e]
              have := HO8.out
              unfold txt
              rw [HZN.out]
              unfold txt at this
              simpa using this
        · obtain rfl : j = ns := by omega
          have hfull : C.ss.take j = C.ss := List.take_of_length_le (by have := HNS.out; omega)
          go_wp2
          go_ret
          refine ⟨_, rfl, ?_, HB1.out.trans (HB.out.mono HB1.out.size)⟩
          have := HO.out
          rw [hfull, ← HFD.out] at this
          exact this.base HB1.out.size

end Go.Proofs.YtimmfnjkknbofaaDoor
