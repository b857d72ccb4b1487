/- Contract: a way's bytes. -/
import Derived.Test.YtimmfnjkknbofaaDoorJWdFm
import Derived.BigQuiet
namespace Go.Proofs.YtimmfnjkknbofaaDoor
set_option maxRecDepth 20000
open Go.RowKit
set_option linter.unusedVariables false
set_option linter.unusedSimpArgs false
set_option maxRecDepth 100000

theorem fmL_len : ∀ l : List Nat, (∀ r ∈ l, letN r = true) → (fmL l).length ≤ 2 * l.length
  | [], _ => Nat.zero_le _
  | r :: l, h => by
    have h1 := (letN_len (h r (List.mem_cons_self ..))).2
    have h2 := fmL_len l (fun x hx => h x (List.mem_cons_of_mem _ hx))
    rw [fmL_cons, List.length_append, List.length_cons]
    omega
theorem goS_mem (us : List Fd) (m : Nat) : ∀ (ss : List (List Int)) (o : Option (List Int)), goS us m o ss = true → ∀ z ∈ ss, ownB us m z = true
  | [], _, _, z, hz => by cases hz
  | s :: ss, none, h, z, hz => by
    rw [goS, Bool.and_eq_true] at h
    rcases List.mem_cons.1 hz with e | hz
    · rw [e]; exact h.1
    · exact goS_mem us m ss _ h.2 z hz
  | s :: ss, some q, h, z, hz => by
    rw [goS, Bool.and_eq_true, Bool.and_eq_true] at h
    rcases List.mem_cons.1 hz with e | hz
    · rw [e]; exact h.1.2
    · exact goS_mem us m ss _ h.2 z hz
theorem ownB_len {xs : List Fd} {m : Nat} {z : List Int} (h : ownB (useL xs) m z = true) : z.length ≤ 2 * m := by
  unfold ownB at h
  simp only [Bool.and_eq_true, decide_eq_true_iff] at h
  obtain ⟨⟨_, h2⟩, h3⟩ := h
  have hl := (led_all h2).1
  rw [← h3]
  unfold termZ
  have := fmL_len _ (termR_let xs m hl)
  have h4 : (termR (useL xs) m (rs z)).length ≤ m := by unfold termR; rw [List.length_map, List.length_take]; omega
  omega
theorem mayC_fm {C : Cn} (h : mayC C = true) (hb : ∀ z ∈ C.ss, ByteOk z) : FmOk C := by
  unfold mayC at h
  simp only [Bool.and_eq_true, decide_eq_true_iff] at h
  obtain ⟨⟨⟨h1, h2⟩, h3⟩, h4⟩ := h
  unfold tblB at h1
  simp only [Bool.and_eq_true, decide_eq_true_iff, Bool.not_eq_true'] at h1
  obtain ⟨⟨⟨q1, q2⟩, _⟩, _⟩ := h1
  unfold stopsB at h4
  simp only [Bool.and_eq_true, decide_eq_true_iff] at h4
  have hn := no_ok q2
  refine ⟨by omega, by omega, fun x hx => ?_, by omega, fun z hz => ⟨?_, hb z hz⟩⟩
  · obtain ⟨⟨a1, a2⟩, a3, a4, a5, a6⟩ := hn x hx
    omega
  · have := ownB_len (goS_mem _ _ _ _ h4.2 z hz)
    omega
theorem formP_len {C : Cn} (h : FmOk C) : (formP C).length ≤ 10000 := by
  unfold formP
  have h1 := flat_fd_len C.fs
  have h2 := flat_tx_len C.ss (fun z hz => (h.st z hz).1)
  have := h.nf
  have := h.ns
  simp only [List.length_cons, List.length_append]
  omega

def bytE (C : Cn) : Int := if mayC C = true then (if (formP C).length ≤ 240 then 0 else 3) else 140
def bytL (C : Cn) : List Int := if mayC C = true ∧ (formP C).length ≤ 240 then formP C else []
theorem Ob.nil (w : World) (base : Nat) : Ob w base (.slice none 0 0) [] := ⟨World.ownsRow_nil _ _ _ _, fun z hz => by cases hz⟩

set_option maxHeartbeats 2000000 in
theorem bytes_any (w : World) (v : Value) (C : Cn) (h : CnfV w v C) (hok : CnOk C) (hL : Let w) :
    Calls Tryd.prog 8 #[v] w fun e w' => ∃ u, e = .returned (.tuple #[u, .int .i64 (bytE C)]) ∧ Ob w' w.heap.size u (bytL C) ∧ Below w.heap.size w w' := by
  have hbz := h
  obtain ⟨fo, fc, so, sc, w1, rfl, hw1, hb1, hB, hT, hS⟩ := box_cnf w v C h
  have HCK := hide (checkC_any w1 _ C (h.below hb1) hok (hL.below hb1))
  have HFM : Hid (mayC C = true → ∀ W, Below w1.heap.size w1 W → Calls Tryd.prog 27 #[.agg #[.slice fo C.fs.length fc, .slice so C.ss.length sc, .int .i64 C.cap]] W fun e w' => ∃ u, e = .returned u ∧ Ob w' W.heap.size u (formP C) ∧ Below W.heap.size W w') := fun hm W hb => wform_any W _ C ((h.below hb1).below hb) (mayC_fm hm (fun z hz => hS.1 z hz))
  have c0 := hB.cell 0
  have c1 := hB.cell 1
  have c2 := hB.cell 2
  simp only [List.getElem?_cons_zero, List.getElem?_cons_succ] at c0 c1 c2
  have HBX : Hid (∀ W, Below w1.heap.size w1 W → W.cell? ⟨w.heap.size, 0, none⟩ = some (.slice fo C.fs.length fc) ∧ W.cell? ⟨w.heap.size, 1, none⟩ = some (.slice so C.ss.length sc) ∧ W.cell? ⟨w.heap.size, 2, none⟩ = some (.int .i64 C.cap)) := fun W hb => ⟨cell_belowW hb c0, cell_belowW hb c1, cell_belowW hb c2⟩
  obtain ⟨fn, hfn⟩ : ∃ n, C.fs.length = n := ⟨_, rfl⟩
  obtain ⟨sn, hsn⟩ : ∃ n, C.ss.length = n := ⟨_, rfl⟩
  obtain ⟨K, hK⟩ : ∃ n, C.cap = n := ⟨_, rfl⟩
  rw [hfn] at hw1 c0 HCK HFM HBX ⊢
  rw [hsn] at hw1 c1 HCK HFM HBX ⊢
  rw [hK] at hw1 c2 HCK HFM HBX ⊢
  have HE : Hid (mayE C = if mayC C = true then 0 else 140) := rfl
  have HB1 := hide hb1
  clear h hT hS hB hb1 hok hL hfn hsn hK hbz
  cases hM : mayC C with
  | false =>
    rw [HE.out, hM, if_neg (by simp)] at HCK
    have e1 : bytE C = 140 := by unfold bytE; rw [if_neg (by rw [hM]; simp)]
    have e2 : bytL C = [] := by unfold bytL; rw [if_neg (by rw [hM]; simp)]
    rw [e1, e2]
    clear hM HE HFM e1 e2
    go_enter Tryd.func8, Tryd.ntmps8
    go_wp2_with (go_at_call 12; refine HCK.out.mono ?_; rintro e w2 ⟨rfl, hb⟩; have HB2 := hide (HB1.out.trans (hb.mono HB1.out.size)); clear HCK hb)
    go_ret2
    exact ⟨_, rfl, Ob.nil _ _, HB2.out⟩
  | true =>
    rw [HE.out, hM, if_pos rfl] at HCK
    have HF2 := hide (HFM.out hM)
    obtain ⟨fl, hfl⟩ : ∃ l, (formP C).length = l := ⟨_, rfl⟩
    by_cases h240 : fl ≤ 240
    · have e1 : bytE C = 0 := by unfold bytE; rw [if_pos hM, if_pos (by omega)]
      have e2 : bytL C = formP C := by unfold bytL; rw [if_pos ⟨hM, by omega⟩]
      have hgt : ¬ (240 : Int) < (fl : Int) := by omega
      have HFL := hide hfl
      rw [e1, e2]
      clear hM HE HFM e1 e2 hfl
      go_enter Tryd.func8, Tryd.ntmps8
      go_wp2_with (first
        | (go_at_call 12; refine HCK.out.mono ?_; rintro e w2 ⟨rfl, hb⟩; obtain ⟨d0, d1, d2⟩ := HBX.out w2 hb; have HB2 := hide hb; clear HCK hb)
        | (go_at_call 27; refine (HF2.out w2 HB2.out).mono ?_; rintro e w3 ⟨u, rfl, ho, hb⟩; obtain ⟨ua, uc, rfl⟩ := ho.shape; have HO := hide ho; have HB3 := hide (HB2.out.trans (hb.mono HB2.out.size)); rw [HFL.out] at HO ⊢; have HZ := hide (Nat.le_trans HB1.out.size HB2.out.size); clear HF2 ho hb))
      go_ret2
      exact ⟨_, rfl, HO.out.base HZ.out, HB1.out.trans (HB3.out.mono HB1.out.size)⟩
    · have e1 : bytE C = 3 := by unfold bytE; rw [if_pos hM, if_neg (by omega)]
      have e2 : bytL C = [] := by unfold bytL; rw [if_neg (by rintro ⟨_, h⟩; omega)]
      have hgt : (240 : Int) < (fl : Int) := by omega
      have HFL := hide hfl
      rw [e1, e2]
      clear hM HE HFM e1 e2 hfl
      go_enter Tryd.func8, Tryd.ntmps8
      go_wp2_with (first
        | (go_at_call 12; refine HCK.out.mono ?_; rintro e w2 ⟨rfl, hb⟩; obtain ⟨d0, d1, d2⟩ := HBX.out w2 hb; have HB2 := hide hb; clear HCK hb)
        | (go_at_call 27; refine (HF2.out w2 HB2.out).mono ?_; rintro e w3 ⟨u, rfl, ho, hb⟩; obtain ⟨ua, uc, rfl⟩ := ho.shape; have HB3 := hide (HB2.out.trans (hb.mono HB2.out.size)); rw [HFL.out]; clear HF2 ho hb))
      go_ret2
      exact ⟨_, rfl, Ob.nil _ _, HB1.out.trans (HB3.out.mono HB1.out.size)⟩

end Go.Proofs.YtimmfnjkknbofaaDoor
/- Contracts: the document's two bytes behind a row; what it takes of bytes (its taker: one, two). -/
namespace Go.Proofs.YtimmfnjkknbofaaDoor
set_option maxRecDepth 20000
open Go.RowKit
set_option linter.unusedVariables false
set_option linter.unusedSimpArgs false
set_option maxRecDepth 100000

theorem two_bytes (x : Nat) (h : x < 65536) : numBytes x 2 = [((x / 256 : Nat) : Int), ((x % 256 : Nat) : Int)] := by
  have e : x / 256 % 256 = x / 256 := Nat.mod_eq_of_lt (by omega)
  simp [numBytes, e]
/-- 'append(b, x, y)' -/
theorem run_append_bb (w : World) (base : Nat) (v : Value) (zs : List Int) (h : Ob w base v zs) (x y : Int) (hx : 0 ≤ x ∧ x ≤ 255) (hy : 0 ≤ y ∧ y ≤ 255) (hl : zs.length + 2 ≤ 1000000) (hb : base ≤ w.heap.size) :
    ∃ ao cap w', (Builtin.append_ #[26, 26] 26 #[v, .slice (some ⟨w.heap.size, 0, none⟩) 2 2]).run Tryd.prog (w.alloc (.cells #[.int .u8 x, .int .u8 y] 5)) = .ok (.slice ao (zs.length + 2) cap) w' ∧ Ob w' base (.slice ao (zs.length + 2) cap) (zs ++ [x, y]) ∧ Only (fun q => v.ownBlock = some q) w w' ∧ ((Value.slice ao (zs.length + 2) cap).ownBlock = v.ownBlock ∨ ∃ k, (Value.slice ao (zs.length + 2) cap).ownBlock = some k ∧ w.heap.size < k) := by
  obtain ⟨i0, hi, hz, hs, hby⟩ := info_parts infoB
  obtain ⟨v', w', hr, h1, h2, _, h4⟩ := run_append_own_at (P := Tryd.prog) (w.alloc (.cells #[.int .u8 x, .int .u8 y] 5)) base 26 26 5 i0 (.int .u8 0) 1 1 Tryd.underlying26 hi hz hs hby rfl (by decide) v zs.length (zs.map (Value.int .u8)) (World.ownsRow.alloc h.row _) ⟨w.heap.size, 0, none⟩ 2 2 [.int .u8 x, .int .u8 y] rfl
    (fun j u hj => by
      have hB := Blk.new w 5 [.int .u8 x, .int .u8 y]
      rw [Addr.add_mid, Nat.zero_add, hB.cell]
      exact hj) (by intro u hu; simp at hu; rcases hu with rfl | rfl <;> rfl) (by unfold maxLen; omega) (by omega) (by simp; omega)
  obtain ⟨ao, cap, rfl⟩ := own_form' h1
  refine ⟨ao, cap, w', hr, ⟨by simpa using h1, ?_⟩, ((Only.refl _ w).alloc _).grown h2 (fun q e _ => e), ?_⟩
  rotate_left
  · rcases h4 with e | e
    · exact .inl e
    · exact .inr ⟨_, e, by simp⟩
  intro z hz
  rcases List.mem_append.1 hz with hz | hz
  · exact h.ok z hz
  · rcases List.mem_cons.1 hz with e | hz
    · omega
    · rw [List.mem_singleton] at hz
      omega
theorem twoB_any (w : World) (base : Nat) (v : Value) (zs : List Int) (h : Ob w base v zs) (x : Nat) (hx : x < 65536) (hl : zs.length ≤ 100000) (hb : base ≤ w.heap.size) :
    Calls Tryd.prog 28 #[v, .int .i64 (x : Int)] w fun e w' => ∃ a c, e = .returned (.slice a (zs.length + 2) c) ∧ Ob w' base (.slice a (zs.length + 2) c) (zs ++ numBytes x 2) ∧ Only (fun q => v.ownBlock = some q) w w' ∧ ((Value.slice a (zs.length + 2) c).ownBlock = v.ownBlock ∨ ∃ k, (Value.slice a (zs.length + 2) c).ownBlock = some k ∧ w.heap.size < k) := by
  obtain ⟨a0, c0, cap0, hr, ho, hO, hw⟩ := run_append_bb w base v zs h ((x / 256 : Nat) : Int) ((x % 256 : Nat) : Int) (by omega) (by omega) (by omega) hb
  rw [two_bytes x hx]
  obtain ⟨ao, cap, rfl⟩ := h.shape
  obtain ⟨X, hX⟩ : ∃ X, x / 256 = X := ⟨_, rfl⟩
  obtain ⟨Y, hY⟩ : ∃ Y, x % 256 = Y := ⟨_, rfl⟩
  rw [hX, hY] at hr ho
  rw [hX, hY]
  have q1 : ((x : Int)) / 256 = (X : Int) := by omega
  have q2 : ((x : Int)) % 256 = (Y : Int) := by omega
  have b1 : X ≤ 255 := by omega
  have b2 : Y ≤ 255 := by omega
  have HR := hide hr
  have HO := hide ho
  have HB := hide hO
  have HWN := hide hw
  clear hr ho hO hw h hX hY
  go_enter Tryd.func28, Tryd.ntmps28
  go_wp2_with (at_builtin; (with_reducible refine wpList_append_run _ rfl (.tmp 5) (.tmp 12) 26 rfl _ _ ?_ ?_ _ _ HR.out ?_); exact rfl; exact rfl; clear HR)
  go_ret
  exact ⟨_, _, rfl, HO.out, HB.out, HWN.out⟩

/-- the document's taker: its bytes, how many were asked of it -/
structure Ta (w0 w : World) (t : Nat) (v : Value) (p : Nat) : Prop where
  blk : Blk w t 65 [v, .int .i64 (p : Int)]
  below : Below w0.heap.size w0 w
  ge : w0.heap.size ≤ t
theorem Ta.only {S : Nat → Prop} {w0 w w' : World} {t : Nat} {v : Value} {p : Nat} (h : Ta w0 w t v p) (ho : Only S w w') (hS : ∀ k, k ≤ t → ¬ S k) : Ta w0 w' t v p :=
  ⟨h.blk.only ho (hS t (Nat.le_refl _)), h.below.trans (ho.below h.below.size (fun k hk => hS k (by have := h.ge; omega))), h.ge⟩
theorem taOne_any (w0 w : World) (t : Nat) (v : Value) (zs : List Int) (p : Nat) (hz : Sl w0 v zs) (h : Ta w0 w t v p) (hp : p ≤ 100000000) (hl : zs.length ≤ 100000) :
    Calls Tryd.prog 34 #[.pointer (some ⟨t, 0, none⟩)] w fun e w' => e = .returned (.int .i64 (zs.getD p 0)) ∧ Ta w0 w' t v (p + 1) ∧ Only (· = t) w w' := by
  obtain ⟨vo, vc, rfl⟩ := sl_form' hz
  obtain ⟨n, hn⟩ : ∃ n, zs.length = n := ⟨_, rfl⟩
  have c0 : w.cell? ⟨t, 0, none⟩ = some (.slice vo zs.length vc) := h.blk.cell 0
  have c1 : w.cell? ⟨t, 1, none⟩ = some (.int .i64 (p : Int)) := h.blk.cell 1
  have f1 := h.blk.frozen 1
  have hbl := h.blk.set 1 (.int .i64 ((p : Int) + 1))
  have hoS : Only (· = t) w (w.setCell ⟨t, 1, none⟩ (.int .i64 ((p : Int) + 1))) := (Only.refl (· = t) w).setCell _ _ (fun _ => rfl)
  have hge := h.ge
  have hTa : Ta w0 (w.setCell ⟨t, 1, none⟩ (.int .i64 ((p : Int) + 1))) t (.slice vo zs.length vc) (p + 1) := ⟨by have := hbl; simpa using this, h.below.trans (hoS.below h.below.size (fun k hk e => by omega)), hge⟩
  have HTA := hide hTa
  have HOS := hide hoS
  by_cases hpn : n < p + 1
  · have hz0 : zs.getD p 0 = 0 := by simp only [List.getD]; rw [List.getElem?_eq_none (by omega)]; rfl
    rw [hz0]
    rw [hn] at c0 HTA ⊢
    have hgt : (n : Int) < (p : Int) + 1 := by omega
    clear h hn hbl hoS hTa hz hz0 hge
    go_enter Tryd.func34, Tryd.ntmps34
    go_wp2
    go_quiet (fail)
    go_wp2
    go_ret
    exact ⟨rfl, HTA.out.only (S := fun _ => False) ((Only.refl _ _).drewN _) (fun _ _ h => h), HOS.out.drewN _⟩
  · have hne0 : zs ≠ [] := fun e => by rw [e] at hn; simp at hn; omega
    have hx255 := hz.bytes.get p
    have hzz := hz
    obtain ⟨_, ao', cap', he, hq1, hq2, _, h4⟩ := hz
    simp only [Value.slice.injEq, true_and] at he
    obtain ⟨rfl, rfl⟩ := he
    obtain ⟨b, off, rfl, hc⟩ := h4 hne0
    have cc0 := hc p (by omega)
    have hblt := World.block_lt_of_cell? w0 _ cc0
    have cc := cell_belowW h.below cc0
    obtain ⟨x, hx⟩ : ∃ x, zs.getD p 0 = x := ⟨_, rfl⟩
    rw [hx] at cc hx255 ⊢
    rw [hn] at c0 HTA hq1 ⊢
    unfold maxLen at hq2
    have hle : ¬ (n : Int) < (p : Int) + 1 := by omega
    simp only at hblt
    have hbt : b ≠ t := by omega
    have hpn1 : (p : Int) < (n : Int) := by omega
    clear h hn hbl hoS hTa hne0 h4 hc hx hzz hge cc0 hblt
    go_enter Tryd.func34, Tryd.ntmps34
    go_wp2
    have hd : decide ((n : Int) < (p : Int) + 1) = false := decide_eq_false (by omega)
    go_quiet (fail)
    go_wp2
    obtain ⟨na, hna⟩ : ∃ x, x = nq := ⟨_, rfl⟩
    subst hna
    go_quiet (fail)
    go_wp2
    go_ret
    refine ⟨rfl, ?_, by repeat (first | exact HOS.out | refine Only.drewN ?_ _)⟩
    exact HTA.out.only (S := fun _ => False) (((Only.refl _ _).drewN na).drewN nq) (fun _ _ h => h)
theorem taTwo_any (w0 w : World) (t : Nat) (v : Value) (zs : List Int) (p : Nat) (hz : Sl w0 v zs) (h : Ta w0 w t v p) (hp : p ≤ 90000000) (hl : zs.length ≤ 100000) :
    Calls Tryd.prog 35 #[.pointer (some ⟨t, 0, none⟩)] w fun e w' => e = .returned (.int .i64 (256 * zs.getD p 0 + zs.getD (p + 1) 0)) ∧ Ta w0 w' t v (p + 2) ∧ Only (· = t) w w' := by
  have hx := hz.bytes.get p
  have hy := hz.bytes.get (p + 1)
  have H1 := hide (taOne_any w0 w t v zs p hz h (by omega) hl)
  have H2 : Hid (∀ W, Ta w0 W t v (p + 1) → Calls Tryd.prog 34 #[.pointer (some ⟨t, 0, none⟩)] W fun e w' => e = .returned (.int .i64 (zs.getD (p + 1) 0)) ∧ Ta w0 w' t v (p + 2) ∧ Only (· = t) W w') := fun W hw => taOne_any w0 W t v zs (p + 1) hz hw (by omega) hl
  obtain ⟨x, hxx⟩ : ∃ x, zs.getD p 0 = x := ⟨_, rfl⟩
  obtain ⟨y, hyy⟩ : ∃ y, zs.getD (p + 1) 0 = y := ⟨_, rfl⟩
  rw [hxx] at hx H1 ⊢
  rw [hyy] at hy H2 ⊢
  clear h hxx hyy hz
  go_enter Tryd.func35, Tryd.ntmps35
  go_wp2_with (first
    | (go_at_call 34; refine H1.out.mono ?_; rintro e w1 ⟨rfl, ht, ho⟩; have HT := hide ht; have HO := hide ho; clear H1 ht ho)
    | (go_at_call 34; refine (H2.out w1 HT.out).mono ?_; rintro e w2 ⟨rfl, ht, ho⟩; have HT2 := hide ht; have HO2 := hide (HO.out.trans ho (fun _ _ h => h)); clear H2 ht ho))
  go_ret
  exact ⟨rfl, HT2.out, HO2.out⟩

end Go.Proofs.YtimmfnjkknbofaaDoor
