/- Contracts: package pack puts a text with its length ahead, and takes one of its reader. -/
import Derived.Test.YtmeiahmolmneeaaDoorHMath
namespace Go.Proofs.YtmeiahmolmneeaaDoor
set_option maxRecDepth 20000
open Go.RowKit
set_option linter.unusedVariables false

theorem set_next (xs : List Int) (n : Nat) (x : Int) (hn : 0 < n) :
    ((xs ++ List.replicate n 0).map (Value.int .u8)).set xs.length (.int .u8 x) = (xs ++ [x] ++ List.replicate (n - 1) 0).map (Value.int .u8) := by
  obtain ⟨m, rfl⟩ : ∃ m, n = m + 1 := ⟨n - 1, by omega⟩
  rw [List.replicate_succ, List.map_append, List.set_append_right _ _ (by simp), List.length_map, Nat.sub_self]
  simp

theorem splice_tail (zs ts : List Int) (x : Int) :
    splice ((zs ++ [x] ++ List.replicate ts.length 0).map (Value.int .u8)) (zs.length + 1) (ts.map (Value.int .u8)) = (zs ++ (x :: ts)).map (Value.int .u8) := by
  have e : (zs ++ [x] ++ List.replicate ts.length (0 : Int)).map (Value.int .u8) = (zs ++ [x]).map (Value.int .u8) ++ (List.replicate ts.length (0 : Int)).map (Value.int .u8) := List.map_append
  have hl : ((zs ++ [x]).map (Value.int .u8)).length = zs.length + 1 := by simp
  unfold splice
  rw [e, List.take_append_of_le_length (by omega), List.take_of_length_le (by omega), List.drop_eq_nil_of_le (by simp; omega)]
  simp

theorem text_set {w : World} {base : Nat} {e : TypeId} {B n m : Nat} {zs : List Int} (h : w.ownsRow base e 1 (.slice (some ⟨B, 0, none⟩) n n) n ((zs ++ List.replicate (1 + m) 0).map (Value.int .u8))) :
    Hid ((w.setCell ⟨B, zs.length, none⟩ (.int .u8 (m : Int))).ownsRow base e 1 (.slice (some ⟨B, 0, none⟩) n n) n ((zs ++ [(m : Int)] ++ List.replicate m 0).map (Value.int .u8))) := by
  have := (h.stored zs.length (.int .u8 (m : Int))).1
  rw [set_next zs (1 + m) (m : Int) (by omega), Nat.add_sub_cancel_left] at this
  exact this

set_option maxHeartbeats 400000 in
theorem packText_ok (w : World) (vb vt : Value) (zs ts : List Int) (hb : Sl w vb zs) (ht : Sl w vt ts) (hz : zs.length ≤ 50000) (hl : ts.length ≤ 255) :
    Calls Tryd.prog 31 #[vb, vt] w fun e w' => ∃ u, e = .returned (.tuple #[u, .int .i64 0]) ∧
      w'.ownsRow w.heap.size 5 1 u (zs ++ txt ts).length ((zs ++ txt ts).map (Value.int .u8)) ∧ Below w.heap.size w w' ∧ w.heap.size < w'.heap.size := by
  have HT := hide ht
  have HC := copyWithRoom_any w vb zs (1 + ts.length) hb (by omega)
  obtain ⟨_, ao, cap, rfl, _⟩ := hb
  obtain ⟨_, ao', cap', rfl, _⟩ := ht
  rw [show (((1 + ts.length : Nat)) : Int) = 1 + (ts.length : Int) by omega] at HC
  obtain ⟨B, hB⟩ : ∃ B, B = w.heap.size := ⟨_, rfl⟩
  rw [← hB] at HC
  rw [← hB]
  have HB : Hid (B = w.heap.size) := hB
  have i1 : decide ((255 : Int) < (ts.length : Int)) = false := decide_eq_false (by omega)
  clear hB
  by_cases hts : ts = []
  · subst hts
    have HC0 : Calls Tryd.prog 49 #[.slice ao zs.length cap, .int .i64 1] w fun e w' =>
      e = .returned (.slice (some ⟨B, 0, none⟩) (zs.length + 1) (zs.length + 1)) ∧
      w'.ownsRow B 5 1 (.slice (some ⟨B, 0, none⟩) (zs.length + 1) (zs.length + 1)) (zs.length + 1) ((zs ++ List.replicate 1 0).map (Value.int .u8)) ∧ Below B w w' ∧ B < w'.heap.size := HC
    clear HC
    go_enter Tryd.func31, Tryd.ntmps31
    go_wp2_with (go_at_call 49; refine HC0.mono ?_; rintro e w1 ⟨rfl, ho1, hb1, hz1⟩; have f1 := ho1.frozenAt zs.length; obtain ⟨q, hq⟩ := own_some ho1 zs.length (by omega); have hst : Hid ((w1.setCell ⟨B, zs.length, none⟩ (.int .u8 0)).ownsRow B 5 1 (.slice (some ⟨B, 0, none⟩) (zs.length + 1) (zs.length + 1)) (zs.length + 1) ((zs ++ [0] ++ List.replicate 0 0).map (Value.int .u8))) := text_set (m := 0) ho1; clear ho1)
    have hB2 := hb1.setCell (p := ⟨B, zs.length, none⟩) (Nat.le_refl _) (.int .u8 0)
    have S2 : Sl (w1.setCell ⟨B, zs.length, none⟩ (.int .u8 0)) (.slice ao' 0 cap') [] := HT.out.below (HB.out ▸ hB2)
    obtain ⟨w2, hrun, G2, hg2⟩ := run_copy_sl (P := Tryd.prog) _ 24 24 3 5 Tryd.underlying24 sizeU8 (some ⟨B, 0, none⟩) 0 0 B (zs.length + 1) _ (own_heap hst.out) ao' 0 cap' [] S2 (fun h => by simp at h) (by simp) (by simp)
    have HG2 := hide G2
    have hB3 : Below B w w2 := hB2.grown hg2 (by simp; omega) (by intro k hk; cases hk; exact Nat.le_refl _)
    rw [hrun]
    clear G2 hrun hg2 S2
    simp only [Result.andThen]
    rw [Oper.upon_value]
    go_wp2
    go_ret2
    have hlt : B < w2.heap.size := (Array.getElem?_eq_some_iff.1 HG2.out).1
    refine ⟨_, rfl, ?_, hB3, hlt⟩
    have := HG2.out
    have es := splice_tail zs [] 0
    rw [List.length_nil] at es
    rw [es] at this
    have e : (zs ++ txt []).length = zs.length + 1 := by rw [List.length_append]; rfl
    rw [e]
    exact heap_own (n := zs.length + 1) this (Nat.le_refl _) (by rw [List.length_map, List.length_append]; rfl) (by unfold maxLen; omega)
  · have hpos : 0 < ts.length := List.length_pos_iff.2 hts
    go_enter Tryd.func31, Tryd.ntmps31
    go_wp2_with (go_at_call 49; refine HC.mono ?_; rintro e w1 ⟨rfl, ho1, hb1, hz1⟩; have f1 := ho1.frozenAt zs.length; obtain ⟨q, hq⟩ := own_some ho1 zs.length (by omega); have hst := text_set ho1; clear ho1)
    have hB2 := hb1.setCell (p := ⟨B, zs.length, none⟩) (Nat.le_refl _) (.int .u8 (ts.length : Int))
    have S2 : Sl (w1.setCell ⟨B, zs.length, none⟩ (.int .u8 (ts.length : Int))) (.slice ao' ts.length cap') ts := HT.out.below (HB.out ▸ hB2)
    obtain ⟨w2, hrun, G2, hg2⟩ := run_copy_sl (P := Tryd.prog) _ 24 24 3 5 Tryd.underlying24 sizeU8 (some ⟨B, zs.length + 1, none⟩) (zs.length + (1 + ts.length) - (zs.length + 1)) (zs.length + (1 + ts.length) - (zs.length + 1)) B (zs.length + 1) _ (own_heap hst.out) ao' ts.length cap' ts S2 (fun _ => rfl) (by omega) (by simp; omega)
    have HG2 := hide G2
    have hB3 : Below B w w2 := hB2.grown hg2 (by simp; omega) (by intro k hk; cases hk; exact Nat.le_refl _)
    rw [hrun]
    clear G2 hrun hg2 S2
    simp only [Result.andThen]
    rw [Oper.upon_value]
    go_wp2
    go_ret2
    have hlt : B < w2.heap.size := (Array.getElem?_eq_some_iff.1 HG2.out).1
    refine ⟨_, rfl, ?_, hB3, hlt⟩
    have := HG2.out
    rw [splice_tail] at this
    have e : (zs ++ txt ts).length = zs.length + (1 + ts.length) := by simp [txt]; omega
    rw [e]
    exact heap_own (n := zs.length + (1 + ts.length)) this (Nat.le_refl _) (by rw [List.length_map]; exact e) (by unfold maxLen; omega)

theorem textLength_any (w : World) (v : Value) (zs : List Int) (most : Int) (h : Sl w v zs) :
    Calls Tryd.prog 75 #[v, .int .i64 most] w fun e w' => e = .returned (.tuple #[.int .i64 (tlen zs most).1, .int .i64 (tlen zs most).2]) ∧ w' = w := by
  have hb0 := h.bytes.get 0
  obtain ⟨hb, ao, cap, rfl, h1, h2, h3, h4⟩ := h
  unfold maxLen at h2
  by_cases m0 : most < 0
  · have es : tlen zs most = (0, 1) := by simp [tlen, m0]
    rw [es]
    go_enter Tryd.func75, Tryd.ntmps75
    go_wp2
    go_ret2
    exact ⟨rfl, rfl⟩
  · have d0 : decide (most < 0) = false := decide_eq_false m0
    by_cases z0 : zs.length = 0
    · have es : tlen zs most = (0, 10) := by rw [tlen, if_neg m0, if_pos z0]
      rw [es]
      obtain rfl : zs = [] := List.eq_nil_of_length_eq_zero z0
      go_enter Tryd.func75, Tryd.ntmps75
      go_wp2
      go_ret2
      exact ⟨rfl, rfl⟩
    · have i0 : (0 : Int) < (zs.length : Int) := by omega
      have i1 : ((zs.length : Int) == 0) = false := by simp; exact fun h => z0 (by simp [h])
      obtain ⟨b, o, rfl, hc⟩ := h4 (by intro h; simp [h] at z0)
      have c1 := hc 0 (by omega)
      have ht : tlen zs most = if most < zs.getD 0 0 then (0, 3) else if (zs.length : Int) - 1 < zs.getD 0 0 then (0, 10) else (zs.getD 0 0, 0) := by rw [tlen, if_neg m0, if_neg z0]
      obtain ⟨x, hx⟩ : ∃ x, x = zs.getD 0 0 := ⟨_, rfl⟩
      rw [← hx] at c1 ht hb0
      rw [Nat.add_zero] at c1
      clear hx hc h4 h3
      by_cases x1 : most < x
      · rw [if_pos x1] at ht
        rw [ht]
        go_enter Tryd.func75, Tryd.ntmps75
        go_wp2
        go_ret2
        exact ⟨rfl, rfl⟩
      · have d1 : decide (most < x) = false := decide_eq_false x1
        by_cases x2 : (zs.length : Int) - 1 < x
        · rw [if_neg x1, if_pos x2] at ht
          rw [ht]
          go_enter Tryd.func75, Tryd.ntmps75
          go_wp2
          go_ret2
          exact ⟨rfl, rfl⟩
        · have d2 : decide ((zs.length : Int) - 1 < x) = false := decide_eq_false x2
          rw [if_neg x1, if_neg x2] at ht
          rw [ht]
          go_enter Tryd.func75, Tryd.ntmps75
          go_wp2
          go_ret2
          exact ⟨rfl, rfl⟩

theorem cut1a {w : World} {ao : Option Addr} {L : List Int} {M cap : Nat} (h : Sl w (.slice ao (1 + M) cap) L) (hl : L.length = 1 + M) (hc : cap = 1) : Sl w (.slice ao M 0) (L.drop 1) := by
  rw [← hl] at h
  have := sl_cut0 1 h (by omega) hc
  rwa [show L.length - 1 = M by omega] at this
theorem cut1b {w : World} {ao : Option Addr} {L : List Int} {M cap : Nat} (h : Sl w (.slice ao (1 + M) cap) L) (hl : L.length = 1 + M) : Sl w (.slice (Option.map (fun x => (⟨x.block, x.off + 1, none⟩ : Addr)) ao) M (cap - 1)) (L.drop 1) := by
  rw [← hl] at h
  have := sl_cut 1 h (by omega)
  have e : (fun x : Addr => x.add 1) = fun x => (⟨x.block, x.off + 1, none⟩ : Addr) := by funext x; simp [Addr.add]
  rwa [show L.length - 1 = M by omega, e] at this

set_option maxHeartbeats 400000 in
theorem readerText_any (w : World) (b : Nat) (u : Value) (zs : List Int) (er most : Int) (h : Rd w b u zs er) :
    Calls Tryd.prog 61 #[.pointer (some ⟨b, 0, none⟩), .int .i64 most] w fun e w' => ∃ v, e = .returned v ∧ w'.ownsRow w.heap.size 5 1 v (textS zs er most).1.length ((textS zs er most).1.map (Value.int .u8)) ∧ w.grownBy w' (some b) ∧ ∃ u', Rd w' b u' (textS zs er most).2.1 (textS zs er most).2.2 := by
  have HR := hide h
  have HE := err_any w b u zs er h
  have HT := textLength_any w u zs most h.2.1
  have hok := tlen_ok zs most h.2.1.bytes
  obtain ⟨c0, c1, c2, hfr⟩ := h.cells
  have f2 := hfr 2
  have hu : ∃ ao cap, u = .slice ao zs.length cap := by obtain ⟨_, ⟨_, ao, cap, rfl, _⟩, _⟩ := h; exact ⟨ao, cap, rfl⟩
  obtain ⟨ao, cap, rfl⟩ := hu
  clear hfr h
  by_cases e0 : er = 0
  · subst e0
    obtain ⟨⟨m, te⟩, hS⟩ : ∃ s, s = tlen zs most := ⟨_, rfl⟩
    have ht : textS zs 0 most = if te ≠ 0 then ([], zs, te) else ((zs.take (1 + m.toNat)).drop 1, zs.drop (1 + m.toNat), 0) := by rw [textS, if_neg (by simp), ← hS]
    rw [← hS] at HT hok
    simp only at HT hok
    clear hS
    by_cases t0 : te = 0
    · subst t0
      rw [if_neg (by simp)] at ht
      rw [ht]
      obtain ⟨hm0, hm255, _, hm1⟩ := hok rfl
      obtain ⟨M, rfl⟩ : ∃ M : Nat, m = M := ⟨m.toNat, by omega⟩
      rw [show ((M : Nat) : Int).toNat = M by omega]
      clear ht hok
      have HK := take_any w b _ zs 0 (1 + (M : Int)) HR.out
      have es : takeS zs 0 (1 + (M : Int)) = (zs.take (1 + M), zs.drop (1 + M), 0) := by
        rw [takeS, if_neg (by simp), if_neg (by omega), if_neg (by omega), show (1 + (M : Int)).toNat = 1 + M by omega]
      rw [es] at HK
      simp only at HK
      have hl : (zs.take (1 + M)).length = 1 + M := by simp; omega
      have HL := hide hl
      have HL2 : Hid (((zs.take (1 + M)).drop 1).length ≤ 100000) := by show _ ≤ _; rw [List.length_drop]; omega
      clear es hl
      go_enter Tryd.func61, Tryd.ntmps61
      go_wp2_with (first
        | (go_at_call 74; refine HE.mono ?_; rintro e w1 ⟨rfl, hw⟩; subst w1; clear HE)
        | (go_at_call 75; refine HT.mono ?_; rintro e w1 ⟨rfl, hw⟩; subst w1; clear HT)
        | (go_at_call 76; refine HK.mono ?_; rintro e w1 ⟨v, rfl, hs, hoff, hgr, u', hrd⟩; clear HK; have HS1 := hide hs; obtain ⟨_, ao1, cap1, rfl, hc1, hc2, _⟩ := hs; rw [HL.out]; rw [HL.out] at hc1 HS1; have hc3 : cap1 ≤ 2 ^ 63 - 1 := hc2; have K1 := hide (cut1a HS1.out HL.out); have K2 := hide (cut1b HS1.out HL.out); clear HS1))
      · refine (clone_any w1 _ _ (K1.out ‹_›) HL2.out).mono ?_
        rintro e w2 ⟨v2, rfl, hs2, hb2⟩
        go_wp2
        go_ret
        exact ⟨_, rfl, ownsRow_le' hs2 hgr.size, grown_below hgr hb2, u', hrd.keep hb2⟩
      · refine (clone_any w1 _ _ K2.out HL2.out).mono ?_
        rintro e w2 ⟨v2, rfl, hs2, hb2⟩
        go_wp2
        go_ret
        exact ⟨_, rfl, ownsRow_le' hs2 hgr.size, grown_below hgr hb2, u', hrd.keep hb2⟩
    · rw [if_pos t0] at ht
      rw [ht]
      have e1 : (te == 0) = false := by simpa using t0
      clear ht hok
      go_enter Tryd.func61, Tryd.ntmps61
      go_wp2_with (first
        | (go_at_call 74; refine HE.mono ?_; rintro e w1 ⟨rfl, hw⟩; subst w1; clear HE)
        | (go_at_call 75; refine HT.mono ?_; rintro e w1 ⟨rfl, hw⟩; subst w1; clear HT))
      go_ret
      exact ⟨_, rfl, own_nil _ _ _, grown_set (grownBy_refl w _) _ _, _, rd_err HR.out te⟩
  · have es : textS zs er most = ([], zs, er) := by simp [textS, e0]
    rw [es]
    have e1 : (er == 0) = false := by simpa using e0
    go_enter Tryd.func61, Tryd.ntmps61
    go_wp2_with (go_at_call 74; refine HE.mono ?_; rintro e w1 ⟨rfl, hw⟩; subst w1)
    go_ret
    exact ⟨_, rfl, own_nil _ _ _, grownBy_refl _ _, _, HR.out⟩

end Go.Proofs.YtmeiahmolmneeaaDoor
