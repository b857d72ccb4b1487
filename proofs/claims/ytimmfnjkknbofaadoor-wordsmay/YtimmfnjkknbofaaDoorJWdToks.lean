/- Contract: package words' Tokens. -/
import Derived.Test.YtimmfnjkknbofaaDoorJWdAll
import Derived.Lib.SlBytesConst
namespace Go.Proofs.YtimmfnjkknbofaaDoor
set_option maxRecDepth 20000
open Go.RowKit
set_option linter.unusedVariables false
set_option linter.unusedSimpArgs false
set_option maxRecDepth 100000

theorem tokC_ok (C : Cn) (l : List Nat) : ∀ x ∈ tokC C l, ByteOk x.1 := by
  unfold tokC
  split
  · exact tokL_ok _ _ _ _
  · intro x hx; cases hx
theorem tokC_len (C : Cn) (l : List Nat) : (tokC C l).length ≤ l.length := by
  unfold tokC
  split
  · exact tokL_len _ _ _ _
  · simp
theorem mayC_cap {C : Cn} (h : mayC C = true) : ∃ m : Nat, C.cap = (m : Int) ∧ m ≤ 100 ∧ C.cap.toNat = m ∧ 1 ≤ m ∧ m ≤ 12 := by
  unfold mayC at h
  simp only [Bool.and_eq_true, decide_eq_true_iff] at h
  exact ⟨C.cap.toNat, by omega, by omega, rfl, by omega, by omega⟩
/-- the iterator that All answers, as one -/
theorem allR_iter {C : Cn} (hok : CnOk C) (zs : List Int) (hb : ByteOk zs) (hl : zs.length ≤ 1000000) {u : Value} {W : World} (h : AllR C (strOfNums zs) u W) (hL : Let W) :
    ∃ gf lb V, u = .func (.func gf) #[] lb ∧ (∀ args w, (callFunc gf args).run Tryd.prog w = .ok (.enter gf args) w) ∧ Iter2 Tryd.prog gf lb encT (tokC C (rs zs)) V ∧ ∀ W', Below W.heap.size W W' → ∀ k W'', Only (fun _ => False) W' W'' → V k W'' := by
  rcases h with ⟨hm, rfl⟩ | ⟨hm, g6, g5, rfl, hA⟩
  · refine ⟨_, _, _, rfl, enters_all1, ?_, fun _ _ _ _ _ => trivial⟩
    rw [show tokC C (rs zs) = [] from if_neg (by rw [hm]; simp)]
    exact all1_iter
  · obtain ⟨m, h1, h2, h3, _⟩ := mayC_cap hm
    refine ⟨_, _, _, rfl, enters_all2, ?_, fun W' hb' k W'' ho => ((hA hL).below hb').below (ho.below (Nat.le_refl _) (fun _ _ h => h))⟩
    rw [show tokC C (rs zs) = tokL (useL C.fs) C.cap.toNat C.ss (rs zs) from if_pos hm, h3]
    exact all2_iter g6 g5 C hok m h1 h2 zs hb hl

set_option maxHeartbeats 1000000 in
theorem tokens_any (w : World) (v : Value) (C : Cn) (h : CnfV w v C) (hok : CnOk C) (vt : Value) (zs : List Int) (hz : Sl w vt zs) (hl : zs.length ≤ 1000000) (hL : Let w) :
    Calls Tryd.prog 25 #[v, vt] w fun e w' => ∃ u, e = .returned u ∧ TkO w' w.heap.size u (tokC C (rs zs)) ∧ Below w.heap.size w w' := by
  obtain ⟨fo, fc, so, sc, w1, rfl, hw1, hb1, hB, hT, hS⟩ := box_cnf w v C h
  have HAL := hide (all_any w1 _ C (h.below hb1) hok vt zs (hz.below hb1) (hL.below hb1))
  have HCT : Hid (∀ u w2, Below w1.heap.size w1 w2 → AllR C (strOfNums zs) u w2 → ∃ gf lb, u = .func (.func gf) #[] lb ∧ Calls Tryd.prog 52 #[.func (.func gf) #[] lb] w2 fun e w' => ∃ v, e = .returned v ∧ TkO w' w2.heap.size v (tokC C (rs zs)) ∧ Below w2.heap.size w2 w') := fun u w2 hb hu => by
    obtain ⟨gf, lb, V, e, eg, hit, hV⟩ := allR_iter hok zs hz.1 hl hu (hL.below (hb1.trans (hb.mono hb1.size)))
    exact ⟨gf, lb, e, collectT_any w2 gf lb _ V eg hit (hV w2 (Below.refl _ w2)) (by have := tokC_len C (rs zs); have := rs_len zs; omega)⟩
  obtain ⟨to, tn, tc, rfl⟩ := sl_form hz
  have HB1 := hide hb1
  have c0 : w1.cell? ⟨w.heap.size, 0, none⟩ = some (.slice fo C.fs.length fc) := hB.cell 0
  have c1 : w1.cell? ⟨w.heap.size, 1, none⟩ = some (.slice so C.ss.length sc) := hB.cell 1
  have c2 : w1.cell? ⟨w.heap.size, 2, none⟩ = some (.int .i64 C.cap) := hB.cell 2
  have HBASE : Hid (∀ w' b u xs, w.heap.size ≤ b → TkO w' b u xs → TkO w' w.heap.size u xs) := fun w' b u xs hb ⟨h1, h2⟩ => ⟨h1, h2.imp id (fun ⟨g, cap, cur, q1, q2, q3⟩ => ⟨g, cap, cur, q1, Nat.le_trans hb q2, q3⟩)⟩
  generalize tokC C (rs zs) = T at *
  generalize strOfNums zs = s at *
  obtain ⟨fn, hfn⟩ : ∃ n, C.fs.length = n := ⟨_, rfl⟩
  obtain ⟨sn, hsn⟩ : ∃ n, C.ss.length = n := ⟨_, rfl⟩
  obtain ⟨K, hK⟩ : ∃ n, C.cap = n := ⟨_, rfl⟩
  rw [hfn] at hw1 c0 HAL ⊢
  rw [hsn] at hw1 c1 HAL ⊢
  rw [hK] at hw1 c2 HAL ⊢
  clear h hT hS hB hb1 hok hL hz hfn hsn hK hl
  go_enter Tryd.func25, Tryd.ntmps25
  go_wp2_with (first
    | (go_at_call 47; refine HAL.out.mono ?_; rintro e w2 ⟨u, rfl, hu, hb⟩; obtain ⟨gf, lb, rfl, hc⟩ := HCT.out u w2 hb hu; have HC := hide hc; have HB2 := hide (HB1.out.trans (hb.mono HB1.out.size)); clear HAL HCT hb hu hc)
    | (go_at_call 52; refine HC.out.mono ?_; rintro e w3 ⟨u3, rfl, ht, hb⟩; have HT3 := hide ht; have HB3 := hide (HB2.out.trans (hb.mono HB2.out.size)); clear HC hb ht))
  go_ret
  exact ⟨_, rfl, HBASE.out _ _ _ _ HB2.out.size HT3.out, HB3.out⟩

end Go.Proofs.YtimmfnjkknbofaaDoor
/- Contract: the beginning of layer 14's laws (incipitlaw14.live). -/
namespace Go.Proofs.YtimmfnjkknbofaaDoor
set_option maxRecDepth 20000
open Go.RowKit
set_option linter.unusedVariables false
set_option linter.unusedSimpArgs false
set_option maxRecDepth 100000

theorem sl_markK (w : World) (e : TypeId) (fr : Nat × Nat) (zs : List Int) (hb : ByteOk zs) (hm : zs.length ≤ maxLen) :
    Sl (w.alloc (.cells (zs.map (Value.int .u8)).toArray e fr)) (.slice (some ⟨w.heap.size, 0, none⟩) zs.length zs.length) zs := by
  refine ⟨hb, _, _, rfl, Nat.le_refl _, hm, (fun h => by cases h), fun _ => ⟨_, 0, rfl, fun i hi => ?_⟩⟩
  rw [World.cell?_alloc_mark, Nat.zero_add, getD_lt zs hi]
  simp [hi]
def exC : Cn := ⟨[(65, 97, 26)], [[116, 104, 101]], 4⟩
def exT : List Int := [84, 104, 101, 32, 67, 97, 116, 115, 44, 32, 116, 104, 101, 32, 67, 65, 84, 83, 39, 32, 49, 50]
def exK : List Tk := [([99, 97, 116, 115], 1), ([99, 97, 116, 115], 3), ([49, 50], 4)]
theorem ex_tok : tokC exC (rs exT) = exK := by decide +kernel
theorem exC_ok : CnOk exC := ⟨by decide, by decide, by decide, by decide, by decide⟩
theorem exT_ok : ByteOk exT := by
  intro z hz
  simp [exT] at hz
  omega

theorem some_any (w : World) : Calls Tryd.prog 26 #[] w fun e w' => ∃ fo so, e = .returned (.agg #[.slice fo 1 1, .slice so 1 1, .int .i64 4]) ∧ CnfV w' (.agg #[.slice fo 1 1, .slice so 1 1, .int .i64 4]) exC ∧ Below w.heap.size w w' := by
  go_enter Tryd.func26, Tryd.ntmps26
  go_wp2
  obtain ⟨w1, hw1⟩ : ∃ w1, w.alloc (.cells #[.slice (some ⟨w.heap.size + 1, 0, none⟩) 1 1, .slice (some ⟨w.heap.size + 1 + 1, 0, none⟩) 1 1, .int .i64 4] 25) = w1 := ⟨_, rfl⟩
  obtain ⟨w2, hw2⟩ : ∃ w2, w1.alloc (.cells #[.int .i32 65, .int .i32 97, .int .i64 26] 54) = w2 := ⟨_, rfl⟩
  obtain ⟨w3, hw3⟩ : ∃ w3, w2.alloc (.cells #[.string ⟨#[116, 104, 101]⟩] 9) = w3 := ⟨_, rfl⟩
  have s1 : w1.heap.size = w.heap.size + 1 := by rw [← hw1]; simp
  have s2 : w2.heap.size = w.heap.size + 1 + 1 := by rw [← hw2]; simp [s1]
  have b1 : Blk w3 w.heap.size 25 [.slice (some ⟨w.heap.size + 1, 0, none⟩) 1 1, .slice (some ⟨w.heap.size + 1 + 1, 0, none⟩) 1 1, .int .i64 4] := by
    rw [← hw3, ← hw2, ← hw1]; exact ((Blk.new w _ _).alloc _).alloc _
  have b2 : Blk w3 (w.heap.size + 1) 54 [.int .i32 65, .int .i32 97, .int .i64 26] := by
    rw [← hw3, ← hw2, ← s1]; exact (Blk.new w1 _ _).alloc _
  have b3 : Blk w3 (w.heap.size + 1 + 1) 9 [.string ⟨#[116, 104, 101]⟩] := by
    rw [← hw3, ← s2]; exact Blk.new w2 _ _
  have hb : Below w.heap.size w w3 := by rw [← hw3, ← hw2, ← hw1]; exact (((Below.refl _ w).alloc (Nat.le_refl _) _).alloc (by simp) _).alloc (by simp; omega) _
  rw [hw1, hw2, hw3]
  refine bodyPost_ret (results_cell_row rfl _ _ w.heap.size 25 #[.slice (some ⟨w.heap.size + 1, 0, none⟩) 1 1, .slice (some ⟨w.heap.size + 1 + 1, 0, none⟩) 1 1, .int .i64 4] (0, 0) _ rfl b1 Tryd.underlying25 rfl sizeConf) rfl ?_
  refine ⟨_, _, rfl, ⟨_, _, _, _, rfl, ⟨?_, _, _, rfl, by decide, by decide, fun _ => ⟨_, 0, rfl, fun i hi => ?_⟩⟩, ⟨?_, _, _, rfl, by decide, by decide, fun _ => ⟨_, 0, rfl, fun i hi => ?_⟩⟩⟩, hb⟩
  · intro x hx
    obtain rfl : x = (65, 97, 26) := by simpa [exC] using hx
    exact ⟨⟨by decide, by decide⟩, ⟨by decide, by decide⟩, by decide, by decide⟩
  · obtain rfl : i = 0 := by simp [exC] at hi; omega
    exact ⟨b2.cell 0, b2.cell 1, b2.cell 2⟩
  · intro z hz
    obtain rfl : z = [116, 104, 101] := by simpa [exC] using hz
    intro y hy
    simp at hy
    omega
  · obtain rfl : i = 0 := by simp [exC] at hi; omega
    exact b3.cell 0

theorem cvK (w : World) (C : Array Value) (n c b : Nat) (hb : w.heap.size = b) : (convert 26 26 (.slice (some ⟨b, 0, none⟩) n c)).run Tryd.prog (w.alloc (.cells C 5)) = .ok (.slice (some ⟨b, 0, none⟩) n c) (w.alloc (.cells C 5 (C.size, C.size + 1))) := by
  subst hb
  exact Lib.run_convert_bytes_const (P := Tryd.prog) w 26 5 C n c Tryd.underlying26 Tryd.underlying5
abbrev exA : Array Value := #[.int .u8 84, .int .u8 104, .int .u8 101, .int .u8 32, .int .u8 67, .int .u8 97, .int .u8 116, .int .u8 115, .int .u8 44, .int .u8 32, .int .u8 116, .int .u8 104, .int .u8 101, .int .u8 32, .int .u8 67, .int .u8 65, .int .u8 84, .int .u8 83, .int .u8 39, .int .u8 32, .int .u8 49, .int .u8 50]
theorem ex_tks (w : World) : Tks (w.alloc (.cells #[.string ⟨#[99, 97, 116, 115]⟩, .int .i64 1, .string ⟨#[99, 97, 116, 115]⟩, .int .i64 3, .string ⟨#[49, 50]⟩, .int .i64 4] 48)) (.slice (some ⟨w.heap.size, 0, none⟩) 3 3) exK := by
  have hB := Blk.new w 48 [.string ⟨#[99, 97, 116, 115]⟩, .int .i64 1, .string ⟨#[99, 97, 116, 115]⟩, .int .i64 3, .string ⟨#[49, 50]⟩, .int .i64 4]
  refine ⟨_, _, rfl, by decide, by decide, by decide, fun _ => ⟨_, 0, rfl, fun i hi => ?_⟩⟩
  obtain rfl | rfl | rfl : i = 0 ∨ i = 1 ∨ i = 2 := by simp [exK] at hi; omega
  · exact ⟨hB.cell 0, hB.cell 1⟩
  · exact ⟨hB.cell 2, hB.cell 3⟩
  · exact ⟨hB.cell 4, hB.cell 5⟩

set_option maxHeartbeats 1000000 in
theorem liveW_any (w : World) (hL : Let w) : Calls Tryd.prog 6 #[] w fun e w' => e = .returned (.bool true) ∧ Below w.heap.size w w' := by
  have HSM := hide (some_any w)
  have HCV : Hid (∀ W : World, (convert 26 26 (.slice (some ⟨W.heap.size, 0, none⟩) 22 22)).run Tryd.prog (W.alloc (.cells exA 5)) = .ok (.slice (some ⟨W.heap.size, 0, none⟩) 22 22) (W.alloc (.cells exA 5 (22, 23)))) := fun W => cvK W exA 22 22 W.heap.size rfl
  have HTK : Hid (∀ W v, Below w.heap.size w W → CnfV W v exC → Calls Tryd.prog 25 #[v, .slice (some ⟨W.heap.size, 0, none⟩) 22 22] (W.alloc (.cells exA 5 (22, 23))) fun e w' => ∃ u, e = .returned u ∧ Tks w' u exK ∧ Below w.heap.size w w') := fun W v hb hv => by
    have h1 : Below W.heap.size W (W.alloc (.cells exA 5 (22, 23))) := (Below.refl _ W).alloc (Nat.le_refl _) _
    have h2 : Sl (W.alloc (.cells exA 5 (22, 23))) (.slice (some ⟨W.heap.size, 0, none⟩) 22 22) exT := sl_markK W 5 (22, 23) exT exT_ok (by decide)
    have h3 := hb.trans (h1.mono hb.size)
    refine (tokens_any _ v exC (hv.below h1) exC_ok _ exT h2 (by decide) (hL.below h3)).mono ?_
    rintro e w' ⟨u, rfl, ht, hb'⟩
    rw [ex_tok] at ht
    exact ⟨u, rfl, ht.read (by decide), h3.trans (hb'.mono h3.size)⟩
  have HEQ : Hid (∀ W v u, Tks W v exK → Tks W u exK → Calls Tryd.prog 24 #[v, u] W fun e w' => e = .returned (.bool true) ∧ Below W.heap.size W w') := fun W v u h1 h2 => by
    have hk : ∀ x ∈ exK, ByteOk x.1 := by rw [← ex_tok]; exact tokC_ok _ _
    have := equalT_any W v u exK exK h1 h2 hk hk
    rwa [decide_eq_true rfl] at this
  clear hL
  go_enter Tryd.func6, Tryd.ntmps6
  go_wp2_with (first
    | (go_at_call 26; refine HSM.out.mono ?_; rintro e w1 ⟨fo, so, rfl, hv, hb⟩; have cv := HCV.out w1; have HT := hide (HTK.out w1 _ hb hv); clear HSM HTK HCV hv hb)
    | (go_at_call 25; refine HT.out.mono ?_; rintro e w2 ⟨u, rfl, ht, hb⟩; obtain ⟨ua, uc, rfl⟩ := ht.len; have HX := ex_tks w2; obtain ⟨w3, hw3⟩ : ∃ w3, w2.alloc (.cells #[.string ⟨#[99, 97, 116, 115]⟩, .int .i64 1, .string ⟨#[99, 97, 116, 115]⟩, .int .i64 3, .string ⟨#[49, 50]⟩, .int .i64 4] 48) = w3 := ⟨_, rfl⟩; rw [hw3] at HX; have hb23 : Below w2.heap.size w2 w3 := (by rw [← hw3]; exact (Below.refl _ w2).alloc (Nat.le_refl _) _); have HE := hide (HEQ.out w3 _ _ (ht.below hb23) HX); have HB3 := hide (hb.trans (hb23.mono hb.size)); clear HT HEQ ht hb hb23 HX)
    | (go_at_call 24; refine HE.out.mono ?_; rintro e w4 ⟨rfl, hb⟩; have HB4 := hide (HB3.out.trans (hb.mono HB3.out.size)); clear HE hb))
  go_ret
  exact ⟨rfl, HB4.out⟩

end Go.Proofs.YtimmfnjkknbofaaDoor
