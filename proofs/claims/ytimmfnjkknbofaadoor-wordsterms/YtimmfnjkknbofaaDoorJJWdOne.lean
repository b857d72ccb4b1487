/- Contract: package words' One. -/
import Derived.Test.YtimmfnjkknbofaaDoorJJWdAi
namespace Go.Proofs.YtimmfnjkknbofaaDoor
set_option maxRecDepth 20000
open Go.RowKit Go.Shelf
set_option linter.unusedVariables false
set_option linter.unusedSimpArgs false
set_option maxRecDepth 100000
attribute [local go_sem] Oper.semAt_some

/-- the term of a text of one word, and why there is none -/
def oneL (us : List Fd) (m : Nat) : List (List Nat) → List Int × Int
  | [] => ([], 4)
  | [L] => (termZ us m L, 0)
  | _ => ([], 3)
def oneC (C : Cn) (l : List Nat) : List Int × Int := if mayC C = true then oneL (useL C.fs) C.cap.toNat (wds l) else ([], 140)
theorem results_cell2 {fn : Func} {p q : Tmp} {t u : TypeId} (h : fn.results = #[.cell p t, .cell q u]) (tmps : Array Value) (P : Program) (w : World) :
    (results fn tmps).run P w = ((asAddr (tmps.getD p undef)).run P w).andThen fun a w₁ => ((loadVar t a).run P w₁).andThen fun v w₂ => ((asAddr (tmps.getD q undef)).run P w₂).andThen fun b w₃ => ((loadVar u b).run P w₃).andThen fun y w₄ => .ok (.tuple #[v, y]) w₄ := by
  simp only [results, h]
  simp [Sem.run_bind, Result.andThen]
theorem ret_str2 {fn : Func} {p q : Tmp} (h : fn.results = #[.cell p 9, .cell q 29]) (tmps : Array Value) (w : World) (b c : Nat) (x y : Value) (hp : tmps.getD p undef = .pointer (some ⟨b, 0, none⟩)) (hq : tmps.getD q undef = .pointer (some ⟨c, 0, none⟩)) (hx : w.cell? ⟨b, 0, none⟩ = some x) (hy : w.cell? ⟨c, 0, none⟩ = some y) :
    (results fn tmps).run Tryd.prog w = .ok (.tuple #[x, y]) w := by
  rw [results_cell2 h, hp, hq]
  simp only [asAddr, Sem.run_pure, Result.andThen_ok]
  have h1 : (loadVar 9 ⟨b, 0, none⟩).run Tryd.prog w = .ok x w := by
    simp [go_sem, hx, Tryd.underlying9]
  have h2 : (loadVar 29 ⟨c, 0, none⟩).run Tryd.prog w = .ok y w := by
    simp [go_sem, hy, Tryd.underlying29]
  rw [h1]
  simp only [Result.andThen_ok]
  rw [h2]
  rfl

/-- between two rounds of One: what stands in its boxes -/
structure OnI (w w4 : World) (cs : List Value) (s X : ByteArray) (Er : Int) (Y : Nat → Prop) (W : World) : Prop where
  c : Blk W w.heap.size 25 cs
  r1 : Blk W (w.heap.size + 1) 9 [.string ⟨#[]⟩]
  r2 : Blk W (w.heap.size + 2) 29 [.int .i64 0]
  t : Blk W w4.heap.size 9 [.string X]
  e : Blk W (w4.heap.size + 1) 29 [.int .i64 Er]
  sb : Blk W (w4.heap.size + 2) 9 [.string s]
  below : Below w.heap.size w W
  size : w4.heap.size + 5 ≤ W.heap.size
  ys : ∀ j, Y j → w4.heap.size + 5 ≤ j ∧ j < W.heap.size
section
variable {w w4 : World} {cs : List Value} {s X : ByteArray} {Er : Int} {Y : Nat → Prop} {W W' : World}
theorem OnI.other {S : Nat → Prop} (h : OnI w w4 cs s X Er Y W) (h4 : w.heap.size + 3 ≤ w4.heap.size) (ho : Only S W W') (hS : ∀ j, S j → w4.heap.size + 3 ≤ j) : OnI w w4 cs s X Er Y W' := by
  have hn : ∀ j, j < w4.heap.size + 3 → ¬ S j := fun j hj hs => by have := hS j hs; omega
  exact ⟨h.c.only ho (hn _ (by omega)), h.r1.only ho (hn _ (by omega)), h.r2.only ho (hn _ (by omega)), h.t.only ho (hn _ (by omega)), h.e.only ho (hn _ (by omega)), h.sb.only ho (hn _ (by omega)), h.below.trans (ho.below h.below.size (fun j hj e => hn j (by omega) e)), Nat.le_trans h.size ho.size, fun j hj => ⟨(h.ys j hj).1, Nat.lt_of_lt_of_le (h.ys j hj).2 ho.size⟩⟩
theorem OnI.more (h : OnI w w4 cs s X Er Y W) (h4 : w.heap.size + 3 ≤ w4.heap.size) (ho : Only Y W W') : OnI w w4 cs s X Er (more Y W W') W' := by
  have hs := h.size
  obtain ⟨a1, a2, a3, a4, a5, a6, a7, a8, a9⟩ := h.other h4 ho (fun j hj => by have := (h.ys j hj).1; omega)
  refine ⟨a1, a2, a3, a4, a5, a6, a7, a8, fun j hj => ?_⟩
  rcases hj with hj | hj
  · exact ⟨(h.ys j hj).1, Nat.lt_of_lt_of_le (h.ys j hj).2 ho.size⟩
  · exact ⟨by omega, hj.2⟩
theorem OnI.put (h : OnI w w4 cs s X Er Y W) (h4 : w.heap.size + 3 ≤ w4.heap.size) (X' : ByteArray) (Er' : Int) : OnI w w4 cs s X' Er' Y ((W.setCell ⟨w4.heap.size, 0, none⟩ (.string X')).setCell ⟨w4.heap.size + 1, 0, none⟩ (.int .i64 Er')) ∧ Only (fun j => j = w4.heap.size ∨ j = w4.heap.size + 1) W ((W.setCell ⟨w4.heap.size, 0, none⟩ (.string X')).setCell ⟨w4.heap.size + 1, 0, none⟩ (.int .i64 Er')) := by
  have o1 : Only (· = w4.heap.size) W (W.setCell ⟨w4.heap.size, 0, none⟩ (.string X')) := (Only.refl (· = w4.heap.size) W).setCell _ _ (fun _ => rfl)
  have o2 : Only (· = w4.heap.size + 1) (W.setCell ⟨w4.heap.size, 0, none⟩ (.string X')) ((W.setCell ⟨w4.heap.size, 0, none⟩ (.string X')).setCell ⟨w4.heap.size + 1, 0, none⟩ (.int .i64 Er')) := (Only.refl (· = w4.heap.size + 1) _).setCell _ _ (fun _ => rfl)
  have o3 : Only (fun j => j = w4.heap.size ∨ j = w4.heap.size + 1) W ((W.setCell ⟨w4.heap.size, 0, none⟩ (.string X')).setCell ⟨w4.heap.size + 1, 0, none⟩ (.int .i64 Er')) := (o1.mono (fun _ _ e => .inl e)).trans (o2.mono (fun _ _ e => .inr e)) (fun _ _ h => h)
  have b1 : Blk (W.setCell ⟨w4.heap.size, 0, none⟩ (.string X')) w4.heap.size 9 [.string X'] := h.t.set 0 _
  have b2 : Blk (W.setCell ⟨w4.heap.size, 0, none⟩ (.string X')) (w4.heap.size + 1) 29 [.int .i64 Er] := h.e.only o1 (by omega)
  have hz := h.size
  exact ⟨⟨h.c.only o3 (by omega), h.r1.only o3 (by omega), h.r2.only o3 (by omega), b1.only o2 (by omega), b2.set 0 _, h.sb.only o3 (by omega), h.below.trans (o3.below h.below.size (fun j hj e => by omega)), Nat.le_trans h.size o3.size, fun j hj => ⟨(h.ys j hj).1, Nat.lt_of_lt_of_le (h.ys j hj).2 o3.size⟩⟩, o3⟩
theorem res_put (h1 : Blk W (w.heap.size + 1) 9 [.string X]) (h2 : Blk W (w.heap.size + 2) 29 [.int .i64 Er]) (X' : ByteArray) (Er' : Int) :
    Blk ((W.setCell ⟨w.heap.size + 1, 0, none⟩ (.string X')).setCell ⟨w.heap.size + 2, 0, none⟩ (.int .i64 Er')) (w.heap.size + 1) 9 [.string X'] ∧ Blk ((W.setCell ⟨w.heap.size + 1, 0, none⟩ (.string X')).setCell ⟨w.heap.size + 2, 0, none⟩ (.int .i64 Er')) (w.heap.size + 2) 29 [.int .i64 Er'] ∧
      Only (fun j => j = w.heap.size + 1 ∨ j = w.heap.size + 2) W ((W.setCell ⟨w.heap.size + 1, 0, none⟩ (.string X')).setCell ⟨w.heap.size + 2, 0, none⟩ (.int .i64 Er')) := by
  have o1 : Only (· = w.heap.size + 1) W (W.setCell ⟨w.heap.size + 1, 0, none⟩ (.string X')) := (Only.refl (· = w.heap.size + 1) W).setCell _ _ (fun _ => rfl)
  have o2 : Only (· = w.heap.size + 2) (W.setCell ⟨w.heap.size + 1, 0, none⟩ (.string X')) ((W.setCell ⟨w.heap.size + 1, 0, none⟩ (.string X')).setCell ⟨w.heap.size + 2, 0, none⟩ (.int .i64 Er')) := (Only.refl (· = w.heap.size + 2) _).setCell _ _ (fun _ => rfl)
  have b1 : Blk (W.setCell ⟨w.heap.size + 1, 0, none⟩ (.string X')) (w.heap.size + 1) 9 [.string X'] := h1.set 0 _
  exact ⟨b1.only o2 (by omega), (h2.only o1 (by omega)).set 0 _, (o1.mono (fun _ _ e => .inl e)).trans (o2.mono (fun _ _ e => .inr e)) (fun _ _ h => h)⟩
end
/-- behind two words: the results -/
structure OnX (w w4 : World) (Y : Nat → Prop) (W : World) : Prop where
  r1 : Blk W (w.heap.size + 1) 9 [.string ⟨#[]⟩]
  r2 : Blk W (w.heap.size + 2) 29 [.int .i64 3]
  below : Below w.heap.size w W
  size : w4.heap.size + 5 ≤ W.heap.size
  ys : ∀ j, Y j → w4.heap.size + 5 ≤ j ∧ j < W.heap.size
theorem OnX.other {w w4 : World} {Y S : Nat → Prop} {W W' : World} (h : OnX w w4 Y W) (h4 : w.heap.size + 3 ≤ w4.heap.size) (ho : Only S W W') (hS : ∀ j, S j → w4.heap.size + 3 ≤ j) : OnX w w4 Y W' := by
  have hn : ∀ j, j < w4.heap.size + 3 → ¬ S j := fun j hj hs => by have := hS j hs; omega
  exact ⟨h.r1.only ho (hn _ (by omega)), h.r2.only ho (hn _ (by omega)), h.below.trans (ho.below h.below.size (fun j hj e => hn j (by omega) e)), Nat.le_trans h.size ho.size, fun j hj => ⟨(h.ys j hj).1, Nat.lt_of_lt_of_le (h.ys j hj).2 ho.size⟩⟩
theorem OnX.more {w w4 : World} {Y : Nat → Prop} {W W' : World} (h : OnX w w4 Y W) (h4 : w.heap.size + 3 ≤ w4.heap.size) (ho : Only Y W W') : OnX w w4 (more Y W W') W' := by
  have hs := h.size
  obtain ⟨a2, a3, a7, a8, a9⟩ := h.other h4 ho (fun j hj => by have := (h.ys j hj).1; omega)
  refine ⟨a2, a3, a7, a8, fun j hj => ?_⟩
  rcases hj with hj | hj
  · exact ⟨(h.ys j hj).1, Nat.lt_of_lt_of_le (h.ys j hj).2 ho.size⟩
  · exact ⟨by omega, hj.2⟩

set_option maxHeartbeats 4000000 in
theorem one_any (w : World) (v : Value) (C : Cn) (h : CnfV w v C) (hok : CnOk C) (vt : Value) (zs : List Int) (hz : Sl w vt zs) (hl : zs.length ≤ 1000000) (hL : Let w) :
    Calls Tryd.prog 17 #[v, vt] w fun e w' => e = .returned (.tuple #[.string (strOfNums (oneC C (rs zs)).1), .int .i64 (oneC C (rs zs)).2]) ∧ Below w.heap.size w w' := by
  obtain ⟨fo, fc, so, sc, w1, rfl, hw1, hb1, hB, hT, hS⟩ := box_cnf w v C h
  obtain ⟨w2, hw2⟩ : ∃ w2, w1.alloc (.cells #[.string ⟨#[]⟩] 9) = w2 := ⟨_, rfl⟩
  obtain ⟨w3, hw3⟩ : ∃ w3, w2.alloc (.cells #[.int .i64 0] 29) = w3 := ⟨_, rfl⟩
  have s1 : w1.heap.size = w.heap.size + 1 := by rw [← hw1]; simp
  have s2 : w2.heap.size = w.heap.size + 2 := by rw [← hw2]; simp [s1]
  have s3 : w3.heap.size = w.heap.size + 3 := by rw [← hw3]; simp [s2]
  have hb3 : Below w.heap.size w w3 := by rw [← hw3, ← hw2]; exact (hb1.alloc (by omega) _).alloc (by rw [World.size_alloc]; omega) _
  have bc : Blk w3 w.heap.size 25 [.slice fo C.fs.length fc, .slice so C.ss.length sc, .int .i64 C.cap] := by rw [← hw3, ← hw2]; exact (hB.alloc _).alloc _
  have br1 : Blk w3 (w.heap.size + 1) 9 [.string ⟨#[]⟩] := by rw [← hw3, ← hw2, ← s1]; exact (Blk.new w1 _ _).alloc _
  have br2 : Blk w3 (w.heap.size + 2) 29 [.int .i64 0] := by rw [← hw3, ← s2]; exact Blk.new w2 _ _
  have HCK := hide (checkC_any w3 _ C (h.below hb3) hok (hL.below hb3))
  have HCV : Hid (∀ W, Below w.heap.size w W → (convert 26 9 vt).run Tryd.prog W = .ok (.string (strOfNums zs)) W) := fun W hb =>
    run_convert_sl (P := Tryd.prog) W 26 5 9 Tryd.underlying26 Tryd.underlying5 Tryd.underlying9 vt zs (hz.below hb)
  have HWI : Hid (∀ Bs, Iter2 Tryd.prog 66 #[.pointer (some ⟨Bs, 0, none⟩)] encW (wdsN (rs zs)) (fun _ W => W.cell? ⟨Bs, 0, none⟩ = some (.string (strOfNums zs)) ∧ Let W)) := fun Bs => words_iter Bs zs hz.1 hl
  have HTM : Hid (mayC C = true → ∀ W, Below w.heap.size w W → ∀ L, L ∈ wds (rs zs) → Calls Tryd.prog 44 #[.agg #[.slice fo C.fs.length fc, .slice so C.ss.length sc, .int .i64 C.cap], .string (strOfNums (fmL L))] W fun e w' => e = .returned (.string (strOfNums (termZ (useL C.fs) C.cap.toNat L))) ∧ Below W.heap.size W w') := fun hm W hb L hLw => by
    have hm2 : 1 ≤ C.cap ∧ C.cap ≤ 12 := by
      unfold mayC at hm
      simp only [Bool.and_eq_true, decide_eq_true_iff] at hm
      exact ⟨hm.1.1.2, hm.1.2⟩
    exact termOf_any W _ C (h.below hb) C.cap.toNat (by omega) (by omega) L (wds_in _ L hLw).2 (hL.below hb)
  have HLW : Hid (∀ W, Below w.heap.size w W → Let W) := fun W hb => hL.below hb
  have HWM : Hid (∀ (k : Nat) x, (wdsN (rs zs))[k]? = some x → x.1 ∈ wds (rs zs) ∧ x.2 = k ∧ (wds (rs zs))[k]? = some x.1) := fun k x hx => by
    obtain ⟨hk, rfl⟩ := List.getElem?_eq_some_iff.1 hx
    rw [wdsN_at _ k hk]
    have hk2 : k < (wds (rs zs)).length := by rw [wdsN_len] at hk; exact hk
    exact ⟨List.getElem_mem _, rfl, List.getElem?_eq_getElem hk2⟩
  have HLN : Hid ((wdsN (rs zs)).length = (wds (rs zs)).length) := wdsN_len _
  have HONE : Hid (oneC C (rs zs) = if mayC C = true then oneL (useL C.fs) C.cap.toNat (wds (rs zs)) else ([], 140)) := rfl
  have HE : Hid (mayE C = if mayC C = true then 0 else 140) := rfl
  obtain ⟨to, tn, tc, rfl⟩ := sl_form hz
  have HB3 := hide hb3
  have HBC := hide bc
  have HR1 := hide br1
  have HR2 := hide br2
  have HW3 : Hid (((w.alloc (.cells #[.slice fo C.fs.length fc, .slice so C.ss.length sc, .int .i64 C.cap] 25)).alloc (.cells #[.string ⟨#[]⟩] 9)).alloc (.cells #[.int .i64 0] 29) = w3) := by rw [hw1, hw2]; exact hw3
  have HS3 := hide s3
  obtain ⟨s, hs⟩ : ∃ s, strOfNums zs = s := ⟨_, rfl⟩
  rw [hs] at HCV HWI
  obtain ⟨R, hR⟩ : ∃ R, wdsN (rs zs) = R := ⟨_, rfl⟩
  rw [hR] at HWI HLN HWM
  obtain ⟨O, hO⟩ : ∃ O, oneC C (rs zs) = O := ⟨_, rfl⟩
  rw [hO] at HONE ⊢
  obtain ⟨us, hus⟩ : ∃ us, useL C.fs = us := ⟨_, rfl⟩
  rw [hus] at HTM HONE
  obtain ⟨m, hm⟩ : ∃ m, C.cap.toNat = m := ⟨_, rfl⟩
  rw [hm] at HTM HONE
  generalize wds (rs zs) = Ws at *
  generalize C.fs.length = fn at *
  generalize C.ss.length = sn at *
  generalize C.cap = K at *
  clear h hB hT hS hb1 hok hL hz hl hw1 hw2 hw3 s1 s2 s3 hb3 bc br1 br2 hs hR hO hus hm
  refine (callsIn_wide (n := 3)).1 ?_
  refine callsIn_of_wp_marks Tryd.func17 rfl trivial ?_ rfl
  simp only [Tryd.ntmps17, List.size_toArray, List.length_cons, List.length_nil, Nat.reduceAdd, Nat.reduceSub, Array.replicate_succ, Array.replicate_zero, List.push_toArray, List.append_toArray, List.nil_append, List.cons_append]
  cases hM : mayC C with
  | false =>
    rw [HE.out, hM, if_neg (by simp)] at HCK
    have HO2 : Hid (O = ([], 140)) := by show _ = _; rw [HONE.out, hM]; simp
    clear hM HE HONE HTM HWI HCV
    gi_wp2_with (refine ⟨trivial, ?_⟩; gi_at_call 12; rw [HW3.out]; refine (callsIn_wide.2 HCK.out).mono ?_; rintro e w4 ⟨rfl, hb⟩; have HB4 := hide (HB3.out.trans (hb.mono HB3.out.size)); have hr1 := HR1.out.below hb HR1.out.lt; have hr2 := HR2.out.below hb HR2.out.lt; have c1 : w4.cell? ⟨w.heap.size + 1, 0, none⟩ = some (.string ⟨#[]⟩) := hr1.cell 0; have c2 : w4.cell? ⟨w.heap.size + 2, 0, none⟩ = some (.int .i64 0) := hr2.cell 0; have f1 := hr1.frozen 0; have f2 := hr2.frozen 0; have HQ1 := hide hr1; have HQ2 := hide hr2; clear HCK hb hr1 hr2)
    obtain ⟨p1, p2, p3⟩ := res_put HQ1.out HQ2.out ⟨#[]⟩ 140
    rw [HO2.out]
    exact ⟨_, ret_str2 rfl _ _ _ _ _ _ rfl rfl (p1.cell 0) (p2.cell 0), rfl, HB4.out.trans (p3.below HB4.out.size (fun j hj e => by omega))⟩
  | true =>
    rw [HE.out, hM, if_pos rfl] at HCK
    rw [hM, if_pos rfl] at HONE
    have HTM2 := hide (HTM.out hM)
    clear hM HE HTM
    gi_wp2_with (first
      | (refine ⟨trivial, ?_⟩; gi_at_call 12; rw [HW3.out]; refine (callsIn_wide.2 HCK.out).mono ?_; rintro e w4 ⟨rfl, hb⟩; have HB4 := hide (HB3.out.trans (hb.mono HB3.out.size)); have h34 := hb.size; have hb5 : Below w.heap.size w ((w4.alloc (.cells #[.string ⟨#[]⟩] 9)).alloc (.cells #[.int .i64 4] 29)) := (HB4.out.alloc HB4.out.size _).alloc (by rw [World.size_alloc]; have := HB4.out.size; omega) _; have hcv := HCV.out _ hb5; have HWO := hide (wordsOf_any ((w4.alloc (.cells #[.string ⟨#[]⟩] 9)).alloc (.cells #[.int .i64 4] 29)) s); have HQ1 := hide (HR1.out.below hb HR1.out.lt); have HQ2 := hide (HR2.out.below hb HR2.out.lt); have HQC := hide (HBC.out.below hb HBC.out.lt); have H34 := hide h34; clear HCK hb HCV h34 hb5)
      | (refine ⟨trivial, ?_⟩; gi_at_call 43; refine (callsIn_wide.2 HWO.out).mono ?_; rintro e w9 ⟨rfl, hw⟩; subst w9; clear HWO))
    clear hcv
    have h4 : w.heap.size + 3 ≤ w4.heap.size := by have := H34.out; have := HS3.out; omega
    obtain ⟨w5, hw5⟩ : ∃ w5, w4.alloc (.cells #[.string ⟨#[]⟩] 9) = w5 := ⟨_, rfl⟩
    obtain ⟨w6, hw6⟩ : ∃ w6, w5.alloc (.cells #[.int .i64 4] 29) = w6 := ⟨_, rfl⟩
    obtain ⟨w7, hw7⟩ : ∃ w7, w6.alloc (.cells #[.string s] 9) = w7 := ⟨_, rfl⟩
    have z5 : w5.heap.size = w4.heap.size + 1 := by rw [← hw5]; simp
    have z6 : w6.heap.size = w4.heap.size + 2 := by rw [← hw6]; simp [z5]
    have z7 : w7.heap.size = w4.heap.size + 3 := by rw [← hw7]; simp [z6]
    have b7 : Below w4.heap.size w4 w7 := by rw [← hw7, ← hw6, ← hw5]; exact (((Below.refl _ w4).alloc (Nat.le_refl _) _).alloc (by rw [World.size_alloc]; omega) _).alloc (by rw [World.size_alloc, World.size_alloc]; omega) _
    have q1 : Blk w7 w4.heap.size 9 [.string ⟨#[]⟩] := by rw [← hw7, ← hw6, ← hw5]; exact ((Blk.new w4 _ _).alloc _).alloc _
    have q2 : Blk w7 (w4.heap.size + 1) 29 [.int .i64 4] := by rw [← hw7, ← hw6, ← z5]; exact (Blk.new w5 _ _).alloc _
    have q3 : Blk w7 (w4.heap.size + 2) 9 [.string s] := by rw [← hw7, ← z6]; exact Blk.new w6 _ _
    have HST : Hid (∀ W1, Only (fun _ => False) w7 W1 → W1.heap.size = w7.heap.size + 2 → OnI w w4 [.slice fo fn fc, .slice so sn sc, .int .i64 K] s ⟨#[]⟩ 4 (fun _ => False) W1) := fun W1 ho hs1 =>
      ⟨(HQC.out.below b7 HQC.out.lt).only ho (fun h => h), (HQ1.out.below b7 HQ1.out.lt).only ho (fun h => h), (HQ2.out.below b7 HQ2.out.lt).only ho (fun h => h), q1.only ho (fun h => h), q2.only ho (fun h => h), q3.only ho (fun h => h), (HB4.out.trans (b7.mono HB4.out.size)).trans ((ho.below (Nat.le_refl _) (fun _ _ h => h)).mono (by omega)), by omega, fun _ h => h.elim⟩
    rw [hw5, hw6, hw7]
    try rw [z6]
    clear hw5 hw6 hw7 z5 z6 b7 q1 q2 q3 HQ1 HQ2 HQC
    have HZ7 := hide z7
    have HH4 := hide h4
    refine wp_range6 (gf := 66) (lb := #[.pointer (some ⟨w4.heap.size + 2, 0, none⟩)]) (xs := R) (encs := encW) (V := fun _ W => W.cell? ⟨w4.heap.size + 2, 0, none⟩ = some (.string s) ∧ Let W) rfl enters_words (HWI.out _) (fun _ => rfl)
      (fun Y k W => ∃ X Er, OnI w w4 [.slice fo fn fc, .slice so sn sc, .int .i64 K] s X Er Y W ∧ (k = 0 → X = ⟨#[]⟩ ∧ Er = 4) ∧ (k = 1 → ∃ L, Ws[0]? = some L ∧ X = strOfNums (termZ us m L) ∧ Er = 0) ∧ k ≤ 1)
      (fun Y cc k W => cc = .ret ∧ OnX w w4 Y W ∧ 1 < Ws.length) ?_ ?_ ?_ ?_ ?_ ?_
      (fun x => { tmps := #[.agg #[.slice fo fn fc, .slice so sn sc, .int .i64 K], .slice to tn tc, .pointer (some ⟨w.heap.size, 0, none⟩), undef, .pointer (some ⟨w.heap.size + 1, 0, none⟩), .pointer (some ⟨w.heap.size + 1 + 1, 0, none⟩), .int .i64 0, .pointer (some ⟨w4.heap.size, 0, none⟩), .pointer (some ⟨w4.heap.size + 1, 0, none⟩), .int .i64 (x.2 : Int), .string (strOfNums (fmL x.1)), .agg #[.slice fo fn fc, .slice so sn sc, .int .i64 K], .int .i64 0, .int .i64 0, .bool false, undef, .slice to tn tc, .string s, .func (.func 66) #[] #[.pointer (some ⟨w4.heap.size + 2, 0, none⟩)], .int .i64 (x.2 : Int), .string (strOfNums (fmL x.1)), undef, undef, undef, undef, undef, undef, undef], defers := [] }) ?assign ?body ?done ?stop
    · rintro Y k W W' ⟨X, Er, h, h'⟩ ho
      exact ⟨X, Er, h.other h4 ho (fun j hj => by omega), h'⟩
    · rintro Y k W W' ⟨X, Er, h, h'⟩ ho
      exact ⟨X, Er, h.more h4 ho, h'⟩
    · rintro Y cc k W W' ⟨rfl, h, h'⟩ ho
      exact ⟨rfl, h.other h4 ho (fun j hj => by omega), h'⟩
    · rintro Y cc k W W' ⟨rfl, h, h'⟩ ho
      exact ⟨rfl, h.more h4 ho, h'⟩
    · rintro Y k W ⟨X, Er, h, _⟩
      exact ⟨h.sb.cell 0, HLW.out W h.below⟩
    · intro W1 ho hs1
      exact ⟨_, _, HST.out W1 ho hs1, fun _ => ⟨rfl, rfl⟩, (fun h => by cases h), Nat.zero_le _⟩
    case assign =>
      intro l k hk W K hK
      gi_wp2
      first | exact hK | simpa using hK
    case body =>
      rintro l Y k hk W ⟨X, Er, h, h0, h1, hk1⟩
      obtain ⟨x, hx⟩ : ∃ x, R[k] = x := ⟨_, rfl⟩
      obtain ⟨m1, m2, m3⟩ := HWM.out k x (by rw [← hx]; exact List.getElem?_eq_getElem hk)
      rw [hx]
      obtain ⟨L, p⟩ := x
      obtain rfl : p = k := m2
      simp only at m1 m3
      have HHI := hide h
      have d0 : W.cell? ⟨w.heap.size, 0, none⟩ = some (.slice fo fn fc) := h.c.cell 0
      have d1 : W.cell? ⟨w.heap.size, 1, none⟩ = some (.slice so sn sc) := h.c.cell 1
      have d2 : W.cell? ⟨w.heap.size, 2, none⟩ = some (.int .i64 K) := h.c.cell 2
      by_cases hp : p = 0
      · subst hp
        have HT := hide (HTM2.out W h.below L m1)
        have HM3 : Hid (Ws[0]? = some L) := m3
        obtain ⟨T, hT⟩ : ∃ T, strOfNums (termZ us m L) = T := ⟨_, rfl⟩
        rw [hT] at HT
        have HTE := hide hT
        generalize strOfNums (fmL L) = S1 at *
        clear h h0 h1 hk1 m1 m3 hT hx HST
        gi_wp2_with (refine ⟨trivial, ?_⟩; gi_at_call 44; refine (calls_wideR HT.out _ _).mono ?_; rintro e w8 ⟨rfl, hb8⟩; have ho8 : Only (fun _ => False) W w8 := Only.of_below _ hb8; have hi8 := HHI.out.other HH4.out ho8 (fun _ h => h.elim); have k1 : w8.cell? ⟨w4.heap.size, 0, none⟩ = some (.string X) := hi8.t.cell 0; have k2 : w8.cell? ⟨w4.heap.size + 1, 0, none⟩ = some (.int .i64 Er) := hi8.e.cell 0; have g1 := hi8.t.frozen 0; have g2 := hi8.e.frozen 0; have HI8 := hide hi8; have HO8 := hide ho8; clear HT hb8 hi8 ho8)
        obtain ⟨e1, e2⟩ := HI8.out.put HH4.out T 0
        have hY : ∀ j, Y j → j < W.heap.size ∧ w4.heap.size + 5 ≤ j := fun j hj => ⟨(HHI.out.ys j hj).2, (HHI.out.ys j hj).1⟩
        refine ⟨?_, ?_, T, 0, e1, (fun h => by omega), fun _ => ⟨L, HM3.out, HTE.out.symm, rfl⟩, by omega⟩
        · rw [HZ7.out]
          exact (Keeps2.of_only HO8.out (fun h => h) (fun h => h)).trans (Keeps2.of_only e2 (by omega) (by omega))
        · exact fun j hj => (e2.block j (Nat.lt_of_lt_of_le (hY j hj).1 HO8.out.size) (by have := (hY j hj).2; omega)).trans (HO8.out.block j (hY j hj).1 (fun h => h))
      · have hp1 : p = 1 := by omega
        subst hp1
        have hpi : (0 : Int) < ((1 : Nat) : Int) := by omega
        have k1 : W.cell? ⟨w.heap.size + 1, 0, none⟩ = some (.string ⟨#[]⟩) := h.r1.cell 0
        have k2 : W.cell? ⟨w.heap.size + 1 + 1, 0, none⟩ = some (.int .i64 0) := h.r2.cell 0
        have g1 := h.r1.frozen 0
        have g2 : W.frozen? ⟨w.heap.size + 1 + 1, 0, none⟩ = false := h.r2.frozen 0
        have HLL : Hid (1 < Ws.length) := (List.getElem?_eq_some_iff.1 m3).1
        generalize strOfNums (fmL L) = S1 at *
        clear h h0 h1 hk1 m1 m3 hx HST d0 d1 d2 hp
        gi_wp2
        obtain ⟨e1, e2, e3⟩ := res_put HHI.out.r1 HHI.out.r2 ⟨#[]⟩ 3
        have hY : ∀ j, Y j → j < W.heap.size ∧ w4.heap.size + 5 ≤ j := fun j hj => ⟨(HHI.out.ys j hj).2, (HHI.out.ys j hj).1⟩
        refine ⟨?_, ?_, rfl, ⟨e1, e2, HHI.out.below.trans (e3.below HHI.out.below.size (fun j hj e => by omega)), Nat.le_trans HHI.out.size e3.size, fun j hj => ⟨(hY j hj).2, Nat.lt_of_lt_of_le (hY j hj).1 e3.size⟩⟩, HLL.out⟩
        · rw [HZ7.out]
          have := HH4.out
          exact Keeps2.of_only e3 (by omega) (by omega)
        · exact fun j hj => e3.block j (hY j hj).1 (by have := (hY j hj).2; have := HH4.out; omega)
    case done =>
      rintro Y W ⟨X, Er, h, h0, h1, hk1⟩ hD
      have HD := hide hD
      have HX := hide h
      have HO2 : Hid (X = strOfNums O.1 ∧ Er = O.2) := by
        show _ ∧ _
        rw [HLN.out] at hk1 h0 h1
        rw [HONE.out]
        match Ws, hk1, h0, h1 with
        | [], _, h0, _ => exact ⟨(h0 rfl).1.trans (by simp [oneL, strOfNums]), (h0 rfl).2⟩
        | [a], _, _, h1 =>
          obtain ⟨L, e1, e2, e3⟩ := h1 rfl
          obtain rfl : a = L := by simpa using e1
          exact ⟨e2, e3⟩
        | a :: b :: c, hk1, _, _ => simp at hk1
      have k1 : W.cell? ⟨w4.heap.size, 0, none⟩ = some (.string X) := h.t.cell 0
      have k2 : W.cell? ⟨w4.heap.size + 1, 0, none⟩ = some (.int .i64 Er) := h.e.cell 0
      have k3 : W.cell? ⟨w.heap.size + 1, 0, none⟩ = some (.string ⟨#[]⟩) := h.r1.cell 0
      have k4 : W.cell? ⟨w.heap.size + 1 + 1, 0, none⟩ = some (.int .i64 0) := h.r2.cell 0
      have g1 := h.r1.frozen 0
      have g2 : W.frozen? ⟨w.heap.size + 1 + 1, 0, none⟩ = false := h.r2.frozen 0
      clear hD h h0 h1 hk1 HST
      have hn1 : ¬ w4.heap.size = w.heap.size + 1 := by have := HH4.out; omega
      have hn2 : ¬ w4.heap.size + 1 = w.heap.size + 1 := by have := HH4.out; omega
      have hn3 : ¬ w.heap.size + 1 + 1 = w.heap.size + 1 := by omega
      gi_wp2
      refine wpIn_wide.2 ?_
      go_region
      gi_wp2
      obtain ⟨e1, e2, e3⟩ := res_put HX.out.r1 HX.out.r2 X Er
      obtain ⟨W', hW'⟩ : ∃ W', ((W.setCell ⟨w.heap.size + 1, 0, none⟩ (.string X)).setCell ⟨w.heap.size + 1 + 1, 0, none⟩ (.int .i64 Er)).drew = W' := ⟨_, rfl⟩
      have e1' : Blk W' (w.heap.size + 1) 9 [.string X] := by rw [← hW']; exact e1.drew
      have e2' : Blk W' (w.heap.size + 2) 29 [.int .i64 Er] := by rw [← hW']; exact e2.drew
      have e3' : Only (fun j => j = w.heap.size + 1 ∨ j = w.heap.size + 2) W W' := by rw [← hW']; exact e3.drew
      rw [hW']
      have h44 := HH4.out
      have h77 := HZ7.out
      have hd7 : W'.heap[w7.heap.size]? = some (.deferred (some [])) := by
        have := (Array.getElem?_eq_some_iff.1 HD.out).1
        exact (e3'.block _ this (by omega)).trans HD.out
      have hoD : Only (· = w7.heap.size) W' (W'.putObj w7.heap.size (.deferred none)) := only_put1 W' _ _ _ rfl
      refine ⟨by simp, .inl ⟨_, _, rfl, run_takeDeferred hd7, ?_⟩⟩
      obtain ⟨o2, o3⟩ := HO2.out
      rw [← o2, ← o3]
      exact ⟨_, ret_str2 rfl _ _ _ _ _ _ rfl rfl ((e1'.only hoD (by omega)).cell 0) ((e2'.only hoD (by omega)).cell 0), rfl, (HX.out.below.trans (e3'.below HX.out.below.size (fun j hj e => by omega))).trans (hoD.below (HX.out.below.trans (e3'.below HX.out.below.size (fun j hj e => by omega))).size (fun j hj e => by omega))⟩
    case stop =>
      rintro Y cc k W hk ⟨rfl, h, hW⟩ hD
      have HD := hide hD
      have HX := hide h
      have HO2 : Hid (O = ([], 3)) := by
        show _ = _
        rw [HONE.out]
        match Ws, hW with
        | [], h => simp at h
        | [a], h => simp at h
        | a :: b :: c, _ => rfl
      clear hD h hW HST
      gi_wp2
      have hoD : Only (· = w7.heap.size) W (W.putObj w7.heap.size (.deferred none)) := only_put1 W _ _ _ rfl
      have hx2 := HX.out.other HH4.out hoD (fun j e => by have := HZ7.out; omega)
      rw [HO2.out]
      refine ⟨by simp, .inl ⟨_, _, rfl, run_takeDeferred HD.out, ?_⟩⟩
      exact ⟨_, ret_str2 rfl _ _ _ _ _ _ rfl rfl (hx2.r1.cell 0) (hx2.r2.cell 0), rfl, hx2.below⟩

end Go.Proofs.YtimmfnjkknbofaaDoor
