/- Package freemap's map: what lies where; made, Has, Mine, Free, Commit, Abort, Open. -/
import Derived.Test.YtbnhacibkmcmkaaDoorKMath
import Derived.Test.YtbnhacibkmcmkaaDoorEIs
import Derived.Test.YtbnhacibkmcmkaaDoorEIter
namespace Go.Proofs.YtbnhacibkmcmkaaDoor
set_option maxRecDepth 20000
open Go.RowKit
set_option linter.unusedVariables false
set_option maxRecDepth 100000

/-- a map at block b, its sets at t and s, all from B on; the table lies below -/
structure MapB (w : World) (B b t s n : Nat) (f g : Nat → Bool) : Prop where
  blk : Blk w b 66 [dp t, dp s]
  ts : SetB w t n f
  ss : SetB w s n g
  ne : t ≠ s
  lob : B ≤ b
  lot : B ≤ t
  los : B ≤ s
  tab : TabB w
  pos : 0 < B
def MapE (w : World) (B b n : Nat) (f g : Nat → Bool) : Prop := ∃ t s, MapB w B b t s n f g

/-- blocks of a map's own kinds -/
def isMS (w : World) (j : Nat) : Prop := ∃ cs, Blk w j 66 cs ∨ Blk w j 81 cs
/-- from B on maps and sets may have turned; all else stays -/
def OnlyM (B : Nat) (w w' : World) : Prop := Only (fun j => B ≤ j ∧ isMS w j) w w'
theorem OnlyM.refl (B : Nat) (w : World) : OnlyM B w w := Only.refl _ _
theorem OnlyM.trans {B : Nat} {a b c : World} (h : OnlyM B a b) (k : OnlyM B b c) : OnlyM B a c := by
  refine ⟨k.os.trans h.os, k.tape.trans h.tape, k.output.trans h.output, Nat.le_trans h.size k.size, fun i hi hn => ?_⟩
  have h1 := h.block i hi hn
  refine (k.block i (Nat.lt_of_lt_of_le hi h.size) (fun hh => hn ⟨hh.1, ?_⟩)).trans h1
  obtain ⟨cs, hc⟩ := hh.2
  refine ⟨cs, ?_⟩
  unfold Blk at hc ⊢
  rw [h1] at hc
  exact hc
theorem OnlyM.of_below {B : Nat} {w w' : World} (h : Below w.heap.size w w') : OnlyM B w w' := Only.of_below _ h
theorem OnlyM.of_only {B : Nat} {w w' : World} {S : Nat → Prop} (h : Only S w w') (hS : ∀ j, j < w.heap.size → S j → B ≤ j ∧ isMS w j) : OnlyM B w w' := h.mono hS
theorem OnlyM.below {B : Nat} {w w' : World} (h : OnlyM B w w') (hB : B ≤ w.heap.size) : Below B w w' := Only.below h hB (fun k hk hh => by have := hh.1; omega)
theorem Blk.keepM {B : Nat} {w w' : World} {j : Nat} {e : TypeId} {cs : List Value} (h : Blk w j e cs) (ho : OnlyM B w w') (h1 : e ≠ 66) (h2 : e ≠ 81) : Blk w' j e cs :=
  h.only ho (fun hh => by
    obtain ⟨ds, hd | hd⟩ := hh.2
    · exact Blk.ne h hd h1 rfl
    · exact Blk.ne h hd h2 rfl)
theorem Ints.keepM {B : Nat} {w w' : World} {base : Nat} {v : Value} {zs : List Int} (h : Ints w base v zs) (ho : OnlyM B w w') : Ints w' base v zs := by
  refine h.only ho (fun k hk hh => ?_)
  rcases h.form with ⟨rfl, _⟩ | ⟨g, cap, sp, rfl, _, _, _, hB, _⟩
  · cases hk
  · obtain rfl : g = k := Option.some.inj hk
    obtain ⟨ds, hd | hd⟩ := hh.2
    · exact Blk.ne hB hd (by decide) rfl
    · exact Blk.ne hB hd (by decide) rfl
theorem TabB.keep {B : Nat} {w w' : World} (h : TabB w) (hp : 0 < B) (hb : Below B w w') : TabB w' := fun i hi => by
  rw [World.cell?_of_block (w := w) (hb.block 0 hp)]
  exact h i hi

section
variable {w w' : World} {B b t s n : Nat} {f g : Nat → Bool}
theorem MapB.c0 (h : MapB w B b t s n f g) : w.cell? ⟨b, 0, none⟩ = some (dp t) := h.blk.cell 0
theorem MapB.c1 (h : MapB w B b t s n f g) : w.cell? ⟨b, 1, none⟩ = some (dp s) := h.blk.cell 1
theorem MapB.bt (h : MapB w B b t s n f g) : b ≠ t := Blk.ne h.blk h.ts.blk (by decide)
theorem MapB.bs (h : MapB w B b t s n f g) : b ≠ s := Blk.ne h.blk h.ss.blk (by decide)
theorem MapB.le (h : MapB w B b t s n f g) : B ≤ w.heap.size := Nat.le_of_lt (Nat.lt_of_le_of_lt h.lob h.blk.lt)
theorem MapB.keep (h : MapB w B b t s n f g) {S : Nat → Prop} (ho : Only S w w') (h1 : ¬ S b) (h2 : ¬ S t) (h3 : ¬ S s) (hS : ∀ k, k < B → ¬ S k) : MapB w' B b t s n f g :=
  ⟨h.blk.only ho h1, h.ts.only ho h2, h.ss.only ho h3, h.ne, h.lob, h.lot, h.los, h.tab.keep h.pos (ho.below h.le hS), h.pos⟩
theorem MapB.below (h : MapB w B b t s n f g) (hb : Below w.heap.size w w') : MapB w' B b t s n f g := h.keep (Only.of_below (fun _ => False) hb) (fun h => h) (fun h => h) (fun h => h) (fun _ _ h => h)
theorem MapE.below (h : MapE w B b n f g) (hb : Below w.heap.size w w') : MapE w' B b n f g := by
  obtain ⟨t, s, h⟩ := h
  exact ⟨t, s, h.below hb⟩
theorem MapE.le (h : MapE w B b n f g) : B ≤ w.heap.size := by
  obtain ⟨t, s, h⟩ := h
  exact h.le
theorem belowN (w : World) (m : Nat) : Below w.heap.size w (w.drewN m) := (only_drewN (fun _ => False) w m).below (Nat.le_refl _) (fun _ _ h => h)
theorem MapE.drewN (h : MapE w B b n f g) (m : Nat) : MapE (w.drewN m) B b n f g := h.below (belowN w m)
theorem MapE.num (h : MapE w B b n f g) : 1 ≤ n ∧ n ≤ 2048 := by
  obtain ⟨t, s, h⟩ := h
  exact ⟨h.ts.lo, h.ts.hi⟩
theorem MapE.out (h : MapE w B b n f g) : (∀ p, n ≤ p → f p = false) ∧ ∀ p, n ≤ p → g p = false := by
  obtain ⟨t, s, h⟩ := h
  exact ⟨h.ts.out, h.ss.out⟩
theorem MapB.isB (h : MapB w B b t s n f g) : B ≤ b ∧ isMS w b := ⟨h.lob, _, .inl h.blk⟩
theorem MapB.isT (h : MapB w B b t s n f g) : B ≤ t ∧ isMS w t := ⟨h.lot, _, .inr h.ts.blk⟩
theorem MapB.isS (h : MapB w B b t s n f g) : B ≤ s ∧ isMS w s := ⟨h.los, _, .inr h.ss.blk⟩
/-- a thing whose blocks are of other kinds stays; a map stays while no map or set of it turns -/
theorem MapE.keepR (h : MapE w B b n f g) {S : Nat → Prop} (ho : Only S w w') (hS : ∀ k, k < w.heap.size → S k → B ≤ k ∧ ¬ isMS w k) : MapE w' B b n f g := by
  obtain ⟨t, s, h⟩ := h
  exact ⟨t, s, h.keep ho (fun hh => (hS b h.blk.lt hh).2 h.isB.2) (fun hh => (hS t h.ts.lt hh).2 h.isT.2) (fun hh => (hS s h.ss.lt hh).2 h.isS.2) (fun k hk hh => by have := (hS k (Nat.lt_of_lt_of_le hk h.le) hh).1; omega)⟩
end

section
variable (w : World) (B b n : Nat) (f g : Nat → Bool)
theorem mmade_nil (w : World) : Calls Tryd.prog 52 #[.pointer none] w fun e w' => e = .returned (.bool false) ∧ w' = w := by
  go_enter Tryd.func52, Tryd.ntmps52
  go_wp2
  go_ret
  exact ⟨rfl, rfl⟩
theorem mmade_zero (c0 : w.cell? ⟨b, 0, none⟩ = some (.pointer none)) : Calls Tryd.prog 52 #[dp b] w fun e w' => e = .returned (.bool false) ∧ w' = w := by
  go_enter Tryd.func52, Tryd.ntmps52
  go_wp2
  go_ret
  exact ⟨rfl, rfl⟩
theorem mmade_cell (t : Nat) (c0 : w.cell? ⟨b, 0, none⟩ = some (dp t)) : Calls Tryd.prog 52 #[dp b] w fun e w' => e = .returned (.bool true) ∧ w' = w := by
  go_enter Tryd.func52, Tryd.ntmps52
  go_wp2
  go_ret
  exact ⟨rfl, rfl⟩
theorem mmade_any (h : MapE w B b n f g) : Calls Tryd.prog 52 #[dp b] w fun e w' => e = .returned (.bool true) ∧ w' = w := by
  obtain ⟨t, s, h⟩ := h
  exact mmade_cell w b t h.c0

set_option maxHeartbeats 1000000 in
theorem mhas_any (p : Int) (h : MapE w B b n f g) : Calls Tryd.prog 36 #[dp b, .int .i64 p] w fun e w' => e = .returned (.bool (hasI f p)) ∧ ∃ m, w' = w.drewN m := by
  obtain ⟨t, s, h⟩ := h
  have HM : Hid (∀ m, Calls Tryd.prog 52 #[dp b] (w.drewN m) fun e w' => e = .returned (.bool true) ∧ w' = w.drewN m) := fun m => mmade_cell (w.drewN m) b t h.c0
  have HH : Hid (Calls Tryd.prog 57 #[dp t, .int .i64 p] w fun e w' => e = .returned (.bool (hasI f p)) ∧ ∃ m, w' = w.drewN m) := has_any w t n f p h.ts
  have c0 := h.c0
  clear h
  go_enter Tryd.func36, Tryd.ntmps36
  go_wp2_with (first
    | (go_at_call 52; refine (HM.out 0).mono ?_; rintro e w1 ⟨rfl, hw⟩; subst w1; clear HM)
    | (go_at_call 57; refine HH.out.mono ?_; rintro e w1 ⟨rfl, m, hw⟩; subst w1; clear HH))
  go_ret
  exact ⟨rfl, m, rfl⟩

set_option maxHeartbeats 1000000 in
theorem mmine_any (p : Int) (h : MapE w B b n f g) : Calls Tryd.prog 37 #[dp b, .int .i64 p] w fun e w' => e = .returned (.bool (hasI f p && !hasI g p)) ∧ ∃ m, w' = w.drewN m := by
  have HH := hide (mhas_any w B b n f g p h)
  obtain ⟨t, s, h⟩ := h
  have HG : Hid (∀ m, Calls Tryd.prog 57 #[dp s, .int .i64 p] (w.drewN m) fun e w' => e = .returned (.bool (hasI g p)) ∧ ∃ k, w' = w.drewN k) := fun m => by
    refine (has_any (w.drewN m) s n g p (h.ss.below (belowN w m))).mono ?_
    rintro e w' ⟨rfl, k, rfl⟩
    exact ⟨rfl, m + k, by simp [World.drewN, Nat.add_assoc]⟩
  have c1 := h.c1
  clear h
  cases hf : hasI f p
  · rw [hf] at HH
    clear hf
    go_enter Tryd.func37, Tryd.ntmps37
    go_wp2_with (first
      | (go_at_call 36; refine HH.out.mono ?_; rintro e w1 ⟨rfl, m, hw⟩; subst w1; clear HH))
    go_ret
    exact ⟨rfl, m, rfl⟩
  · rw [hf] at HH
    clear hf
    go_enter Tryd.func37, Tryd.ntmps37
    go_wp2_with (first
      | (go_at_call 36; refine HH.out.mono ?_; rintro e w1 ⟨rfl, m, hw⟩; subst w1; clear HH)
      | (go_at_call 57; refine (HG.out m).mono ?_; rintro e w2 ⟨rfl, k, hw⟩; subst w2; clear HG))
    go_ret
    exact ⟨ret_bool (by simp), k, rfl⟩

set_option maxHeartbeats 1000000 in
theorem mfree_any (p : Int) (h : MapE w B b n f g) : Calls Tryd.prog 25 #[dp b, .int .i64 p] w fun e w' => e = .returned (.int .i64 (freeE f p)) ∧ MapE w' B b n (dropF f p) g ∧ OnlyM B w w' := by
  have HM := hide (mmade_any w B b n f g h)
  have HH := hide (mhas_any w B b n f g p h)
  have HX := hide h
  obtain ⟨t, s, h⟩ := h
  have c0 := h.c0
  have HD : Hid (∀ m, Calls Tryd.prog 53 #[dp t, .int .i64 p] (w.drewN m) fun e w' => e = .returned (.int .i64 (dropE n f p)) ∧ MapE w' B b n (dropF f p) g ∧ OnlyM B w w') := fun m => by
    have h' := h.below (belowN w m)
    refine (drop_any (w.drewN m) t n f p h'.ts).mono ?_
    rintro e w' ⟨rfl, hs, ho⟩
    refine ⟨rfl, ⟨t, s, h'.blk.only ho h'.bt, hs, h'.ss.only ho (Ne.symm h'.ne), h'.ne, h'.lob, h'.lot, h'.los, h'.tab.keep h'.pos (ho.below h'.le (fun k hk e => by have := h'.lot; omega)), h'.pos⟩, ?_⟩
    exact (OnlyM.of_below (belowN w m)).trans (OnlyM.of_only ho (fun j _ e => by rw [e]; exact h'.isT))
  have hout := h.ts.out
  have hsz := h.ts.hi
  cases hf : hasI f p
  · rw [hf] at HH
    have HE : Hid (freeE f p = 4) := by show _ = _; rw [freeE, hf]; rfl
    have HF : Hid (dropF f p = f) := by
      show _ = _
      funext q
      rw [dropF]
      by_cases hq : (q : Int) = p
      · subst hq
        rw [hasI] at hf
        simp at hf
        simp [hf]
      · simp [hq]
    clear hf HD h hout
    go_enter Tryd.func25, Tryd.ntmps25
    go_wp2_with (first
      | (go_at_call 52; refine HM.out.mono ?_; rintro e w1 ⟨rfl, hw⟩; subst w1; clear HM)
      | (go_at_call 36; refine HH.out.mono ?_; rintro e w1 ⟨rfl, m, hw⟩; subst w1; clear HH))
    go_ret
    rw [HE.out, HF.out]
    exact ⟨rfl, HX.out.drewN m, OnlyM.of_below (belowN w m)⟩
  · rw [hf] at HH
    have HE : Hid (freeE f p = dropE n f p) := by
      show _ = _
      rw [freeE, hf, dropE]
      rw [hasI, Bool.and_eq_true, decide_eq_true_eq] at hf
      have hlt : p.toNat < n := by
        rcases Nat.lt_or_ge p.toNat n with h | h
        · exact h
        · rw [hout _ h] at hf; cases hf.2
      rw [if_pos (show 0 ≤ p ∧ p < n by omega), hf.2]
    clear hf h hout
    go_enter Tryd.func25, Tryd.ntmps25
    go_wp2_with (first
      | (go_at_call 52; refine HM.out.mono ?_; rintro e w1 ⟨rfl, hw⟩; subst w1; clear HM)
      | (go_at_call 36; refine HH.out.mono ?_; rintro e w1 ⟨rfl, m, hw⟩; subst w1; clear HH)
      | (go_at_call 53; refine (HD.out m).mono ?_; rintro e w2 ⟨rfl, hm, ho⟩; have HR := hide hm; have HO := hide ho; clear HD hm ho))
    go_ret
    rw [HE.out]
    exact ⟨rfl, HR.out, HO.out⟩

set_option maxHeartbeats 1000000 in
theorem mcommit_any (h : MapE w B b n f g) : Calls Tryd.prog 30 #[dp b] w fun e w' => e = .returned (.int .i64 0) ∧ MapE w' B b n f f ∧ OnlyM B w w' := by
  have HM := hide (mmade_any w B b n f g h)
  obtain ⟨t, s, h⟩ := h
  have c0 := h.c0
  have HC := hide (clone_any w t n f h.ts)
  obtain ⟨w1, hw1⟩ : ∃ w1, w.alloc (.cells (sc n f).toArray 81) = w1 := ⟨_, rfl⟩
  rw [hw1] at HC
  have hb1 : Below w.heap.size w w1 := by rw [← hw1]; exact (Below.refl _ w).alloc (Nat.le_refl _) _
  have h1 := h.below hb1
  have hs1 : SetB w1 w.heap.size n f := ⟨by rw [← hw1]; exact Blk.new w _ _, h.ts.lo, h.ts.hi, h.ts.out⟩
  have c1 := h1.c1
  have f1 := h1.blk.frozen 1
  have ho : Only (· = b) w1 (w1.setCell ⟨b, 1, none⟩ (dp w.heap.size)) := (Only.refl (· = b) w1).setCell ⟨b, 1, none⟩ _ (fun _ => rfl)
  have hlt := h.blk.lt
  have HR : Hid (MapE (w1.setCell ⟨b, 1, none⟩ (dp w.heap.size)) B b n f f) := ⟨t, w.heap.size, h1.blk.set 1 _, h1.ts.only ho (Ne.symm h1.bt), hs1.only ho (by omega), by have := h.ts.lt; omega, h.lob, h.lot, h.le, h1.tab.keep h1.pos (ho.below h1.le (fun k hk e => by have := h.lob; omega)), h1.pos⟩
  have HO : Hid (OnlyM B w (w1.setCell ⟨b, 1, none⟩ (dp w.heap.size))) := (OnlyM.of_below hb1).trans (OnlyM.of_only ho (fun j _ e => by rw [e]; exact h1.isB))
  clear h h1 hs1 ho hb1 hw1
  go_enter Tryd.func30, Tryd.ntmps30
  go_wp2_with (first
    | (go_at_call 52; refine HM.out.mono ?_; rintro e wx ⟨rfl, hw⟩; subst wx; clear HM)
    | (go_at_call 43; refine HC.out.mono ?_; rintro e wx ⟨rfl, hw⟩; subst wx; clear HC))
  go_ret
  exact ⟨rfl, HR.out, HO.out⟩

set_option maxHeartbeats 1000000 in
theorem mabort_any (h : MapE w B b n f g) : Calls Tryd.prog 26 #[dp b] w fun e w' => e = .returned (.int .i64 0) ∧ MapE w' B b n g g ∧ OnlyM B w w' := by
  have HM := hide (mmade_any w B b n f g h)
  obtain ⟨t, s, h⟩ := h
  have c0 := h.c1
  have HC := hide (clone_any w s n g h.ss)
  obtain ⟨w1, hw1⟩ : ∃ w1, w.alloc (.cells (sc n g).toArray 81) = w1 := ⟨_, rfl⟩
  rw [hw1] at HC
  have hb1 : Below w.heap.size w w1 := by rw [← hw1]; exact (Below.refl _ w).alloc (Nat.le_refl _) _
  have h1 := h.below hb1
  have hs1 : SetB w1 w.heap.size n g := ⟨by rw [← hw1]; exact Blk.new w _ _, h.ts.lo, h.ts.hi, h.ss.out⟩
  have c1 := h1.c0
  have f1 := h1.blk.frozen 0
  have ho : Only (· = b) w1 (w1.setCell ⟨b, 0, none⟩ (dp w.heap.size)) := (Only.refl (· = b) w1).setCell ⟨b, 0, none⟩ _ (fun _ => rfl)
  have hlt := h.blk.lt
  have HR : Hid (MapE (w1.setCell ⟨b, 0, none⟩ (dp w.heap.size)) B b n g g) := ⟨w.heap.size, s, h1.blk.set 0 _, hs1.only ho (by omega), h1.ss.only ho (Ne.symm h1.bs), by have := h.ss.lt; omega, h.lob, h.le, h.los, h1.tab.keep h1.pos (ho.below h1.le (fun k hk e => by have := h.lob; omega)), h1.pos⟩
  have HO : Hid (OnlyM B w (w1.setCell ⟨b, 0, none⟩ (dp w.heap.size))) := (OnlyM.of_below hb1).trans (OnlyM.of_only ho (fun j _ e => by rw [e]; exact h1.isB))
  clear h h1 hs1 ho hb1 hw1
  go_enter Tryd.func26, Tryd.ntmps26
  go_wp2_with (first
    | (go_at_call 52; refine HM.out.mono ?_; rintro e wx ⟨rfl, hw⟩; subst wx; clear HM)
    | (go_at_call 43; refine HC.out.mono ?_; rintro e wx ⟨rfl, hw⟩; subst wx; clear HC))
  go_ret
  exact ⟨rfl, HR.out, HO.out⟩
end

end Go.Proofs.YtbnhacibkmcmkaaDoor
