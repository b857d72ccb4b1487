/- What the document's answer reads of a page's bytes: which numbers lie where; how far it has read. -/
import Derived.Test.YtmeiahmolmneeaaDoorJHRefCheck
import Derived.Test.YtmeiahmolmneeaaDoorJHRd
namespace Go.Proofs.YtmeiahmolmneeaaDoor
set_option maxRecDepth 20000
open Go.RowKit
set_option linter.unusedVariables false

def rNum (zs : List Int) (i : Nat) : Int := zs.getD i 0 * 256 + zs.getD (i + 1) 0
def rMs (zs : List Int) : Nat → List Int
  | 0 => []
  | n + 1 => rMs zs n ++ [rNum zs (3 + 2 * n)]
def rUs (zs : List Int) (n k : Nat) : List Int := (zs.take (4 + 2 * n + k)).drop (4 + 2 * n)
theorem rMs_len (zs : List Int) : ∀ n, (rMs zs n).length = n
  | 0 => rfl
  | n + 1 => by rw [rMs, List.length_append, rMs_len zs n]; rfl

theorem numB2 (x : Nat) (h : x < 65536) : numBytes x 2 = [((x / 256 : Nat) : Int), ((x % 256 : Nat) : Int)] := by
  simp only [numBytes, List.nil_append, List.cons_append, List.cons.injEq, and_true]
  omega
theorem cut_mid (pre us R : List Int) (n k : Nat) (hn : pre.length = n) (hk : us.length = k) : ((pre ++ (us ++ R)).take (n + k)).drop n = us := by
  subst hn hk
  rw [List.take_append, List.drop_append]
  simp

theorem ref_bear {p : Int} {ms us zs : List Int} (h : mayB p ms us.length = true) (hz : bearS p ms us = zs) : zs.getD 2 0 = (ms.length : Nat) ∧ rNum zs 0 = p ∧ rMs zs ms.length = ms ∧ zs.getD (3 + 2 * ms.length) 0 = (us.length : Nat) ∧ rUs zs ms.length us.length = us := by
  have hp := (mayB_iff.1 h).1
  have hl := may_len h
  have hm := may_each h
  obtain ⟨R, hR⟩ : ∃ R, R = List.replicate (240 - (rawS p ms us).length) (0 : Int) := ⟨_, rfl⟩
  have e0 : bearS p ms us = numBytes p.toNat 2 ++ ([(ms.length : Int)] ++ (numsS ms ++ (txt us ++ R))) := by
    unfold bearS padTo
    rw [← hR, rawS]
    simp only [List.append_assoc]
  clear hR h
  rw [← hz, e0, numB2 p.toNat (by omega)]
  clear hz e0
  match ms, hl, hm with
  | [a], _, hm =>
    have ha := hm a (by simp)
    refine ⟨rfl, ?_, ?_, ?_, ?_⟩
    · simp only [rNum, List.cons_append, List.getD_cons_zero, List.getD_cons_succ]
      omega
    · simp only [numsS, numB2 a.toNat (by omega), rMs, rNum, List.length_cons, List.length_nil, List.cons_append, List.nil_append, List.getD_cons_zero, List.getD_cons_succ, List.cons.injEq, and_true]
      omega
    · simp only [numsS, numB2 a.toNat (by omega), txt]
      rfl
    · simp only [rUs, numsS, numB2 a.toNat (by omega), txt]
      exact cut_mid [((p.toNat / 256 : Nat) : Int), ((p.toNat % 256 : Nat) : Int), 1, ((a.toNat / 256 : Nat) : Int), ((a.toNat % 256 : Nat) : Int), (us.length : Int)] us R _ _ rfl rfl
  | [a, b], _, hm =>
    have ha := hm a (by simp)
    have hb := hm b (by simp)
    refine ⟨rfl, ?_, ?_, ?_, ?_⟩
    · simp only [rNum, List.cons_append, List.getD_cons_zero, List.getD_cons_succ]
      omega
    · simp only [numsS, numB2 a.toNat (by omega), numB2 b.toNat (by omega), rMs, rNum, List.length_cons, List.length_nil, List.cons_append, List.nil_append, List.getD_cons_zero, List.getD_cons_succ, List.cons.injEq, and_true]
      omega
    · simp only [numsS, numB2 a.toNat (by omega), numB2 b.toNat (by omega), txt]
      rfl
    · simp only [rUs, numsS, numB2 a.toNat (by omega), numB2 b.toNat (by omega), txt]
      exact cut_mid [((p.toNat / 256 : Nat) : Int), ((p.toNat % 256 : Nat) : Int), 2, ((a.toNat / 256 : Nat) : Int), ((a.toNat % 256 : Nat) : Int), ((b.toNat / 256 : Nat) : Int), ((b.toNat % 256 : Nat) : Int), (us.length : Int)] us R _ _ rfl rfl

theorem get_yes {e : Nat} {p : Int} {ms us zs : List Int} (h : mayB p ms us.length = true) (hz : bearS p ms us = zs) : getH e zs = ⟨e, p, ms, us⟩ ∧ getE e zs = 0 := by
  rw [← hz]
  exact getH_bear e p ms us h
theorem get_no {e : Nat} {zs : List Int} (h : ∀ p ms us, mayB p ms us.length = true → bearS p ms us ≠ zs) : getH e zs = noHd ∧ getE e zs = 60 := by
  have hb : getB e zs = false := by
    cases hb : getB e zs
    · rfl
    · obtain ⟨p, ms, us, h1, h2⟩ := (getB_iff e zs).1 hb
      exact absurd h2 (h p ms us h1)
  unfold getH getE
  rw [hb]
  exact ⟨rfl, rfl⟩
theorem no_len {e : Nat} {zs : List Int} (h : zs.length ≠ 240) : getH e zs = noHd ∧ getE e zs = 60 := get_no fun p ms us hm hz => h (by rw [← hz]; exact bearS_len hm)
theorem no_cnt {e : Nat} {zs : List Int} (h : 2 < zs.getD 2 0) : getH e zs = noHd ∧ getE e zs = 60 := get_no fun p ms us hm hz => by
  have := (ref_bear hm hz).1
  have := may_len hm
  omega
theorem no_txt {e n : Nat} {zs : List Int} (hn : zs.getD 2 0 = (n : Nat)) (h : 32 < zs.getD (3 + 2 * n) 0) : getH e zs = noHd ∧ getE e zs = 60 := get_no fun p ms us hm hz => by
  obtain ⟨h1, _, _, h4, _⟩ := ref_bear hm hz
  have : n = ms.length := by omega
  subst this
  have := (mayB_iff.1 hm).2.2
  omega
theorem no_rest {e n k : Nat} {zs : List Int} (hn : zs.getD 2 0 = (n : Nat)) (hk : zs.getD (3 + 2 * n) 0 = (k : Nat)) (h : ¬ (mayB (rNum zs 0) (rMs zs n) (rUs zs n k).length = true ∧ bearS (rNum zs 0) (rMs zs n) (rUs zs n k) = zs)) : getH e zs = noHd ∧ getE e zs = 60 := get_no fun p ms us hm hz => by
  obtain ⟨h1, h2, h3, h4, h5⟩ := ref_bear hm hz
  have : n = ms.length := by omega
  subst this
  have : k = us.length := by omega
  subst this
  rw [h2, h3, h5] at h
  exact h ⟨hm, hz⟩

/-- how far a head is read: the result's block, the head's, its maps -/
structure Gs (w : World) (H e : Nat) (p : Int) (a : Option Addr) (n c : Nat) (xs : List Int) (wr : World) : Prop where
  st : Hs w wr
  hH : w.heap.size < H
  blk : Blk wr H 26 [.int .u64 e, .int .i64 p, .slice a n c, .slice none 0 0]
  own : wr.ownsRow (w.heap.size + 1) 3 1 (.slice a n c) xs.length (xs.map (Value.int .i64))
theorem Gs.cells {w wr : World} {H e : Nat} {p : Int} {a : Option Addr} {n c : Nat} {xs : List Int} (h : Gs w H e p a n c xs wr) (wx : World) (ho : Only (fun k => (Value.slice a n c).ownBlock = some k) wr wx) :
    Blk wx H 26 [.int .u64 e, .int .i64 p, .slice a n c, .slice none 0 0] := h.blk.only ho (fun hk => own_ne h.own h.blk (by decide) H hk rfl)
theorem Gs.next {w wr w3 : World} {H e : Nat} {p : Int} {a a' : Option Addr} {n c n' c' : Nat} {xs xs' : List Int} (h : Gs w H e p a n c xs wr)
    (ho : Only (fun k => (Value.slice a n c).ownBlock = some k) wr w3) (hown : w3.ownsRow (w.heap.size + 1) 3 1 (.slice a' n' c') xs'.length (xs'.map (Value.int .i64))) :
    Gs w H e p a' n' c' xs' (w3.setCell ⟨H, 2, none⟩ (.slice a' n' c')) := by
  have hlt := own_lt h.own
  have hHH := h.hH
  have hB3 := h.cells w3 ho
  have hne3 := own_ne hown hB3 (by decide)
  have h3 : Hs w w3 := h.st.only ho (fun k hk => by have := (hlt k hk).1; omega)
  have oS : Only (fun k => k = H) w3 (w3.setCell ⟨H, 2, none⟩ (.slice a' n' c')) := (Only.refl _ w3).setCell ⟨H, 2, none⟩ _ (fun _ => rfl)
  exact ⟨h3.only oS (fun k hk => by omega), h.hH, hB3.set 2 (.slice a' n' c'), ownsRow_only hown oS (fun k hk hh => hne3 k hk hh)⟩

/-- a head that was read whole -/
structure Us (w : World) (H : Nat) (g : Hd) (ma : Option Addr) (mc : Nat) (ua : Option Addr) (uc : Nat) (wr : World) : Prop where
  st : Hs w wr
  hH : w.heap.size < H
  blk : Blk wr H 26 [.int .u64 g.e, .int .i64 g.p, .slice ma g.ms.length mc, .slice ua g.us.length uc]
  val : HdO wr (w.heap.size + 1) (hdV g.e g.p ma g.ms.length mc ua g.us.length uc) g
theorem Us.below {w wr w2 : World} {H : Nat} {g : Hd} {ma : Option Addr} {mc : Nat} {ua : Option Addr} {uc : Nat} (h : Us w H g ma mc ua uc wr) (hb : Below wr.heap.size wr w2) : Us w H g ma mc ua uc w2 :=
  ⟨h.st.below hb, h.hH, h.blk.below hb h.blk.lt, h.val.below hb⟩
theorem Us.done {w wr : World} {H : Nat} {g : Hd} {ma : Option Addr} {mc : Nat} {ua : Option Addr} {uc : Nat} (h : Us w H g ma mc ua uc wr) :
    Blk (laidH wr w.heap.size (.int .u64 g.e) (.int .i64 g.p) (.slice ma g.ms.length mc) (.slice ua g.us.length uc)) w.heap.size 26 [.int .u64 g.e, .int .i64 g.p, .slice ma g.ms.length mc, .slice ua g.us.length uc] ∧
      HdO (laidH wr w.heap.size (.int .u64 g.e) (.int .i64 g.p) (.slice ma g.ms.length mc) (.slice ua g.us.length uc)) (w.heap.size + 1) (hdV g.e g.p ma g.ms.length mc ua g.us.length uc) g ∧ Below w.heap.size w (laidH wr w.heap.size (.int .u64 g.e) (.int .i64 g.p) (.slice ma g.ms.length mc) (.slice ua g.us.length uc)) := by
  obtain ⟨s1, s2, s3⟩ := h.st.store (.int .u64 g.e) (.int .i64 g.p) (.slice ma g.ms.length mc) (.slice ua g.us.length uc)
  exact ⟨s1, h.val.only (laidH_only wr w.heap.size _ _ _ _) (fun k hk => by omega), s2⟩
theorem Gs.done {w wr w3 : World} {H e : Nat} {p : Int} {a ua : Option Addr} {n c un uc : Nat} {xs us : List Int} (h : Gs w H e p a n c xs wr) (he : e < 18446744073709551616) (ho : Only (fun _ => False) wr w3)
    (hu : w3.ownsRow wr.heap.size 5 1 (.slice ua un uc) us.length (us.map (Value.int .u8))) (hok : ByteOk us) : n = xs.length ∧ un = us.length ∧ Us w H ⟨e, p, xs, us⟩ a c ua uc (w3.setCell ⟨H, 3, none⟩ (.slice ua un uc)) := by
  obtain rfl : n = xs.length := own_n h.own
  obtain rfl : un = us.length := own_n hu
  refine ⟨rfl, rfl, ?_⟩
  have hH3 := h.blk.only ho (fun hk => hk)
  have oS : Only (fun k => k = H) w3 (w3.setCell ⟨H, 3, none⟩ (.slice ua us.length uc)) := (Only.refl _ w3).setCell ⟨H, 3, none⟩ _ (fun _ => rfl)
  have hHH := h.hH
  have hHlt := h.blk.lt
  have own3 := ownsRow_only h.own ho (fun _ _ hh => hh)
  have own4 := ownsRow_only own3 oS (fun k hk hh => own_ne own3 hH3 (by decide) k hk hh)
  have u4 := ownsRow_only hu oS (fun k hk hh => by have := (hu.lt k hk).1; omega)
  refine ⟨(h.st.only ho (fun k hk => hk.elim)).only oS (fun k hk => by omega), h.hH, hH3.set 3 _, a, c, ua, uc, rfl, is_of_own own4, sl_of_own_len u4 hok, he, fun k hk => ?_⟩
  have hsz := h.st.2.lt
  rcases hk with hk | hk
  · exact (own_lt h.own k hk).1
  · have := (hu.lt k hk).1; omega

end Go.Proofs.YtmeiahmolmneeaaDoor
/- Contract: the head of what a page bears, by the document's answer (incipitref06.Get). -/
namespace Go.Proofs.YtmeiahmolmneeaaDoor
set_option maxRecDepth 20000
open Go.RowKit
set_option linter.unusedVariables false

theorem exec_slice_lh {P : Program} {o : Oper} {a : Act} {w : World} (t : TypeId) (hu : P.underlying t = some (.slice (P.elem t))) (x y z : Operand) (ho : o.op = .slice t x (some y) (some z) none) (v u u' r : Value) (hx : a.eval x = v) (hy : a.eval y = u) (hz : a.eval z = u')
    (hr : (Instr.slice t v (some u) (some u') none).run P w = .ok r w) : (execOp a.eval o).run P w = .ok (.value r) w := by
  unfold execOp
  simp only [ho, hx, hy, hz, Option.map_some, Option.map_none, Sem.run_bind, run_sliceAt_slice w t v _ _ _ hu, hr, Result.andThen_ok, Sem.run_pure]

/-- a head's block of the call's own -/
def isGH (B : Nat) : Value → World → Prop := fun v w => ∃ g, v = .pointer (some ⟨g, 0, none⟩) ∧ B ≤ g ∧ Blk w g 26 [.int .u64 0, .int .i64 0, .slice none 0 0, .slice none 0 0]
theorem stS_isGH (B : Nat) : StS (fun _ => False) (isGH B) := fun v w w' ho ⟨g, h1, h2, h3⟩ => ⟨g, h1, h2, h3.only ho (fun h => h)⟩
theorem stS_isRow (B : Nat) (xs : List Int) : StS (fun _ => False) (isRow B xs) := fun v w w' ho ⟨a, n, c, h1, h2⟩ => ⟨a, n, c, h1, h2.only ho (fun _ _ h => h)⟩
theorem store_head {w : World} {b : Nat} {y0 y1 y2 y3 x0 x1 x2 x3 : Value} (h : Blk w b 26 [y0, y1, y2, y3]) : Blk (w.setCells b 0 [x0, x1, x2, x3]) b 26 [x0, x1, x2, x3] := by
  have := h.setMany [x0, x1, x2, x3] 0 w (by simp)
  simpa [splice] using this

set_option maxHeartbeats 1000000 in
theorem refGetH_len (w : World) (e : Nat) (v : Value) (zs : List Int) (h : Sl w v zs) (hl : zs.length ≠ 240) :
    Calls Tryd.prog 24 #[.int .u64 e, v] w (GivesH w (getH e zs) (getE e zs)) := by
  obtain ⟨q1, q2⟩ := no_len (e := e) hl
  rw [q1, q2]
  obtain ⟨ao, cap, rfl⟩ := sl_form' h
  have hne : ((zs.length : Int) != 240) = true := by simp; omega
  have hne2 : ¬ ((zs.length : Int) = 240) := by omega
  have HN := hide (Hs.new w)
  have hza := zeroHeadRun
  clear h q1 q2
  go_enter Tryd.func24, Tryd.ntmps24
  go_wp2
  (try simp only [Exit.inBlock, Exit.then])
  refine bodyPost_ret (ret_head1 rfl _ _ w.heap.size _ _ _ _ _ rfl rfl HN.out.2) rfl ?_
  exact GivesH.no 60 HN.out.1

set_option maxHeartbeats 4000000 in
theorem refGetH_any (w : World) (e : Nat) (v : Value) (zs : List Int) (h : Sl w v zs) (he : e < 18446744073709551616) :
    Calls Tryd.prog 24 #[.int .u64 e, v] w (GivesH w (getH e zs) (getE e zs)) := by
  by_cases hl : zs.length = 240
  case neg => exact refGetH_len w e v zs h hl
  have hok := h.bytes
  have HOK := hide hok
  have hSl := h
  obtain ⟨ao, cap, rfl⟩ := sl_form' h
  obtain ⟨-, ao', cap', hh, h1, h2, -, h4⟩ := h
  simp only [Value.slice.injEq, true_and] at hh
  obtain ⟨rfl, rfl⟩ := hh
  obtain ⟨b, off, rfl, hc⟩ := h4 (by intro h; rw [h] at hl; simp at hl)
  unfold maxLen at h2
  have HZC : Hid (∀ wx, Below w.heap.size w wx → ∀ i, i < 240 → wx.cell? ⟨b, off + i, none⟩ = some (.int .u8 (zs.getD i 0))) := by
    intro wx hb i hi
    have := hc i (by omega)
    rw [World.cell?_of_block (w := w) (hb.block b (World.block_lt_of_cell? w _ this))]
    exact this
  have HCUT := hide (fun l h => cut_lh w (some ⟨b, off, none⟩) zs cap l h hSl)
  have HSL := hide hSl
  rw [hl] at HSL HCUT ⊢
  have HLEN := hide hl
  have hza := zeroHeadRun
  have HN := hide (Hs.new w)
  have ha0 := hok.get 0
  have ha1 := hok.get 1
  have ha2 := hok.get 2
  have HNC := hide (no_cnt (e := e) (zs := zs))
  obtain ⟨A0, hA0⟩ : ∃ x, x = zs.getD 0 0 := ⟨_, rfl⟩
  obtain ⟨A1, hA1⟩ : ∃ x, x = zs.getD 1 0 := ⟨_, rfl⟩
  obtain ⟨A2, hA2⟩ : ∃ x, x = zs.getD 2 0 := ⟨_, rfl⟩
  obtain ⟨P, hP⟩ : ∃ x, x = rNum zs 0 := ⟨_, rfl⟩
  have hPAB : A0 * 256 + A1 = P := by rw [hA0, hA1, hP]; rfl
  rw [← hA0] at ha0
  rw [← hA1] at ha1
  rw [← hA2] at ha2 HNC
  have hw0 : IntKind.i64.wrap A0 = A0 := IntWalk.i64_in _ (by omega)
  have hw1 : IntKind.i64.wrap A1 = A1 := IntWalk.i64_in _ (by omega)
  have hwM : IntKind.i64.wrap (A0 * 256) = A0 * 256 := IntWalk.i64_in _ (by omega)
  have hwP : IntKind.i64.wrap P = P := IntWalk.i64_in _ (by omega)
  obtain ⟨W1, hW1⟩ : ∃ W, W = w.alloc (.cells #[.int .u64 0, .int .i64 0, .slice none 0 0, .slice none 0 0] 26) := ⟨_, rfl⟩
  rw [← hW1] at HN
  have HBX : Hid (∀ wx, Only (fun _ => False) W1 wx → Below w.heap.size w wx) := fun wx ho => (HN.out.only ho (fun k hk => hk.elim)).1
  have HC0 : Hid (∀ wx, Only (fun _ => False) W1 wx → wx.cell? ⟨b, off, none⟩ = some (.int .u8 A0)) := fun wx ho => by
    have := HZC.out wx (HBX.out wx ho) 0 (by omega)
    rwa [← hA0] at this
  have HC1 : Hid (∀ wx, Only (fun _ => False) W1 wx → wx.cell? ⟨b, off + 1, none⟩ = some (.int .u8 A1)) := fun wx ho => by
    have := HZC.out wx (HBX.out wx ho) 1 (by omega)
    rwa [← hA1] at this
  have HA2 := hide hA2
  have HP := hide hP
  have HW1 := hide hW1
  clear hSl hc h4 hl hA0 hA1 hA2 hP hok hW1
  go_enter Tryd.func24, Tryd.ntmps24
  go_wp2
  rw [← HW1.out]
  clear HW1
  refine wp_region_only (fun _ => False) [isV (.int .u64 (e : Int)), isV (.slice (some ⟨b, off, none⟩) 240 cap), isV (.pointer (some ⟨b, off, none⟩)), isV (.int .u8 (A0 : Int)), isV (.int .i64 (A0 : Int)), isV (.int .i64 (A0 * 256 : Int)), isV (.slice (some ⟨b, off, none⟩) 240 cap), isV (.pointer (some ⟨b, off + 1, none⟩)), isV (.int .u8 (A1 : Int)), isV (.int .i64 (A1 : Int)), isV (.int .i64 (P : Int)), isV (.agg #[.int .u64 (e : Int), .int .i64 P, .slice none 0 0, .slice none 0 0]), isGH W1.heap.size] 99 101 13 (by kernel_rfl) (by kernel_rfl) (by kernel_rfl) (by kernel_rfl) rfl ?_ ?_ ?_
  · repeat (first | exact trivial | refine allStL_isV ?_ | refine ⟨stS_isGH _, fun _ => stS_isGH _, ?_⟩)
  · refine ⟨?_, ?_, ?_, ?_, ?_, ?_, ?_, ?_, ?_, ?_, ?_, ?_, ?_, trivial⟩
    · intro act wx h
      have e0 : act.eval (.tmp 0) = .int .u64 (e : Int) := h.old 0 (by kernel_rfl)
      have hrel := h.rel
      clear h
      refine gives_by rfl act.eval rfl ?_
      generalize act.eval = ρ at *
      intro hf hc
      go_simp
      exact ⟨relM_quiet (by decide) (Only.refl _ _), rfl⟩
    · intro act wx h
      have e1 : act.eval (.tmp 1) = .slice (some ⟨b, off, none⟩) 240 cap := h.old 1 (by kernel_rfl)
      have hrel := h.rel
      clear h
      refine gives_by rfl act.eval rfl ?_
      generalize act.eval = ρ at *
      intro hf hc
      go_simp
      exact ⟨relM_quiet (by decide) (Only.refl _ _), rfl⟩
    · intro act wx h
      obtain ⟨v18, e18, f18⟩ := h.val 1 18 (by kernel_rfl)
      obtain rfl : v18 = .slice (some ⟨b, off, none⟩) 240 cap := f18
      have hrel := h.rel
      clear h
      refine gives_by rfl act.eval rfl ?_
      generalize act.eval = ρ at *
      intro hf hc
      go_simp
      exact ⟨relM_quiet (by decide) (Only.refl _ _), rfl⟩
    · intro act wx h
      obtain ⟨v19, e19, f19⟩ := h.val 2 19 (by kernel_rfl)
      obtain rfl : v19 = .pointer (some ⟨b, off, none⟩) := f19
      have hrel := h.rel
      clear h
      have cx := HC0.out wx hrel
      refine gives_by rfl act.eval rfl ?_
      generalize act.eval = ρ at *
      intro hf hc
      go_simp
      exact ⟨relM_quiet (by decide) (Only.refl _ _), rfl⟩
    · intro act wx h
      obtain ⟨v20, e20, f20⟩ := h.val 3 20 (by kernel_rfl)
      obtain rfl : v20 = .int .u8 (A0 : Int) := f20
      have hrel := h.rel
      clear h
      refine gives_by rfl act.eval rfl ?_
      generalize act.eval = ρ at *
      intro hf hc
      go_simp
      exact ⟨relM_quiet (by decide) (Only.refl _ _), rfl⟩
    · intro act wx h
      obtain ⟨v21, e21, f21⟩ := h.val 4 21 (by kernel_rfl)
      obtain rfl : v21 = .int .i64 (A0 : Int) := f21
      have hrel := h.rel
      clear h
      refine gives_by rfl act.eval rfl ?_
      generalize act.eval = ρ at *
      intro hf hc
      go_simp
      exact ⟨relM_quiet (by decide) (Only.refl _ _), rfl⟩
    · intro act wx h
      have e1 : act.eval (.tmp 1) = .slice (some ⟨b, off, none⟩) 240 cap := h.old 1 (by kernel_rfl)
      have hrel := h.rel
      clear h
      refine gives_by rfl act.eval rfl ?_
      generalize act.eval = ρ at *
      intro hf hc
      go_simp
      exact ⟨relM_quiet (by decide) (Only.refl _ _), rfl⟩
    · intro act wx h
      obtain ⟨v23, e23, f23⟩ := h.val 6 23 (by kernel_rfl)
      obtain rfl : v23 = .slice (some ⟨b, off, none⟩) 240 cap := f23
      have hrel := h.rel
      clear h
      refine gives_by rfl act.eval rfl ?_
      generalize act.eval = ρ at *
      intro hf hc
      go_simp
      exact ⟨relM_quiet (by decide) (Only.refl _ _), rfl⟩
    · intro act wx h
      obtain ⟨v24, e24, f24⟩ := h.val 7 24 (by kernel_rfl)
      obtain rfl : v24 = .pointer (some ⟨b, off + 1, none⟩) := f24
      have hrel := h.rel
      clear h
      have cx := HC1.out wx hrel
      refine gives_by rfl act.eval rfl ?_
      generalize act.eval = ρ at *
      intro hf hc
      go_simp
      exact ⟨relM_quiet (by decide) (Only.refl _ _), rfl⟩
    · intro act wx h
      obtain ⟨v25, e25, f25⟩ := h.val 8 25 (by kernel_rfl)
      obtain rfl : v25 = .int .u8 (A1 : Int) := f25
      have hrel := h.rel
      clear h
      refine gives_by rfl act.eval rfl ?_
      generalize act.eval = ρ at *
      intro hf hc
      go_simp
      exact ⟨relM_quiet (by decide) (Only.refl _ _), rfl⟩
    · intro act wx h
      obtain ⟨v22, e22, f22⟩ := h.val 5 22 (by kernel_rfl)
      obtain rfl : v22 = .int .i64 (A0 * 256 : Int) := f22
      obtain ⟨v26, e26, f26⟩ := h.val 9 26 (by kernel_rfl)
      obtain rfl : v26 = .int .i64 (A1 : Int) := f26
      have hrel := h.rel
      clear h
      refine gives_by rfl act.eval rfl ?_
      generalize act.eval = ρ at *
      intro hf hc
      go_simp
      exact ⟨relM_quiet (by decide) (Only.refl _ _), rfl⟩
    · intro act wx h
      obtain ⟨v17, e17, f17⟩ := h.val 0 17 (by kernel_rfl)
      obtain rfl : v17 = .int .u64 (e : Int) := f17
      obtain ⟨v27, e27, f27⟩ := h.val 10 27 (by kernel_rfl)
      obtain rfl : v27 = .int .i64 (P : Int) := f27
      have hrel := h.rel
      clear h
      refine gives_by rfl act.eval rfl ?_
      generalize act.eval = ρ at *
      intro hf hc
      go_simp
      exact ⟨relM_quiet (by decide) (Only.refl _ _), rfl⟩
    · intro act wx h
      have hrel := h.rel
      clear h
      refine gives_by rfl act.eval rfl ?_
      generalize act.eval = ρ at *
      intro hf hc
      go_simp
      exact ⟨relM_quiet (by decide) ((Only.refl _ wx).alloc _), _, rfl, hrel.size, Blk.new wx _ [.int .u64 0, .int .i64 0, .slice none 0 0, .slice none 0 0]⟩
  · intro oL hoL vals w3 ho3 hv
    simp only [List.getElem?_toArray, List.getElem?_cons_succ, List.getElem?_cons_zero, Option.some.injEq] at hoL
    subst hoL
    have hv11 : vals 11 = .agg #[.int .u64 (e : Int), .int .i64 P, .slice none 0 0, .slice none 0 0] := hv 11 28 (by decide) (by kernel_rfl)
    have hG : isGH W1.heap.size (vals 12) w3 := hv 12 6 (by decide) (by kernel_rfl)
    clear hv
    generalize hact : putAll _ vals 0 _ = act
    obtain ⟨H, hv12, hB, hbk⟩ := hG
    have hHH : w.heap.size < H := by have := HN.out.2.lt; omega
    have st3 := HN.out.only ho3 (fun k hk => hk.elim)
    have hth := hbk.there 0 4 (by simp)
    have hb4 := store_head (x0 := .int .u64 (e : Int)) (x1 := .int .i64 P) (x2 := .slice none 0 0) (x3 := .slice none 0 0) hbk
    have on4 := Only.setCells H [.int .u64 (e : Int), .int .i64 P, .slice none 0 0, .slice none 0 0] 0 w3 (S := fun k => k = H) (Only.refl _ w3) (fun _ => rfl)
    obtain ⟨W3, hW3⟩ : ∃ W, W = w3.setCells H 0 [.int .u64 (e : Int), .int .i64 P, .slice none 0 0, .slice none 0 0] := ⟨_, rfl⟩
    rw [← hW3] at hb4 on4
    have HGS : Hid (Gs w H e P none 0 0 [] W3) := ⟨st3.only on4 (fun k hk => by omega), hHH, hb4, own_nil _ _ _⟩
    clear hB hbk st3 hb4 on4 ho3 HN HBX HC0 HC1
    subst hact
    simp only [List.dropLast, putAll, Act.put, List.setIfInBounds_toArray, List.set_cons_zero, List.set_cons_succ, hv11, hv12, Nat.zero_add, Nat.reduceAdd]
    refine gives_of_skip (w' := W3) rfl (by rw [hW3]; exact exec_store_mid 26 (.tmp 6) (.tmp 28) rfl H 0 #[.int .u64 (e : Int), .int .i64 P, .slice none 0 0, .slice none 0 0] rfl rfl hth sizeHead (by simp [Value.oneCell'])) ?_
    clear hv11 hv12 hth hW3
    have x2 := HZC.out W3 HGS.out.st.1 2 (by omega)
    rw [← HA2.out] at x2
    have hw2 : IntKind.i64.wrap A2 = A2 := IntWalk.i64_in _ (by omega)
    by_cases hn : 2 < A2
    · have HQ := hide (HNC.out hn)
      obtain ⟨⟨d0, d1, d2, d3⟩, k0, k1, k2, k3⟩ := head_cells HGS.out.st.2
      clear HNC
      go_wp2
      (try simp only [Exit.inBlock, Exit.then])
      obtain ⟨s1, s2, s3⟩ := HGS.out.st.store (.int .u64 0) (.int .i64 0) (.slice none 0 0) (.slice none 0 0)
      refine bodyPost_ret (ret_head1 rfl _ _ w.heap.size _ _ _ _ _ rfl rfl s1) rfl ?_
      rw [HQ.out.1, HQ.out.2]; exact GivesH.no 60 s2
    · obtain ⟨n, rfl⟩ : ∃ n : Nat, A2 = n := ⟨A2.toNat, by omega⟩
      have hn' : decide ((2 : Int) < (n : Int)) = false := decide_eq_false hn
      have hn2 : n ≤ 2 := by omega
      clear HNC
      go_wp2
      clear x2 hw2
      go_loopg [8] n (fun g i wr => ∃ (j : Nat) (a : Option Addr) (m c : Nat), g + j = n ∧ i = .int .i64 j ∧ Gs w H e P a m c (rMs zs j) wr)
      case atStart => exact ⟨0, none, 0, 0, by omega, rfl, HGS.out⟩
      case round =>
        obtain ⟨j, a, m, c, hj, rfl, hgs⟩ := hrel
        clear HGS
        have HGS := hide hgs
        clear hgs
        cases gk with
        | zero =>
          obtain rfl : j = n := by omega
          obtain ⟨T, hT⟩ : ∃ T, T = 2 * j := ⟨_, rfl⟩
          obtain ⟨Q, hQ⟩ : ∃ Q, Q = 3 + T := ⟨_, rfl⟩
          have hTi : (2 : Int) * (j : Int) = (T : Int) := by omega
          have hQi : (3 : Int) + (T : Int) = (Q : Int) := by omega
          have hQ240 : (Q : Int) < 240 := by omega
          have hkb := HOK.out.get Q
          have xq := HZC.out wr HGS.out.st.1 Q (by omega)
          have HNT := hide (no_txt (e := e) HA2.out.symm)
          have HNR := hide (fun k => no_rest (e := e) (k := k) HA2.out.symm)
          rw [show 3 + 2 * j = Q by omega] at HNT HNR
          obtain ⟨K, hK⟩ : ∃ K, K = zs.getD Q 0 := ⟨_, rfl⟩
          rw [← hK] at hkb xq HNT HNR
          have hwK : IntKind.i64.wrap K = K := IntWalk.i64_in _ (by omega)
          have hwT : IntKind.i64.wrap (T : Int) = (T : Int) := IntWalk.i64_in _ (by omega)
          have hwQ : IntKind.i64.wrap (Q : Int) = (Q : Int) := IntWalk.i64_in _ (by omega)
          have HQT : Hid (Q = 3 + 2 * j) := by show Q = _; omega
          clear hK hQ hT
          by_cases hk : 32 < K
          · have HQ := hide (HNT.out hk)
            obtain ⟨⟨d0, d1, d2, d3⟩, k0, k1, k2, k3⟩ := head_cells HGS.out.st.2
            clear HNT HNR
            go_wp2
            (try simp only [Exit.inBlock, Exit.then])
            obtain ⟨s1, s2, s3⟩ := HGS.out.st.store (.int .u64 0) (.int .i64 0) (.slice none 0 0) (.slice none 0 0)
            refine bodyPost_ret (ret_head1 rfl _ _ w.heap.size _ _ _ _ _ rfl rfl s1) rfl ?_
            rw [HQ.out.1, HQ.out.2]; exact GivesH.no 60 s2
          · obtain ⟨k, rfl⟩ : ∃ k : Nat, K = k := ⟨K.toNat, by omega⟩
            have hk' : decide ((32 : Int) < (k : Int)) = false := decide_eq_false hk
            obtain ⟨Q1, hQ1⟩ : ∃ x, x = Q + 1 := ⟨_, rfl⟩
            obtain ⟨QK, hQK⟩ : ∃ x, x = Q1 + k := ⟨_, rfl⟩
            have hQ1i : (Q : Int) + 1 = (Q1 : Int) := by omega
            have hQKi : (Q1 : Int) + (k : Int) = (QK : Int) := by omega
            have hwQ1 : IntKind.i64.wrap (Q1 : Int) = (Q1 : Int) := IntWalk.i64_in _ (by omega)
            have hwQK : IntKind.i64.wrap (QK : Int) = (QK : Int) := IntWalk.i64_in _ (by omega)
            have hQT := HQT.out
            obtain ⟨a', c', hcut, hcs⟩ := HCUT.out Q1 QK (by omega) (by omega)
            have hUe : (zs.take QK).drop Q1 = rUs zs j k := by unfold rUs; rw [show 4 + 2 * j + k = QK by omega, show 4 + 2 * j = Q1 by omega]
            rw [hUe] at hcut hcs
            have hNR := HNR.out k rfl
            rw [← HP.out] at hNR
            have hYS := fun (h1 : mayB P (rMs zs j) (rUs zs j k).length = true) (h2 : bearS P (rMs zs j) (rUs zs j k) = zs) => get_yes (e := e) h1 h2
            have hUk : (rUs zs j k).length ≤ 240 := by unfold rUs; rw [List.length_drop, List.length_take, HLEN.out]; omega
            have hUok : ByteOk (rUs zs j k) := (HOK.out.take _).drop _
            obtain ⟨XS, hXS⟩ : ∃ x, x = rMs zs j := ⟨_, rfl⟩
            obtain ⟨U, hU⟩ : ∃ x, x = rUs zs j k := ⟨_, rfl⟩
            rw [← hXS] at hNR hYS HGS
            rw [← hU] at hNR hYS hUk hUok hcut hcs
            have HNR2 := hide hNR
            have HYS := hide hYS
            have HCT := hide hcut
            have HCS := hide hcs
            have HSW : Hid (∀ wx, Below w.heap.size w wx → Sl wx (.slice (some ⟨b, off, none⟩) 240 cap) zs) := fun wx hb => HSL.out.below hb
            have HXC : Hid (∀ wx, Only (fun _ => False) wr wx → Below w.heap.size w wx) := fun wx ho => (HGS.out.st.only ho (fun k hk => hk.elim)).1
            have HHC : Hid (∀ wx, Only (fun _ => False) wr wx → Blk wx H 26 [.int .u64 (e : Int), .int .i64 P, .slice a m c, .slice none 0 0]) := fun wx ho => HGS.out.blk.only ho (fun hk => hk)
            clear hNR hYS hcut hcs hXS hU hUe HNT HNR hQT hQ1 hQK HCUT HSL
            go_wp2
            clear xq
            refine wp_region_only (fun _ => False) [isV (.pointer (some ⟨H, 3, none⟩)), isV (.slice none 0 0), isV (.slice (some ⟨b, off, none⟩) 240 cap), isV (.int .i64 (Q : Int)), isV (.int .i64 (Q1 : Int)), isV (.int .i64 (Q : Int)), isV (.int .i64 (Q1 : Int)), isV (.int .i64 (k : Int)), isV (.int .i64 (QK : Int)), isV (.slice a' U.length c'), isRow wr.heap.size U, isV (.pointer (some ⟨H, 3, none⟩))] 99 101 12 (by kernel_rfl) (by kernel_rfl) (by kernel_rfl) (by kernel_rfl) rfl ?_ ?_ ?_
            · repeat (first | exact trivial | refine allStL_isV ?_ | refine ⟨stS_isRow _ _, fun _ => stS_isRow _ _, ?_⟩)
            · refine ⟨?_, ?_, ?_, ?_, ?_, ?_, ?_, ?_, ?_, ?_, ?_, ?_, trivial⟩
              · intro act wx h
                have e6 : act.eval (.tmp 6) = .pointer (some ⟨H, 0, none⟩) := h.old 6 (by kernel_rfl)
                have hrel := h.rel
                clear h
                refine gives_by rfl act.eval rfl ?_
                generalize act.eval = ρ at *
                intro hf hc
                go_simp
                exact ⟨relM_quiet (by decide) (Only.refl _ _), rfl⟩
              · intro act wx h
                obtain ⟨v73, e73, f73⟩ := h.val 0 73 (by kernel_rfl)
                obtain rfl : v73 = .pointer (some ⟨H, 3, none⟩) := f73
                have hrel := h.rel
                clear h
                obtain ⟨⟨x0, x1, x2, x3⟩, _⟩ := head_cells (HHC.out wx hrel)
                refine gives_by rfl act.eval rfl ?_
                generalize act.eval = ρ at *
                intro hf hc
                go_simp
                exact ⟨relM_quiet (by decide) (Only.refl _ _), rfl⟩
              · intro act wx h
                have e1 : act.eval (.tmp 1) = .slice (some ⟨b, off, none⟩) 240 cap := h.old 1 (by kernel_rfl)
                have hrel := h.rel
                clear h
                refine gives_by rfl act.eval rfl ?_
                generalize act.eval = ρ at *
                intro hf hc
                go_simp
                exact ⟨relM_quiet (by decide) (Only.refl _ _), rfl⟩
              · intro act wx h
                have e9 : act.eval (.tmp 9) = .int .i64 (Q : Int) := h.old 9 (by kernel_rfl)
                have hrel := h.rel
                clear h
                refine gives_by rfl act.eval rfl ?_
                generalize act.eval = ρ at *
                intro hf hc
                go_simp
                exact ⟨relM_quiet (by decide) (Only.refl _ _), rfl⟩
              · intro act wx h
                obtain ⟨v76, e76, f76⟩ := h.val 3 76 (by kernel_rfl)
                obtain rfl : v76 = .int .i64 (Q : Int) := f76
                have hrel := h.rel
                clear h
                refine gives_by rfl act.eval rfl ?_
                generalize act.eval = ρ at *
                intro hf hc
                go_simp
                exact ⟨relM_quiet (by decide) (Only.refl _ _), rfl⟩
              · intro act wx h
                have e9 : act.eval (.tmp 9) = .int .i64 (Q : Int) := h.old 9 (by kernel_rfl)
                have hrel := h.rel
                clear h
                refine gives_by rfl act.eval rfl ?_
                generalize act.eval = ρ at *
                intro hf hc
                go_simp
                exact ⟨relM_quiet (by decide) (Only.refl _ _), rfl⟩
              · intro act wx h
                obtain ⟨v78, e78, f78⟩ := h.val 5 78 (by kernel_rfl)
                obtain rfl : v78 = .int .i64 (Q : Int) := f78
                have hrel := h.rel
                clear h
                refine gives_by rfl act.eval rfl ?_
                generalize act.eval = ρ at *
                intro hf hc
                go_simp
                exact ⟨relM_quiet (by decide) (Only.refl _ _), rfl⟩
              · intro act wx h
                have e10 : act.eval (.tmp 10) = .int .i64 (k : Int) := h.old 10 (by kernel_rfl)
                have hrel := h.rel
                clear h
                refine gives_by rfl act.eval rfl ?_
                generalize act.eval = ρ at *
                intro hf hc
                go_simp
                exact ⟨relM_quiet (by decide) (Only.refl _ _), rfl⟩
              · intro act wx h
                obtain ⟨v79, e79, f79⟩ := h.val 6 79 (by kernel_rfl)
                obtain rfl : v79 = .int .i64 (Q1 : Int) := f79
                obtain ⟨v80, e80, f80⟩ := h.val 7 80 (by kernel_rfl)
                obtain rfl : v80 = .int .i64 (k : Int) := f80
                have hrel := h.rel
                clear h
                refine gives_by rfl act.eval rfl ?_
                generalize act.eval = ρ at *
                intro hf hc
                go_simp
                exact ⟨relM_quiet (by decide) (Only.refl _ _), rfl⟩
              · intro act wx h
                obtain ⟨v75, e75, f75⟩ := h.val 2 75 (by kernel_rfl)
                obtain rfl : v75 = .slice (some ⟨b, off, none⟩) 240 cap := f75
                obtain ⟨v77, e77, f77⟩ := h.val 4 77 (by kernel_rfl)
                obtain rfl : v77 = .int .i64 (Q1 : Int) := f77
                obtain ⟨v81, e81, f81⟩ := h.val 8 81 (by kernel_rfl)
                obtain rfl : v81 = .int .i64 (QK : Int) := f81
                have hrel := h.rel
                clear h
                exact gives_of_run rfl (exec_slice_lh 24 tySl (.tmp 75) (.tmp 77) (.tmp 81) rfl _ _ _ _ e75 e77 e81 (HCT.out wx)) ⟨relM_quiet (by decide) (Only.refl _ _), rfl⟩
              · intro act wx h
                obtain ⟨v74, e74, f74⟩ := h.val 1 74 (by kernel_rfl)
                obtain rfl : v74 = .slice none 0 0 := f74
                obtain ⟨v82, e82, f82⟩ := h.val 9 82 (by kernel_rfl)
                obtain rfl : v82 = .slice a' U.length c' := f82
                have hrel := h.rel
                clear h
                obtain ⟨v', w', r9, o9, g9, _⟩ := append_keep wx wr.heap.size none 0 0 [] U (own_nil _ _ _) a' U.length c' (HCS.out wx (HSW.out wx (HXC.out wx hrel))) (by simp; omega) hrel.size
                obtain ⟨a9, c9, rfl⟩ := own_slice o9
                exact gives_of_run rfl (exec_append (.tmp 74) (.tmp 82) 24 rfl _ _ e74 e82 _ r9) ⟨relM_quiet (by decide) ((Only.refl _ wx).grown g9 (fun k hk _ => by cases hk)), a9, _, c9, rfl, o9⟩
              · intro act wx h
                have e6 : act.eval (.tmp 6) = .pointer (some ⟨H, 0, none⟩) := h.old 6 (by kernel_rfl)
                have hrel := h.rel
                clear h
                refine gives_by rfl act.eval rfl ?_
                generalize act.eval = ρ at *
                intro hf hc
                go_simp
                exact ⟨relM_quiet (by decide) (Only.refl _ _), rfl⟩
            · intro oL hoL vals w6 ho6 hv
              simp only [List.getElem?_toArray, List.getElem?_cons_succ, List.getElem?_cons_zero, Option.some.injEq] at hoL
              subst hoL
              generalize hact : putAll _ vals 0 _ = act
              obtain ⟨a6, n6, c6, hv10, O6⟩ : isRow wr.heap.size U (vals 10) w6 := hv 10 83 (by decide) (by kernel_rfl)
              have hv11 : vals 11 = .pointer (some ⟨H, 3, none⟩) := hv 11 84 (by decide) (by kernel_rfl)
              clear hv
              obtain ⟨rfl, rfl, hus⟩ := HGS.out.done he ho6 O6 hUok
              obtain ⟨⟨c0, c1, c2, c3⟩, f0, f1, f2, f3⟩ := head_cells (HHC.out w6 ho6)
              obtain ⟨W7, hW7⟩ : ∃ W, W = w6.setCell ⟨H, 3, none⟩ (.slice a6 U.length c6) := ⟨_, rfl⟩
              rw [← hW7] at hus
              have HUS := hide hus
              have HW7 := hide hW7
              clear O6 ho6 hus hW7 HHC HXC HCT HCS
              subst hact
              simp only [List.dropLast, putAll, Act.put, List.setIfInBounds_toArray, List.set_cons_zero, List.set_cons_succ, hv10, hv11, Nat.zero_add, Nat.reduceAdd]
              clear hv10 hv11
              refine gives_by rfl _ rfl ?_
              intro hf hc
              go_simp
              simp only [gUpon]
              rw [← HW7.out]
              clear c0 c1 c2 c3 f0 f1 f2 f3 HW7 HGS
              obtain ⟨c0, c1, c2, c3⟩ := box_cells HUS.out.blk
              simp only at c0 c1 c2 c3
              cases hm : mayB P XS U.length with
              | false =>
                have HQ := hide (HNR2.out (fun h => by rw [hm] at h; cases h.1))
                obtain ⟨ma9, mc9, ua9, uc9, hh9, hI9, hS9, _⟩ := HUS.out.val
                simp only [hdV, Value.agg.injEq, Array.mk.injEq, List.cons.injEq, Value.slice.injEq, and_true, true_and] at hh9
                obtain ⟨⟨rfl, rfl⟩, rfl, rfl⟩ := hh9
                have HPU := hide (refPutH_bad W7 e P a a6 c U.length c6 XS hI9 hm)
                unfold hdV at HPU
                clear HNR2 HYS hI9 hS9
                go_wp2_with (go_at_call 12; refine HPU.out.mono ?_; rintro e1 w8 ⟨rfl, hb8⟩; have hs8 := (HUS.out.below hb8).st; obtain ⟨⟨d0, d1, d2, d3⟩, k0, k1, k2, k3⟩ := head_cells hs8.2; have HS8 := hide hs8; clear HPU hb8 hs8)
                (try simp only [Exit.inBlock, Exit.then])
                obtain ⟨s1, s2, s3⟩ := HS8.out.store (.int .u64 0) (.int .i64 0) (.slice none 0 0) (.slice none 0 0)
                refine bodyPost_ret (ret_head1 rfl _ _ w.heap.size _ _ _ _ _ rfl rfl s1) rfl ?_
                rw [HQ.out.1, HQ.out.2]; exact GivesH.no 60 s2
              | true =>
                have HPU := hide (refPutH_ok W7 _ _ HUS.out.val.val hm)
                unfold hdV at HPU
                simp only at HPU
                have hbok := bearS_ok hm hUok
                have HINJ := hide (strOfNums_inj hbok HOK.out)
                obtain ⟨D, hD⟩ : ∃ D, D = bearS P XS U := ⟨_, rfl⟩
                rw [← hD] at HPU hbok HINJ HYS HNR2
                obtain ⟨sx, hsx⟩ : ∃ s, s = strOfNums D := ⟨_, rfl⟩
                obtain ⟨sy, hsy⟩ : ∃ s, s = strOfNums zs := ⟨_, rfl⟩
                have HSX := hide hsx
                have HSY := hide hsy
                rw [← hsx, ← hsy] at HINJ
                have HBO := hide hbok
                have HMM := hide hm
                clear hbok hD hsx hsy hm
                by_cases hz : sx = sy
                · have HQ := hide (HYS.out HMM.out (HINJ.out.1 hz))
                  subst hz
                  clear HNR2 HYS
                  go_wp2_with (go_at_call 12; refine HPU.out.mono ?_; rintro e1 w8 ⟨a8, n8, c8, rfl, o8, hb8⟩; have hu8 := HUS.out.below hb8; have hs8 := hu8.st; clear c0 c1 c2 c3; obtain ⟨c0, c1, c2, c3⟩ := box_cells hu8.blk; simp only at c0 c1 c2 c3; obtain ⟨⟨d0, d1, d2, d3⟩, k0, k1, k2, k3⟩ := head_cells hs8.2; have r1 : (convert 24 9 (.slice a8 n8 c8)).run Tryd.prog w8 = .ok (.string sx) w8 := (by rw [HSX.out]; exact run_convert_sl _ 24 5 9 Tryd.underlying24 Tryd.underlying5 Tryd.underlying9 _ D (sl_of_own_len o8 HBO.out)); have r2 : (convert 24 9 (.slice (some ⟨b, off, none⟩) 240 cap)).run Tryd.prog w8 = .ok (.string sx) w8 := (by rw [HSY.out]; exact run_convert_sl _ 24 5 9 Tryd.underlying24 Tryd.underlying5 Tryd.underlying9 _ zs (HSW.out w8 hs8.1)); have HU8 := hide hu8; clear HPU hb8 hs8 hu8 o8 HUS)
                  (try simp only [Exit.inBlock, Exit.then])
                  obtain ⟨s1, s2, s3⟩ := HU8.out.done
                  simp only at s1 s2 s3
                  refine bodyPost_ret (ret_head1 rfl _ _ w.heap.size _ _ _ _ _ rfl rfl s1) rfl ?_
                  rw [HQ.out.1, HQ.out.2]
                  refine ⟨a, c, a6, c6, ?_, ?_, s3⟩
                  · rfl
                  · exact s2
                · have HQ := hide (HNR2.out (fun h => hz (HINJ.out.2 h.2)))
                  have hne' : (sx.toList == sy.toList) = false := by
                    rw [Bool.eq_false_iff]; intro hh; exact hz ((toList_same _ _).1 (by simpa using hh))
                  have hne2 : (sx.toList != sy.toList) = true := by rw [bne, hne']; rfl
                  clear HNR2 HYS
                  go_wp2_with (go_at_call 12; refine HPU.out.mono ?_; rintro e1 w8 ⟨a8, n8, c8, rfl, o8, hb8⟩; have hs8 := (HUS.out.below hb8).st; obtain ⟨⟨d0, d1, d2, d3⟩, k0, k1, k2, k3⟩ := head_cells hs8.2; have r1 : (convert 24 9 (.slice a8 n8 c8)).run Tryd.prog w8 = .ok (.string sx) w8 := (by rw [HSX.out]; exact run_convert_sl _ 24 5 9 Tryd.underlying24 Tryd.underlying5 Tryd.underlying9 _ D (sl_of_own_len o8 HBO.out)); have r2 : (convert 24 9 (.slice (some ⟨b, off, none⟩) 240 cap)).run Tryd.prog w8 = .ok (.string sy) w8 := (by rw [HSY.out]; exact run_convert_sl _ 24 5 9 Tryd.underlying24 Tryd.underlying5 Tryd.underlying9 _ zs (HSW.out w8 hs8.1)); have HS8 := hide hs8; clear HPU hb8 hs8 o8 HUS)
                  (try simp only [Exit.inBlock, Exit.then])
                  obtain ⟨s1, s2, s3⟩ := HS8.out.store (.int .u64 0) (.int .i64 0) (.slice none 0 0) (.slice none 0 0)
                  refine bodyPost_ret (ret_head1 rfl _ _ w.heap.size _ _ _ _ _ rfl rfl s1) rfl ?_
                  rw [HQ.out.1, HQ.out.2]; exact GivesH.no 60 s2
        | succ g =>
          have hjn : (j : Int) < (n : Int) := by omega
          obtain ⟨T, hT⟩ : ∃ T, T = 2 * j := ⟨_, rfl⟩
          obtain ⟨Q, hQ⟩ : ∃ Q, Q = 3 + T := ⟨_, rfl⟩
          obtain ⟨Q1, hQ1⟩ : ∃ Q, Q = 4 + T := ⟨_, rfl⟩
          have hTi : (2 : Int) * (j : Int) = (T : Int) := by omega
          have hQi : (3 : Int) + (T : Int) = (Q : Int) := by omega
          have hQ1i : (4 : Int) + (T : Int) = (Q1 : Int) := by omega
          have hQ240 : (Q : Int) < 240 := by omega
          have hQ1240 : (Q1 : Int) < 240 := by omega
          have hxb := HOK.out.get Q
          have hyb := HOK.out.get Q1
          obtain ⟨X, hX⟩ : ∃ X, X = zs.getD Q 0 := ⟨_, rfl⟩
          obtain ⟨Y, hY⟩ : ∃ X, X = zs.getD Q1 0 := ⟨_, rfl⟩
          obtain ⟨Z, hZ⟩ : ∃ Z, Z = X * 256 + Y := ⟨_, rfl⟩
          have HNX : Hid (rMs zs (j + 1) = rMs zs j ++ [Z]) := by
            show rMs zs (j + 1) = _
            rw [rMs, hZ, hX, hY, rNum, show 3 + 2 * j = Q by omega, show Q + 1 = Q1 by omega]
          rw [← hX] at hxb
          rw [← hY] at hyb
          have HOS : Hid (∀ wx, Only (fun k => (Value.slice a m c).ownBlock = some k) wr wx → Below w.heap.size w wx) := fun wx ho => (HGS.out.st.only ho (fun k hk => by have := (own_lt HGS.out.own k hk).1; omega)).1
          have HXQ : Hid (∀ wx, Only (fun k => (Value.slice a m c).ownBlock = some k) wr wx → wx.cell? ⟨b, off + Q, none⟩ = some (.int .u8 X)) := fun wx ho => by
            have := HZC.out wx (HOS.out wx ho) Q (by omega)
            rwa [← hX] at this
          have HYQ : Hid (∀ wx, Only (fun k => (Value.slice a m c).ownBlock = some k) wr wx → wx.cell? ⟨b, off + Q1, none⟩ = some (.int .u8 Y)) := fun wx ho => by
            have := HZC.out wx (HOS.out wx ho) Q1 (by omega)
            rwa [← hY] at this
          have hZi : X * 256 + Y = Z := hZ.symm
          have hwX : IntKind.i64.wrap X = X := IntWalk.i64_in _ (by omega)
          have hwY : IntKind.i64.wrap Y = Y := IntWalk.i64_in _ (by omega)
          have hwXM : IntKind.i64.wrap (X * 256) = X * 256 := IntWalk.i64_in _ (by omega)
          have hwZ : IntKind.i64.wrap Z = Z := IntWalk.i64_in _ (by omega)
          have hwT : IntKind.i64.wrap (T : Int) = (T : Int) := IntWalk.i64_in _ (by omega)
          have hwQ : IntKind.i64.wrap (Q : Int) = (Q : Int) := IntWalk.i64_in _ (by omega)
          have hwQ1 : IntKind.i64.wrap (Q1 : Int) = (Q1 : Int) := IntWalk.i64_in _ (by omega)
          have HCX : Hid (∀ wx, Only (fun k => (Value.slice a m c).ownBlock = some k) wr wx → Blk wx H 26 [.int .u64 (e : Int), .int .i64 P, .slice a m c, .slice none 0 0]) := HGS.out.cells
          have HAP : Hid (∀ wx gx, Only (fun _ => False) wr wx → Blk wx gx 3 [.int .i64 Z] → ∃ v' w', (Builtin.append_ #[23, 23] 23 #[.slice a m c, .slice (some ⟨gx, 0, none⟩) 1 1]).run Tryd.prog wx = .ok v' w' ∧ isInts (w.heap.size + 1) (rMs zs j ++ [Z]) v' w' ∧ Only (fun k => (Value.slice a m c).ownBlock = some k) wx w') := by
            intro wx gx ho hg
            have hsz := ho.size
            have hlt := HGS.out.st.2.lt
            have o2 := ownsRow_only HGS.out.own ho (fun k hk hh => hh)
            obtain ⟨v', w', r1, r2, r3⟩ := run_append_int wx (w.heap.size + 1) a m c (rMs zs j) o2 gx Z hg (by rw [rMs_len]; omega) (by omega)
            obtain ⟨a', c', rfl⟩ := own_slice r2
            exact ⟨_, w', r1, ⟨a', _, c', rfl, r2⟩, only_grown' r3⟩
          have HGL := hide (own_lt HGS.out.own)
          clear hX hY hZ hT hQ hQ1
          go_wp2
          refine wp_region_only (fun k => (Value.slice a m c).ownBlock = some k) [isV (.pointer (some ⟨H, 2, none⟩)), isV (.slice a m c), isV (.slice (some ⟨b, off, none⟩) 240 cap), isV (.int .i64 (j : Int)), isV (.int .i64 (T : Int)), isV (.int .i64 (Q : Int)), isV (.pointer (some ⟨b, off + Q, none⟩)), isV (.int .u8 (X : Int)), isV (.int .i64 (X : Int)), isV (.int .i64 (X * 256 : Int)), isV (.slice (some ⟨b, off, none⟩) 240 cap), isV (.int .i64 (j : Int)), isV (.int .i64 (T : Int)), isV (.int .i64 (Q1 : Int)), isV (.pointer (some ⟨b, off + Q1, none⟩)), isV (.int .u8 (Y : Int)), isV (.int .i64 (Y : Int)), isV (.int .i64 (Z : Int)), isN1 wr.heap.size Z, isInts (w.heap.size + 1) (rMs zs j ++ [Z]), isV (.pointer (some ⟨H, 2, none⟩))] 19 101 21 (by kernel_rfl) (by kernel_rfl) (by kernel_rfl) (by kernel_rfl) rfl ?_ ?_ ?_
          · repeat (first | exact trivial | refine allStL_isV ?_ | refine ⟨fun v w1 w2 ho ⟨g, h1, h2, h3⟩ => ⟨g, h1, h2, h3.only ho (fun hk => hk)⟩, fun _ v w1 w2 ho ⟨g, h1, h2, h3⟩ => ⟨g, h1, h2, h3.only ho (fun hk => by have := (HGL.out g hk).2; omega)⟩, ?_⟩ | refine ⟨fun v w1 w2 ho ⟨x, y, z, h1, h2⟩ => ⟨x, y, z, h1, ownsRow_only h2 ho (fun k hk hh => hh)⟩, fun h => absurd rfl h, ?_⟩)
          · refine ⟨?_, ?_, ?_, ?_, ?_, ?_, ?_, ?_, ?_, ?_, ?_, ?_, ?_, ?_, ?_, ?_, ?_, ?_, ?_, ?_, ?_, trivial⟩
            · intro act wx h
              have e6 : act.eval (.tmp 6) = .pointer (some ⟨H, 0, none⟩) := h.old 6 (by kernel_rfl)
              have hrel := h.rel
              clear h
              refine gives_by rfl act.eval rfl ?_
              generalize act.eval = ρ at *
              intro hf hc
              go_simp
              exact ⟨relM_quiet (by decide) (Only.refl _ _), rfl⟩
            · intro act wx h
              obtain ⟨v41, e41, f41⟩ := h.val 0 41 (by kernel_rfl)
              obtain rfl : v41 = .pointer (some ⟨H, 2, none⟩) := f41
              have hrel := h.rel
              clear h
              obtain ⟨⟨x0, x1, x2, x3⟩, _⟩ := head_cells (HCX.out wx hrel)
              refine gives_by rfl act.eval rfl ?_
              generalize act.eval = ρ at *
              intro hf hc
              go_simp
              exact ⟨relM_quiet (by decide) (Only.refl _ _), rfl⟩
            · intro act wx h
              have e1 : act.eval (.tmp 1) = .slice (some ⟨b, off, none⟩) 240 cap := h.old 1 (by kernel_rfl)
              have hrel := h.rel
              clear h
              refine gives_by rfl act.eval rfl ?_
              generalize act.eval = ρ at *
              intro hf hc
              go_simp
              exact ⟨relM_quiet (by decide) (Only.refl _ _), rfl⟩
            · intro act wx h
              have e8 : act.eval (.tmp 8) = .int .i64 (j : Int) := h.old 8 (by kernel_rfl)
              have hrel := h.rel
              clear h
              refine gives_by rfl act.eval rfl ?_
              generalize act.eval = ρ at *
              intro hf hc
              go_simp
              exact ⟨relM_quiet (by decide) (Only.refl _ _), rfl⟩
            · intro act wx h
              obtain ⟨v44, e44, f44⟩ := h.val 3 44 (by kernel_rfl)
              obtain rfl : v44 = .int .i64 (j : Int) := f44
              have hrel := h.rel
              clear h
              refine gives_by rfl act.eval rfl ?_
              generalize act.eval = ρ at *
              intro hf hc
              go_simp
              exact ⟨relM_quiet (by decide) (Only.refl _ _), rfl⟩
            · intro act wx h
              obtain ⟨v45, e45, f45⟩ := h.val 4 45 (by kernel_rfl)
              obtain rfl : v45 = .int .i64 (T : Int) := f45
              have hrel := h.rel
              clear h
              refine gives_by rfl act.eval rfl ?_
              generalize act.eval = ρ at *
              intro hf hc
              go_simp
              exact ⟨relM_quiet (by decide) (Only.refl _ _), rfl⟩
            · intro act wx h
              obtain ⟨v43, e43, f43⟩ := h.val 2 43 (by kernel_rfl)
              obtain rfl : v43 = .slice (some ⟨b, off, none⟩) 240 cap := f43
              obtain ⟨v46, e46, f46⟩ := h.val 5 46 (by kernel_rfl)
              obtain rfl : v46 = .int .i64 (Q : Int) := f46
              have hrel := h.rel
              clear h
              refine gives_by rfl act.eval rfl ?_
              generalize act.eval = ρ at *
              intro hf hc
              go_simp
              exact ⟨relM_quiet (by decide) (Only.refl _ _), rfl⟩
            · intro act wx h
              obtain ⟨v47, e47, f47⟩ := h.val 6 47 (by kernel_rfl)
              obtain rfl : v47 = .pointer (some ⟨b, off + Q, none⟩) := f47
              have hrel := h.rel
              clear h
              have cx := HXQ.out wx hrel
              refine gives_by rfl act.eval rfl ?_
              generalize act.eval = ρ at *
              intro hf hc
              go_simp
              exact ⟨relM_quiet (by decide) (Only.refl _ _), rfl⟩
            · intro act wx h
              obtain ⟨v48, e48, f48⟩ := h.val 7 48 (by kernel_rfl)
              obtain rfl : v48 = .int .u8 (X : Int) := f48
              have hrel := h.rel
              clear h
              refine gives_by rfl act.eval rfl ?_
              generalize act.eval = ρ at *
              intro hf hc
              go_simp
              exact ⟨relM_quiet (by decide) (Only.refl _ _), rfl⟩
            · intro act wx h
              obtain ⟨v49, e49, f49⟩ := h.val 8 49 (by kernel_rfl)
              obtain rfl : v49 = .int .i64 (X : Int) := f49
              have hrel := h.rel
              clear h
              refine gives_by rfl act.eval rfl ?_
              generalize act.eval = ρ at *
              intro hf hc
              go_simp
              exact ⟨relM_quiet (by decide) (Only.refl _ _), rfl⟩
            · intro act wx h
              have e1 : act.eval (.tmp 1) = .slice (some ⟨b, off, none⟩) 240 cap := h.old 1 (by kernel_rfl)
              have hrel := h.rel
              clear h
              refine gives_by rfl act.eval rfl ?_
              generalize act.eval = ρ at *
              intro hf hc
              go_simp
              exact ⟨relM_quiet (by decide) (Only.refl _ _), rfl⟩
            · intro act wx h
              have e8 : act.eval (.tmp 8) = .int .i64 (j : Int) := h.old 8 (by kernel_rfl)
              have hrel := h.rel
              clear h
              refine gives_by rfl act.eval rfl ?_
              generalize act.eval = ρ at *
              intro hf hc
              go_simp
              exact ⟨relM_quiet (by decide) (Only.refl _ _), rfl⟩
            · intro act wx h
              obtain ⟨v52, e52, f52⟩ := h.val 11 52 (by kernel_rfl)
              obtain rfl : v52 = .int .i64 (j : Int) := f52
              have hrel := h.rel
              clear h
              refine gives_by rfl act.eval rfl ?_
              generalize act.eval = ρ at *
              intro hf hc
              go_simp
              exact ⟨relM_quiet (by decide) (Only.refl _ _), rfl⟩
            · intro act wx h
              obtain ⟨v53, e53, f53⟩ := h.val 12 53 (by kernel_rfl)
              obtain rfl : v53 = .int .i64 (T : Int) := f53
              have hrel := h.rel
              clear h
              refine gives_by rfl act.eval rfl ?_
              generalize act.eval = ρ at *
              intro hf hc
              go_simp
              exact ⟨relM_quiet (by decide) (Only.refl _ _), rfl⟩
            · intro act wx h
              obtain ⟨v51, e51, f51⟩ := h.val 10 51 (by kernel_rfl)
              obtain rfl : v51 = .slice (some ⟨b, off, none⟩) 240 cap := f51
              obtain ⟨v54, e54, f54⟩ := h.val 13 54 (by kernel_rfl)
              obtain rfl : v54 = .int .i64 (Q1 : Int) := f54
              have hrel := h.rel
              clear h
              refine gives_by rfl act.eval rfl ?_
              generalize act.eval = ρ at *
              intro hf hc
              go_simp
              exact ⟨relM_quiet (by decide) (Only.refl _ _), rfl⟩
            · intro act wx h
              obtain ⟨v55, e55, f55⟩ := h.val 14 55 (by kernel_rfl)
              obtain rfl : v55 = .pointer (some ⟨b, off + Q1, none⟩) := f55
              have hrel := h.rel
              clear h
              have cx := HYQ.out wx hrel
              refine gives_by rfl act.eval rfl ?_
              generalize act.eval = ρ at *
              intro hf hc
              go_simp
              exact ⟨relM_quiet (by decide) (Only.refl _ _), rfl⟩
            · intro act wx h
              obtain ⟨v56, e56, f56⟩ := h.val 15 56 (by kernel_rfl)
              obtain rfl : v56 = .int .u8 (Y : Int) := f56
              have hrel := h.rel
              clear h
              refine gives_by rfl act.eval rfl ?_
              generalize act.eval = ρ at *
              intro hf hc
              go_simp
              exact ⟨relM_quiet (by decide) (Only.refl _ _), rfl⟩
            · intro act wx h
              obtain ⟨v50, e50, f50⟩ := h.val 9 50 (by kernel_rfl)
              obtain rfl : v50 = .int .i64 (X * 256 : Int) := f50
              obtain ⟨v57, e57, f57⟩ := h.val 16 57 (by kernel_rfl)
              obtain rfl : v57 = .int .i64 (Y : Int) := f57
              have hrel := h.rel
              clear h
              refine gives_by rfl act.eval rfl ?_
              generalize act.eval = ρ at *
              intro hf hc
              go_simp
              exact ⟨relM_quiet (by decide) (Only.refl _ _), rfl⟩
            · intro act wx h
              obtain ⟨v58, e58, f58⟩ := h.val 17 58 (by kernel_rfl)
              obtain rfl : v58 = .int .i64 (Z : Int) := f58
              have hrel := h.rel
              clear h
              refine gives_by rfl act.eval rfl ?_
              generalize act.eval = ρ at *
              intro hf hc
              go_simp
              exact ⟨relM_quiet (by decide) ((Only.refl _ wx).alloc _), wx.heap.size, rfl, hrel.size, Blk.new wx _ [.int .i64 Z]⟩
            · intro act wx h
              obtain ⟨v42, e42, f42⟩ := h.val 1 42 (by kernel_rfl)
              obtain rfl : v42 = .slice a m c := f42
              obtain ⟨v59, e59, f59⟩ := h.val 18 59 (by kernel_rfl)
              obtain ⟨g59, rfl, hg59, hk59⟩ := f59
              have hrel := h.rel
              have hq := h.relq rfl
              clear h
              obtain ⟨v', w', r9, o9, b9⟩ := HAP.out wx g59 hq hk59
              exact gives_of_run rfl (exec_append (.tmp 42) (.tmp 59) 23 rfl _ _ e42 e59 v' r9) ⟨relM_turn b9, o9⟩
            · intro act wx h
              have e6 : act.eval (.tmp 6) = .pointer (some ⟨H, 0, none⟩) := h.old 6 (by kernel_rfl)
              have hrel := h.rel
              clear h
              refine gives_by rfl act.eval rfl ?_
              generalize act.eval = ρ at *
              intro hf hc
              go_simp
              exact ⟨relM_quiet (by decide) (Only.refl _ _), rfl⟩
          · intro oL hoL vals w3 ho3 hv
            simp only [List.getElem?_toArray, List.getElem?_cons_succ, List.getElem?_cons_zero, Option.some.injEq] at hoL
            subst hoL
            generalize hact : putAll _ vals 0 _ = act
            obtain ⟨a', n', c', hv19, O6⟩ : isInts (w.heap.size + 1) (rMs zs j ++ [Z]) (vals 19) w3 := hv 19 60 (by decide) (by kernel_rfl)
            have hv20 : vals 20 = .pointer (some ⟨H, 2, none⟩) := hv 20 61 (by decide) (by kernel_rfl)
            clear hv
            have hgn := HGS.out.next ho3 O6
            rw [← HNX.out] at hgn
            have HGN := hide hgn
            obtain ⟨⟨c0, c1, c2, c3⟩, f0, f1, f2, f3⟩ := head_cells (HCX.out w3 ho3)
            clear O6 ho3 hgn HCX HAP HXQ HYQ HOS
            subst hact
            simp only [List.dropLast, putAll, Act.put, List.setIfInBounds_toArray, List.set_cons_zero, List.set_cons_succ, hv19, hv20, Nat.zero_add, Nat.reduceAdd]
            refine gives_by rfl _ rfl ?_
            intro hf hc
            go_simp
            simp only [gUpon]
            go_wp2
            go_roundg g
            case measure => omega
            case rel => exact ⟨j + 1, a', n', c', by omega, by go_num, HGN.out⟩

end Go.Proofs.YtmeiahmolmneeaaDoor
