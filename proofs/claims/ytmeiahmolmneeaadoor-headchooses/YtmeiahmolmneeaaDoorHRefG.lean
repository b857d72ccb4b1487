/- What the document's answer reads of a page's bytes: which numbers lie where; how far it has read. -/
import Derived.Test.YtmeiahmolmneeaaDoorHRefPut
import Derived.Test.YtmeiahmolmneeaaDoorHGet
namespace Go.Proofs.YtmeiahmolmneeaaDoor
set_option maxRecDepth 20000
open Go.RowKit
set_option linter.unusedVariables false

def rNum (zs : List Int) (i : Nat) : Int := zs.getD i 0 * 256 + zs.getD (i + 1) 0
def rMs (zs : List Int) : Nat → List Int
  | 0 => []
  | n + 1 => rMs zs n ++ [rNum zs (3 + 2 * n)]
def rUs (zs : List Int) (n k : Nat) : List Int := (zs.take (4 + 2 * n + k)).drop (4 + 2 * n)
theorem rMs_len (zs : List Int) : ∀ n, (rMs zs n).length = n
  | 0 => rfl
  | n + 1 => by rw [rMs, List.length_append, rMs_len zs n]; rfl

theorem numB2 (x : Nat) (h : x < 65536) : numBytes x 2 = [((x / 256 : Nat) : Int), ((x % 256 : Nat) : Int)] := by
  simp only [numBytes, List.nil_append, List.cons_append, List.cons.injEq, and_true]
  omega
theorem cut_mid (pre us R : List Int) (n k : Nat) (hn : pre.length = n) (hk : us.length = k) : ((pre ++ (us ++ R)).take (n + k)).drop n = us := by
  subst hn hk
  rw [List.take_append, List.drop_append]
  simp

theorem ref_bear {p : Int} {ms us zs : List Int} (h : mayB p ms us.length = true) (hz : bearS p ms us = zs) : zs.getD 2 0 = (ms.length : Nat) ∧ rNum zs 0 = p ∧ rMs zs ms.length = ms ∧ zs.getD (3 + 2 * ms.length) 0 = (us.length : Nat) ∧ rUs zs ms.length us.length = us := by
  have hp := (mayB_iff.1 h).1
  have hl := may_len h
  have hm := may_each h
  obtain ⟨R, hR⟩ : ∃ R, R = List.replicate (240 - (rawS p ms us).length) (0 : Int) := ⟨_, rfl⟩
  have e0 : bearS p ms us = numBytes p.toNat 2 ++ ([(ms.length : Int)] ++ (numsS ms ++ (txt us ++ R))) := by
    unfold bearS padTo
    rw [← hR, rawS]
    simp only [List.append_assoc]
  clear hR h
  rw [← hz, e0, numB2 p.toNat (by omega)]
  clear hz e0
  match ms, hl, hm with
  | [a], _, hm =>
    have ha := hm a (by simp)
    refine ⟨rfl, ?_, ?_, ?_, ?_⟩
    · simp only [rNum, List.cons_append, List.getD_cons_zero, List.getD_cons_succ]
      omega
    · simp only [numsS, numB2 a.toNat (by omega), rMs, rNum, List.length_cons, List.length_nil, List.cons_append, List.nil_append, List.getD_cons_zero, List.getD_cons_succ, List.cons.injEq, and_true]
      omega
    · simp only [numsS, numB2 a.toNat (by omega), txt]
      rfl
    · simp only [rUs, numsS, numB2 a.toNat (by omega), txt]
      exact cut_mid [((p.toNat / 256 : Nat) : Int), ((p.toNat % 256 : Nat) : Int), 1, ((a.toNat / 256 : Nat) : Int), ((a.toNat % 256 : Nat) : Int), (us.length : Int)] us R _ _ rfl rfl
  | [a, b], _, hm =>
    have ha := hm a (by simp)
    have hb := hm b (by simp)
    refine ⟨rfl, ?_, ?_, ?_, ?_⟩
    · simp only [rNum, List.cons_append, List.getD_cons_zero, List.getD_cons_succ]
      omega
    · simp only [numsS, numB2 a.toNat (by omega), numB2 b.toNat (by omega), rMs, rNum, List.length_cons, List.length_nil, List.cons_append, List.nil_append, List.getD_cons_zero, List.getD_cons_succ, List.cons.injEq, and_true]
      omega
    · simp only [numsS, numB2 a.toNat (by omega), numB2 b.toNat (by omega), txt]
      rfl
    · simp only [rUs, numsS, numB2 a.toNat (by omega), numB2 b.toNat (by omega), txt]
      exact cut_mid [((p.toNat / 256 : Nat) : Int), ((p.toNat % 256 : Nat) : Int), 2, ((a.toNat / 256 : Nat) : Int), ((a.toNat % 256 : Nat) : Int), ((b.toNat / 256 : Nat) : Int), ((b.toNat % 256 : Nat) : Int), (us.length : Int)] us R _ _ rfl rfl

theorem get_yes {e : Nat} {p : Int} {ms us zs : List Int} (h : mayB p ms us.length = true) (hz : bearS p ms us = zs) : getH e zs = ⟨e, p, ms, us⟩ ∧ getE e zs = 0 := by
  rw [← hz]
  exact getH_bear e p ms us h
theorem get_no {e : Nat} {zs : List Int} (h : ∀ p ms us, mayB p ms us.length = true → bearS p ms us ≠ zs) : getH e zs = noHd ∧ getE e zs = 60 := by
  have hb : getB e zs = false := by
    cases hb : getB e zs
    · rfl
    · obtain ⟨p, ms, us, h1, h2⟩ := (getB_iff e zs).1 hb
      exact absurd h2 (h p ms us h1)
  unfold getH getE
  rw [hb]
  exact ⟨rfl, rfl⟩
theorem no_len {e : Nat} {zs : List Int} (h : zs.length ≠ 240) : getH e zs = noHd ∧ getE e zs = 60 := get_no fun p ms us hm hz => h (by rw [← hz]; exact bearS_len hm)
theorem no_cnt {e : Nat} {zs : List Int} (h : 2 < zs.getD 2 0) : getH e zs = noHd ∧ getE e zs = 60 := get_no fun p ms us hm hz => by
  have := (ref_bear hm hz).1
  have := may_len hm
  omega
theorem no_txt {e n : Nat} {zs : List Int} (hn : zs.getD 2 0 = (n : Nat)) (h : 32 < zs.getD (3 + 2 * n) 0) : getH e zs = noHd ∧ getE e zs = 60 := get_no fun p ms us hm hz => by
  obtain ⟨h1, _, _, h4, _⟩ := ref_bear hm hz
  have : n = ms.length := by omega
  subst this
  have := (mayB_iff.1 hm).2.2
  omega
theorem no_rest {e n k : Nat} {zs : List Int} (hn : zs.getD 2 0 = (n : Nat)) (hk : zs.getD (3 + 2 * n) 0 = (k : Nat)) (h : ¬ (mayB (rNum zs 0) (rMs zs n) (rUs zs n k).length = true ∧ bearS (rNum zs 0) (rMs zs n) (rUs zs n k) = zs)) : getH e zs = noHd ∧ getE e zs = 60 := get_no fun p ms us hm hz => by
  obtain ⟨h1, h2, h3, h4, h5⟩ := ref_bear hm hz
  have : n = ms.length := by omega
  subst this
  have : k = us.length := by omega
  subst this
  rw [h2, h3, h5] at h
  exact h ⟨hm, hz⟩

/-- how far a head is read: the result's block, the head's, its maps -/
structure Gs (w : World) (H e : Nat) (p : Int) (a : Option Addr) (n c : Nat) (xs : List Int) (wr : World) : Prop where
  st : Hs w wr
  hH : w.heap.size < H
  blk : Blk wr H 26 [.int .u64 e, .int .i64 p, .slice a n c, .slice none 0 0]
  own : wr.ownsRow (w.heap.size + 1) 3 1 (.slice a n c) xs.length (xs.map (Value.int .i64))
theorem Gs.cells {w wr : World} {H e : Nat} {p : Int} {a : Option Addr} {n c : Nat} {xs : List Int} (h : Gs w H e p a n c xs wr) (wx : World) (ho : Only (fun k => (Value.slice a n c).ownBlock = some k) wr wx) :
    Blk wx H 26 [.int .u64 e, .int .i64 p, .slice a n c, .slice none 0 0] := h.blk.only ho (fun hk => own_ne h.own h.blk (by decide) H hk rfl)
theorem Gs.next {w wr w3 : World} {H e : Nat} {p : Int} {a a' : Option Addr} {n c n' c' : Nat} {xs xs' : List Int} (h : Gs w H e p a n c xs wr)
    (ho : Only (fun k => (Value.slice a n c).ownBlock = some k) wr w3) (hown : w3.ownsRow (w.heap.size + 1) 3 1 (.slice a' n' c') xs'.length (xs'.map (Value.int .i64))) :
    Gs w H e p a' n' c' xs' (w3.setCell ⟨H, 2, none⟩ (.slice a' n' c')) := by
  have hlt := own_lt h.own
  have hHH := h.hH
  have hB3 := h.cells w3 ho
  have hne3 := own_ne hown hB3 (by decide)
  have h3 : Hs w w3 := h.st.only ho (fun k hk => by have := (hlt k hk).1; omega)
  have oS : Only (fun k => k = H) w3 (w3.setCell ⟨H, 2, none⟩ (.slice a' n' c')) := (Only.refl _ w3).setCell ⟨H, 2, none⟩ _ (fun _ => rfl)
  exact ⟨h3.only oS (fun k hk => by omega), h.hH, hB3.set 2 (.slice a' n' c'), ownsRow_only hown oS (fun k hk hh => hne3 k hk hh)⟩

/-- a head that was read whole -/
structure Us (w : World) (H : Nat) (g : Hd) (ma : Option Addr) (mc : Nat) (ua : Option Addr) (uc : Nat) (wr : World) : Prop where
  st : Hs w wr
  hH : w.heap.size < H
  blk : Blk wr H 26 [.int .u64 g.e, .int .i64 g.p, .slice ma g.ms.length mc, .slice ua g.us.length uc]
  val : HdO wr (w.heap.size + 1) (hdV g.e g.p ma g.ms.length mc ua g.us.length uc) g
theorem Us.below {w wr w2 : World} {H : Nat} {g : Hd} {ma : Option Addr} {mc : Nat} {ua : Option Addr} {uc : Nat} (h : Us w H g ma mc ua uc wr) (hb : Below wr.heap.size wr w2) : Us w H g ma mc ua uc w2 :=
  ⟨h.st.below hb, h.hH, h.blk.below hb h.blk.lt, h.val.below hb⟩
theorem Us.done {w wr : World} {H : Nat} {g : Hd} {ma : Option Addr} {mc : Nat} {ua : Option Addr} {uc : Nat} (h : Us w H g ma mc ua uc wr) :
    Blk (laidH wr w.heap.size (.int .u64 g.e) (.int .i64 g.p) (.slice ma g.ms.length mc) (.slice ua g.us.length uc)) w.heap.size 26 [.int .u64 g.e, .int .i64 g.p, .slice ma g.ms.length mc, .slice ua g.us.length uc] ∧
      HdO (laidH wr w.heap.size (.int .u64 g.e) (.int .i64 g.p) (.slice ma g.ms.length mc) (.slice ua g.us.length uc)) (w.heap.size + 1) (hdV g.e g.p ma g.ms.length mc ua g.us.length uc) g ∧ Below w.heap.size w (laidH wr w.heap.size (.int .u64 g.e) (.int .i64 g.p) (.slice ma g.ms.length mc) (.slice ua g.us.length uc)) := by
  obtain ⟨s1, s2, s3⟩ := h.st.store (.int .u64 g.e) (.int .i64 g.p) (.slice ma g.ms.length mc) (.slice ua g.us.length uc)
  exact ⟨s1, h.val.only (laidH_only wr w.heap.size _ _ _ _) (fun k hk => by omega), s2⟩
theorem Gs.done {w wr w3 : World} {H e : Nat} {p : Int} {a ua : Option Addr} {n c un uc : Nat} {xs us : List Int} (h : Gs w H e p a n c xs wr) (he : e < 18446744073709551616) (ho : Only (fun _ => False) wr w3)
    (hu : w3.ownsRow wr.heap.size 5 1 (.slice ua un uc) us.length (us.map (Value.int .u8))) (hok : ByteOk us) : n = xs.length ∧ un = us.length ∧ Us w H ⟨e, p, xs, us⟩ a c ua uc (w3.setCell ⟨H, 3, none⟩ (.slice ua un uc)) := by
  obtain rfl : n = xs.length := own_n h.own
  obtain rfl : un = us.length := own_n hu
  refine ⟨rfl, rfl, ?_⟩
  have hH3 := h.blk.only ho (fun hk => hk)
  have oS : Only (fun k => k = H) w3 (w3.setCell ⟨H, 3, none⟩ (.slice ua us.length uc)) := (Only.refl _ w3).setCell ⟨H, 3, none⟩ _ (fun _ => rfl)
  have hHH := h.hH
  have hHlt := h.blk.lt
  have own3 := ownsRow_only h.own ho (fun _ _ hh => hh)
  have own4 := ownsRow_only own3 oS (fun k hk hh => own_ne own3 hH3 (by decide) k hk hh)
  have u4 := ownsRow_only hu oS (fun k hk hh => by have := (hu.lt k hk).1; omega)
  refine ⟨(h.st.only ho (fun k hk => hk.elim)).only oS (fun k hk => by omega), h.hH, hH3.set 3 _, a, c, ua, uc, rfl, is_of_own own4, sl_of_own_len u4 hok, he, fun k hk => ?_⟩
  have hsz := h.st.2.lt
  rcases hk with hk | hk
  · exact (own_lt h.own k hk).1
  · have := (hu.lt k hk).1; omega

end Go.Proofs.YtmeiahmolmneeaaDoor
