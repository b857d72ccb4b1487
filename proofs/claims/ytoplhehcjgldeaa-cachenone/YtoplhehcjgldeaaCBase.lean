/- A cache: how package cache's struct, map, order of use and slots hold it. -/
import Derived.Test.YtoplhehcjgldeaaCMath
import Derived.Test.YtoplhehcjgldeaaCSl
import Derived.Maps.OwnSet
namespace Go.Proofs.Ytoplhehcjgldeaa
open Go.RowKit
set_option linter.unusedVariables false

/-- what the map's pointers read as: their blocks -/
def slotElem (v : Value) : Option (DataW Unit × List MemPlace) := match v with
  | .pointer (some ⟨s, 0, none⟩) => some (.lit (.int .i64 s), [])
  | .pointer none => some (.lit (.int .i64 (-1)), [])
  | _ => none
theorem slotElem_mk (s : Nat) : slotElem (dp s) = some (.lit (.int .i64 s), []) := rfl
theorem slotElem_nil : slotElem (.pointer none) = some (.lit (.int .i64 (-1)), []) := rfl
theorem slotElem_inv {v : Value} {s : Nat} {ps : List MemPlace} (h : slotElem v = some (.lit (.int .i64 s), ps)) : v = dp s := by
  unfold slotElem at h
  split at h
  · simp at h
    obtain ⟨h, _⟩ := h
    rw [Int.ofNat_inj.1 h]
  · simp at h
  · cases h
theorem slotElem_nil_inv {v : Value} {ps : List MemPlace} (h : slotElem v = some (.lit (.int .i64 (-1)), ps)) : v = .pointer none := by
  unfold slotElem at h
  split at h
  · rename_i s
    simp at h
  · rfl
  · cases h

/-- the cells of a slot -/
def sc (h : Hd) : List Value := pc h.bs ++ [.bool h.ch, .int .i64 h.pins]
theorem sc_len {h : Hd} (hp : PageOk h.bs) : (sc h).length = 258 := by simp [sc, pc_len, hp.1]
theorem sc_ch {h : Hd} (hp : PageOk h.bs) : (sc h)[256]? = some (.bool h.ch) := by
  unfold sc
  rw [List.getElem?_append_right (by rw [pc_len, hp.1]; omega), pc_len, hp.1]; rfl
theorem sc_pins {h : Hd} (hp : PageOk h.bs) : (sc h)[257]? = some (.int .i64 h.pins) := by
  unfold sc
  rw [List.getElem?_append_right (by rw [pc_len, hp.1]; omega), pc_len, hp.1]; rfl
theorem sc_set_ch {h : Hd} (hp : PageOk h.bs) (x : Bool) : (sc h).set 256 (.bool x) = sc { h with ch := x } := by
  unfold sc
  rw [List.set_append_right _ _ (by rw [pc_len, hp.1]; omega), pc_len, hp.1]; rfl
theorem sc_set_pins {h : Hd} (hp : PageOk h.bs) (x : Nat) : (sc h).set 257 (.int .i64 x) = sc { h with pins := x } := by
  unfold sc
  rw [List.set_append_right _ _ (by rw [pc_len, hp.1]; omega), pc_len, hp.1]; rfl
theorem sc_splice {h : Hd} (hp : PageOk h.bs) (zs : List Int) (hz : zs.length = 256) : splice (sc h) 0 (pc zs) = sc { h with bs := zs } := by
  unfold splice sc
  have : (pc h.bs).length = 256 := by rw [pc_len]; exact hp.1
  rw [List.take_zero, List.nil_append, Nat.zero_add, pc_len, hz, List.drop_append_of_le_length (by omega), List.drop_of_length_le (by omega)]
  rfl

/-- the map, and the slots it leads to: the pages of l, in whatever order -/
structure Slots (w : World) (H : Nat → Prop) (mb : Nat) (D : DataW Unit) (sl : Nat → Nat) (l : List Hd) : Prop where
  map : w.ownsMap Try.prog 3 slotElem mb l.length D
  has : ∀ p : Int, Maps.has D (.int .i64 p) = (findC l p).isSome
  att : ∀ h ∈ l, D.atKey (.int .i64 h.p) (.lit (.int .i64 (-1))) = .lit (.int .i64 (sl h.p))
  len : Maps.size D = l.length
  slot : ∀ h ∈ l, Blk w (sl h.p) 68 (sc h)
  inj : ∀ x ∈ l, ∀ y ∈ l, sl x.p = sl y.p → x.p = y.p
  nodup : (l.map (·.p)).Nodup
  ok : ∀ h ∈ l, h.p < 1000000 ∧ PageOk h.bs
  few : l.length ≤ 1000000
  fm : H mb
  fs : ∀ h ∈ l, H (sl h.p)

def CacheB (w : World) (c b mb : Nat) (size : Nat) (vo : Value) (hits misses : Nat) : Prop := Blk w c 53 [dp b, .int .i64 size, .map (some mb), vo, .int .i64 hits, .int .i64 misses]
structure CachAt (w : World) (c b : Nat) (H : Nat → Prop) (size : Nat) (os : List Int) (l : List Hd) (hits misses : Nat) (mb : Nat) (vo : Value) (D : DataW Unit) (sl : Nat → Nat) : Prop where
  blk : CacheB w c b mb size vo hits misses
  order : Ints w 0 vo os
  slots : Slots w H mb D sl l
  fc : H c
  fo : ∀ k, vo.ownBlock = some k → H k
  few : os.length ≤ 1000
def CachH (w : World) (c b : Nat) (H : Nat → Prop) (size : Nat) (os : List Int) (l : List Hd) (hits misses : Nat) : Prop := ∃ mb vo D sl, CachAt w c b H size os l hits misses mb vo D sl

/-! ### they stay -/
section
variable {w w' : World} {S H H' : Nat → Prop} {c b mb : Nat} {D : DataW Unit} {sl : Nat → Nat} {l : List Hd} {size hits misses : Nat} {os : List Int} {vo : Value}
theorem Slots.keep (h : Slots w H mb D sl l) (ho : Only S w w') (hn : ∀ k, H k → ¬ S k) : Slots w' H mb D sl l :=
  ⟨ownsMap_only h.map ho (hn _ h.fm), h.has, h.att, h.len, fun x hx => (h.slot x hx).only ho (hn _ (h.fs x hx)), h.inj, h.nodup, h.ok, h.few, h.fm, h.fs⟩
theorem Slots.mono (h : Slots w H mb D sl l) (hH : ∀ k, k < w.heap.size → H k → H' k) : Slots w H' mb D sl l :=
  ⟨h.map, h.has, h.att, h.len, h.slot, h.inj, h.nodup, h.ok, h.few, hH _ h.map.lt h.fm, fun x hx => hH _ (h.slot x hx).lt (h.fs x hx)⟩
/-- the same pages, listed otherwise -/
theorem Slots.relist {l' : List Hd} (h : Slots w H mb D sl l) (hm : ∀ x, x ∈ l' ↔ x ∈ l) (hl : l'.length = l.length) (hn : (l'.map (·.p)).Nodup) : Slots w H mb D sl l' := by
  refine ⟨hl ▸ h.map, fun p => ?_, fun x hx => h.att x ((hm x).1 hx), hl ▸ h.len, fun x hx => h.slot x ((hm x).1 hx), fun x hx y hy => h.inj x ((hm x).1 hx) y ((hm y).1 hy), hn, fun x hx => h.ok x ((hm x).1 hx), hl ▸ h.few, h.fm, fun x hx => h.fs x ((hm x).1 hx)⟩
  rw [h.has p]
  cases e : findC l p with
  | none =>
    have : findC l' p = none := by
      apply List.find?_eq_none.2
      intro x hx
      simpa using findC_none e x ((hm x).1 hx)
    rw [this]
  | some x =>
    obtain ⟨h1, rfl⟩ := findC_some e
    rw [findC_mem hn ((hm x).2 h1)]
theorem Slots.sl_ne (h : Slots w H mb D sl l) {x : Hd} (hx : x ∈ l) : sl x.p ≠ mb := by
  rintro e
  have h1 := h.slot x hx
  obtain ⟨es, clock, hb, _⟩ := h.map
  rw [e] at h1
  have := (show w.heap[mb]? = _ from h1).symm.trans hb
  simp at this
theorem Slots.blk_ne (h : Slots w H mb D sl l) {x : Hd} (hx : x ∈ l) {k : Nat} {e : TypeId} {cs : List Value} (hB : Blk w k e cs) (he : e ≠ 68) : sl x.p ≠ k := fun hk => Blk.ne hB (h.slot x hx) he hk.symm
theorem Slots.mb_ne (h : Slots w H mb D sl l) {k : Nat} {e : TypeId} {cs : List Value} (hB : Blk w k e cs) : mb ≠ k := by
  rintro rfl
  obtain ⟨es, clock, hb, _⟩ := h.map
  have := (show w.heap[mb]? = _ from hB).symm.trans hb
  simp at this
theorem CachAt.keep (h : CachAt w c b H size os l hits misses mb vo D sl) (ho : Only S w w') (hn : ∀ k, H k → ¬ S k) : CachAt w' c b H size os l hits misses mb vo D sl :=
  ⟨Blk.only h.blk ho (hn _ h.fc), h.order.only ho (fun k hk => hn k (h.fo k hk)), h.slots.keep ho hn, h.fc, h.fo, h.few⟩
theorem CachAt.mono (h : CachAt w c b H size os l hits misses mb vo D sl) (hH : ∀ k, k < w.heap.size → H k → H' k) : CachAt w c b H' size os l hits misses mb vo D sl :=
  ⟨h.blk, h.order, h.slots.mono hH, hH _ (Blk.lt h.blk) h.fc, fun k hk => hH k (h.order.lt k hk).2 (h.fo k hk), h.few⟩
theorem CachH.keep (h : CachH w c b H size os l hits misses) (ho : Only S w w') (hn : ∀ k, H k → ¬ S k) : CachH w' c b H size os l hits misses := by
  obtain ⟨mb, vo, D, sl, h⟩ := h
  exact ⟨mb, vo, D, sl, h.keep ho hn⟩
theorem CachH.mono (h : CachH w c b H size os l hits misses) (hH : ∀ k, k < w.heap.size → H k → H' k) : CachH w c b H' size os l hits misses := by
  obtain ⟨mb, vo, D, sl, h⟩ := h
  exact ⟨mb, vo, D, sl, h.mono hH⟩
theorem CachH.bound (h : CachH w c b H size os l hits misses) : CachH w c b (fun k => H k ∧ k < w.heap.size) size os l hits misses := h.mono (fun k hk hf => ⟨hf, hk⟩)
theorem CachH.more (h : CachH w c b H size os l hits misses) (n : Nat) : CachH w c b (fun k => H k ∨ n ≤ k) size os l hits misses := h.mono (fun k hk hf => .inl hf)

theorem CachAt.order_ne (h : CachAt w c b H size os l hits misses mb vo D sl) (k : Nat) (hk : vo.ownBlock = some k) : k ≠ c ∧ k ≠ mb ∧ ∀ x ∈ l, k ≠ sl x.p := by
  rcases h.order.form with ⟨rfl, _⟩ | ⟨g, cap, sp, rfl, _, _, _, hB, _⟩
  · simp [Value.ownBlock] at hk
  · simp [Value.ownBlock] at hk
    subst hk
    exact ⟨Blk.ne hB h.blk (by decide), fun e => h.slots.mb_ne hB e.symm, fun x hx e => h.slots.blk_ne hx hB (by decide) e.symm⟩
theorem CachAt.mb_ne (h : CachAt w c b H size os l hits misses mb vo D sl) : mb ≠ c := h.slots.mb_ne h.blk
theorem CachAt.sl_ne (h : CachAt w c b H size os l hits misses mb vo D sl) {x : Hd} (hx : x ∈ l) : sl x.p ≠ c := h.slots.blk_ne hx h.blk (by decide)

/-! ### one part of it turns -/
/-- the struct alone -/
theorem CachAt.turn (h : CachAt w c b H size os l hits misses mb vo D sl) {hits' misses' : Nat} (ho : Only (· = c) w w') (hB : CacheB w' c b mb size vo hits' misses') : CachAt w' c b H size os l hits' misses' mb vo D sl := by
  refine ⟨hB, h.order.only ho (fun k hk => (h.order_ne k hk).1), ?_, h.fc, h.fo, h.few⟩
  exact ⟨ownsMap_only h.slots.map ho h.mb_ne, h.slots.has, h.slots.att, h.slots.len, fun x hx => (h.slots.slot x hx).only ho (h.sl_ne hx), h.slots.inj, h.slots.nodup, h.slots.ok, h.slots.few, h.slots.fm, h.slots.fs⟩
/-- the order of use -/
theorem CachAt.reorder (h : CachAt w c b H size os l hits misses mb vo D sl) {vo' : Value} {os' : List Int} (ho : Only (fun k => k = c ∨ vo.ownBlock = some k) w w') (hB : CacheB w' c b mb size vo' hits misses) (hi : Ints w' 0 vo' os')
    (hf : ∀ k, vo'.ownBlock = some k → H' k) (hH : ∀ k, k < w.heap.size → H k → H' k) (hl : os'.length ≤ 1000) : CachAt w' c b H' size os' l hits misses mb vo' D sl := by
  refine ⟨hB, hi, ?_, hH _ (Blk.lt h.blk) h.fc, hf, hl⟩
  have h2 := h.slots
  exact ⟨ownsMap_only h2.map ho (fun e => e.elim (fun e => h.mb_ne e) (fun e => (h.order_ne _ e).2.1 rfl)), h2.has, h2.att, h2.len, fun x hx => (h2.slot x hx).only ho (fun e => e.elim (fun e => h.sl_ne hx e) (fun e => (h.order_ne _ e).2.2 x hx rfl)), h2.inj, h2.nodup, h2.ok, h2.few, hH _ h2.map.lt h2.fm, fun x hx => hH _ (h2.slot x hx).lt (h2.fs x hx)⟩
/-- one slot -/
theorem CachAt.reslot (h : CachAt w c b H size os l hits misses mb vo D sl) (p : Nat) (f : Hd → Hd) (hf : ∀ x, (f x).p = x.p) {x : Hd} (hx : x ∈ l) (hp : x.p = p) (ho : Only (· = sl p) w w') (hB : Blk w' (sl p) 68 (sc (f x))) (hk : PageOk (f x).bs) :
    CachAt w' c b H size os (updC l p f) hits misses mb vo D sl := by
  have hne := h.sl_ne hx
  rw [hp] at hne
  refine ⟨Blk.only h.blk ho (fun e => hne e.symm), h.order.only ho (fun k hk => by rw [← hp]; exact (h.order_ne k hk).2.2 x hx), ?_, h.fc, h.fo, h.few⟩
  have h2 := h.slots
  have pages := updC_pages l p f hf
  have hmem : ∀ y ∈ updC l p f, ∃ z ∈ l, z.p = y.p ∧ y = if z.p = p then f z else z := by
    intro y hy
    obtain ⟨z, hz, e⟩ := mem_updC hy
    refine ⟨z, hz, ?_, e⟩
    rw [e]
    split
    · exact (hf z).symm
    · rfl
  have hmb : ¬ mb = sl p := fun e => h2.sl_ne hx (by rw [hp]; exact e.symm)
  refine ⟨?_, fun q => ?_, fun y hy => ?_, ?_, fun y hy => ?_, fun y hy z hz e => ?_, ?_, fun y hy => ?_, ?_, h2.fm, fun y hy => ?_⟩
  · rw [updC_len]; exact ownsMap_only h2.map ho hmb
  · rw [h2.has q, findC_updC l p f hf]; simp
  · obtain ⟨z, hz, e1, _⟩ := hmem y hy
    rw [← e1]; exact h2.att z hz
  · rw [updC_len]; exact h2.len
  · obtain ⟨z, hz, e1, e2⟩ := hmem y hy
    by_cases hzp : z.p = p
    · obtain rfl : z = x := nodup_inj h2.nodup hz hx (hzp.trans hp.symm)
      rw [if_pos hzp] at e2
      rw [← e1, e2, hzp]
      exact hB
    · rw [if_neg hzp] at e2
      rw [e2]
      exact (h2.slot z hz).only ho (fun e => hzp (h2.inj z hz x hx (by rw [e, hp]) |>.trans hp))
  · obtain ⟨y', hy', e1, _⟩ := hmem y hy
    obtain ⟨z', hz', e2, _⟩ := hmem z hz
    rw [← e1, ← e2] at e ⊢
    exact h2.inj _ hy' _ hz' e
  · rw [pages]; exact h2.nodup
  · obtain ⟨z, hz, e1, e2⟩ := hmem y hy
    rw [← e1]
    refine ⟨(h2.ok z hz).1, ?_⟩
    by_cases hzp : z.p = p
    · obtain rfl : z = x := nodup_inj h2.nodup hz hx (hzp.trans hp.symm)
      rw [e2, if_pos hzp]; exact hk
    · rw [e2, if_neg hzp]; exact (h2.ok z hz).2
  · rw [updC_len]; exact h2.few
  · obtain ⟨z, hz, e1, _⟩ := hmem y hy
    rw [← e1]; exact h2.fs z hz
end

theorem tightMap {H : Type} {w : World} {P : Program} {k : TypeId} {R : Value → Option (DataW H × List MemPlace)} {b n : Nat} {D : DataW H} (h : w.ownsMap P k R b n D) : w.ownsMap P k R b (Maps.size D) D := by
  obtain ⟨es, clock, hb, F, hs, rfl⟩ := h
  exact ⟨es, clock, hb, F, by simp [Maps.size, length_sorted], rfl⟩

end Go.Proofs.Ytoplhehcjgldeaa
