/- Contracts: the small methods of package cache. -/
import Derived.Test.YtoplhehcjgldeaaCBase
namespace Go.Proofs.Ytoplhehcjgldeaa
open Go.RowKit
set_option linter.unusedVariables false

abbrev Wf (p : Int) : Prop := (Lit.int .i64 p).wf = true
theorem wf_nat {p : Nat} (h : p ≤ 1000000) : Wf (p : Int) := WalkArith.wf_i64 (by omega)
theorem keyOfInt (p : Int) (h : Wf p) : keyOf Try.prog 3 (.int .i64 p) = some (.int .i64 p) := Maps.keyOf_int_mk Try.underlying3 h
theorem zeroSlotP (w : World) : (zeroValue 69).run Try.prog w = .ok (.pointer none) w := by kernel_rfl

section
variable {w : World} {H : Nat → Prop} {mb : Nat} {D : DataW Unit} {sl : Nat → Nat} {l : List Hd}
theorem Slots.look (h : Slots w H mb D sl l) {x : Hd} (hx : x ∈ l) : (Instr.lookup 51 (.map (some mb)) (.int .i64 x.p) false).run Try.prog w = .ok (dp (sl x.p)) w := by
  obtain ⟨v, ps, hr, hv⟩ := h.map.lookup keyedInt Try.underlying51 (zeroSlotP w) slotElem_nil (keyOfInt x.p (wf_nat (Nat.le_of_lt (h.ok x hx).1)))
  rw [h.att x hx] at hv
  rw [hr, slotElem_inv hv]
theorem Slots.look_yes (h : Slots w H mb D sl l) {x : Hd} (hx : x ∈ l) : (Instr.lookup 51 (.map (some mb)) (.int .i64 x.p) true).run Try.prog w = .ok (.tuple #[dp (sl x.p), .bool true]) w := by
  obtain ⟨v, ps, hr, hv⟩ := h.map.look_ok keyedInt Try.underlying51 (zeroSlotP w) slotElem_nil (keyOfInt x.p (wf_nat (Nat.le_of_lt (h.ok x hx).1)))
  rw [h.att x hx] at hv
  rw [hr, slotElem_inv hv, h.has, findC_mem h.nodup hx]
  rfl
theorem Slots.look_no (h : Slots w H mb D sl l) (p : Int) (hp : Wf p) (hn : findC l p = none) : (Instr.lookup 51 (.map (some mb)) (.int .i64 p) true).run Try.prog w = .ok (.tuple #[.pointer none, .bool false]) w := by
  have hh : Maps.has D (.int .i64 p) = false := by rw [h.has, hn]; rfl
  obtain ⟨v, ps, hr, hv⟩ := h.map.look_ok keyedInt Try.underlying51 (zeroSlotP w) slotElem_nil (keyOfInt p hp)
  rw [Maps.atKey_of_not_has hh] at hv
  rw [hr, slotElem_nil_inv hv, hh]
end

section
variable {w : World} {c b mb : Nat} {vo : Value} {size hits misses : Nat}
theorem CacheB.c0 (h : CacheB w c b mb size vo hits misses) : w.cell? ⟨c, 0, none⟩ = some (dp b) := Blk.cell h 0
theorem CacheB.c1 (h : CacheB w c b mb size vo hits misses) : w.cell? ⟨c, 1, none⟩ = some (.int .i64 size) := Blk.cell h 1
theorem CacheB.c2 (h : CacheB w c b mb size vo hits misses) : w.cell? ⟨c, 2, none⟩ = some (.map (some mb)) := Blk.cell h 2
theorem CacheB.c3 (h : CacheB w c b mb size vo hits misses) : w.cell? ⟨c, 3, none⟩ = some vo := Blk.cell h 3
theorem CacheB.c4 (h : CacheB w c b mb size vo hits misses) : w.cell? ⟨c, 4, none⟩ = some (.int .i64 hits) := Blk.cell h 4
theorem CacheB.c5 (h : CacheB w c b mb size vo hits misses) : w.cell? ⟨c, 5, none⟩ = some (.int .i64 misses) := Blk.cell h 5
end

theorem cmade_nil (w : World) : Calls Try.prog 29 #[.pointer none] w fun e w' => e = .returned (.bool false) ∧ w' = w := by
  go_enter Try.func29, Try.ntmps29
  go_wp2
  go_ret
  exact ⟨rfl, rfl⟩
theorem cmade_zero (w : World) (c : Nat) (c0 : w.cell? ⟨c, 0, none⟩ = some (.pointer none)) : Calls Try.prog 29 #[dp c] w fun e w' => e = .returned (.bool false) ∧ w' = w := by
  go_enter Try.func29, Try.ntmps29
  go_wp2
  go_ret
  exact ⟨rfl, rfl⟩
theorem cmade_any (w : World) (c b : Nat) (c0 : w.cell? ⟨c, 0, none⟩ = some (dp b)) : Calls Try.prog 29 #[dp c] w fun e w' => e = .returned (.bool true) ∧ w' = w := by
  go_enter Try.func29, Try.ntmps29
  go_wp2
  go_ret
  exact ⟨rfl, rfl⟩

section
variable (w : World) (c b : Nat) (H : Nat → Prop) (size : Nat) (os : List Int) (l : List Hd) (hits misses : Nat) (mb : Nat) (vo : Value) (D : DataW Unit) (sl : Nat → Nat)

theorem find_yes (h : CachAt w c b H size os l hits misses mb vo D sl) (x : Hd) (hx : x ∈ l) :
    Calls Try.prog 44 #[dp c, .int .i64 x.p] w fun e w' => e = .returned (.tuple #[dp (sl x.p), .int .i64 0]) ∧ w' = w := by
  have c0 := h.blk.c0
  have c2 := h.blk.c2
  have HM := hide (cmade_any w c b c0)
  have hl := h.slots.look_yes hx
  clear h hx
  go_enter Try.func44, Try.ntmps44
  go_wp2_with (go_at_call 29; refine HM.out.mono ?_; rintro e w' ⟨rfl, rfl⟩)
  go_ret2
  exact ⟨rfl, rfl⟩
theorem find_no (h : CachAt w c b H size os l hits misses mb vo D sl) (p : Int) (hp : Wf p) (hn : findC l p = none) :
    Calls Try.prog 44 #[dp c, .int .i64 p] w fun e w' => e = .returned (.tuple #[.pointer none, .int .i64 4]) ∧ w' = w := by
  have c0 := h.blk.c0
  have c2 := h.blk.c2
  have HM := hide (cmade_any w c b c0)
  have hl := h.slots.look_no p hp hn
  clear h hn hp
  go_enter Try.func44, Try.ntmps44
  go_wp2_with (go_at_call 29; refine HM.out.mono ?_; rintro e w' ⟨rfl, rfl⟩)
  go_ret2
  exact ⟨rfl, rfl⟩
theorem chas_yes (h : CachAt w c b H size os l hits misses mb vo D sl) (x : Hd) (hx : x ∈ l) :
    Calls Try.prog 19 #[dp c, .int .i64 x.p] w fun e w' => e = .returned (.bool true) ∧ w' = w := by
  have HF := hide (find_yes w c b H size os l hits misses mb vo D sl h x hx)
  clear h hx
  go_enter Try.func19, Try.ntmps19
  go_wp2_with (go_at_call 44; refine HF.out.mono ?_; rintro e w' ⟨rfl, rfl⟩)
  go_ret
  exact ⟨rfl, rfl⟩
theorem chas_no (h : CachAt w c b H size os l hits misses mb vo D sl) (p : Int) (hp : Wf p) (hn : findC l p = none) :
    Calls Try.prog 19 #[dp c, .int .i64 p] w fun e w' => e = .returned (.bool false) ∧ w' = w := by
  have HF := hide (find_no w c b H size os l hits misses mb vo D sl h p hp hn)
  clear h hn hp
  go_enter Try.func19, Try.ntmps19
  go_wp2_with (go_at_call 44; refine HF.out.mono ?_; rintro e w' ⟨rfl, rfl⟩)
  go_ret
  exact ⟨rfl, rfl⟩
end

end Go.Proofs.Ytoplhehcjgldeaa
