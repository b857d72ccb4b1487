/- Contracts: what is let go, what is held, what is written: release, hold, write. -/
import Derived.Test.YtoplhehcjgldeaaCPart
import Derived.Test.YtoplhehcjgldeaaDTell
namespace Go.Proofs.Ytoplhehcjgldeaa
open Go.RowKit
set_option linter.unusedVariables false
set_option maxRecDepth 100000

theorem only_turned {w w' : World} {b : Nat} (h : w.mapTurned w' b) : Only (· = b) w w' := (Only.refl _ w).grown h.grown (fun k e _ => by cases e; rfl)
theorem keyLit (p : Int) : WideAt.IsKeyLit (Lit.int .i64 p) := trivial

section
variable {w w' : World} {c b : Nat} {H : Nat → Prop} {size : Nat} {os : List Int} {l : List Hd} {hits misses : Nat} {mb : Nat} {vo : Value} {D : DataW Unit} {sl : Nat → Nat}
/-- the map lets a page go -/
theorem CachAt.del (h : CachAt w c b H size os l hits misses mb vo D sl) {x : Hd} (hx : x ∈ l) (hm : w'.ownsMap Try.prog 3 slotElem mb l.length (D.del (.int .i64 x.p))) (ho : Only (· = mb) w w') : CachAt w' c b H size os (lessC l x.p) hits misses mb vo (D.del (.int .i64 x.p)) sl := by
  have h2 := h.slots
  have hlen := lessC_len h2.nodup hx
  have hsz : Maps.size (D.del (.int .i64 x.p)) = (lessC l x.p).length := by
    have := Maps.size_del (k := .int .i64 x.p) (h2.map.tidy keyedInt)
    rw [h2.has, findC_mem h2.nodup hx, h2.len] at this
    simp at this
    omega
  refine ⟨Blk.only h.blk ho (fun e => h.mb_ne e.symm), h.order.only ho (fun k hk => (h.order_ne k hk).2.1), ⟨?_, fun q => ?_, fun y hy => ?_, hsz, fun y hy => ?_, fun y hy z hz => h2.inj y (mem_lessC.1 hy).1 z (mem_lessC.1 hz).1, lessC_nodup h2.nodup _, fun y hy => h2.ok y (mem_lessC.1 hy).1, by have := h2.few; omega, h2.fm, fun y hy => h2.fs y (mem_lessC.1 hy).1⟩, h.fc, h.fo, h.few⟩
  · rw [← hsz]; exact tightMap hm
  · by_cases hq : q = x.p
    · subst hq
      rw [Maps.has_del_same, findC_lessC_same]; rfl
    · rw [Maps.has_del_other (by intro e; cases e; exact hq rfl), findC_lessC_other hq, h2.has]
  · have hne := (mem_lessC.1 hy).2
    rw [Maps.atKey_del_other (by intro e; simp at e; omega)]
    exact h2.att y (mem_lessC.1 hy).1
  · exact (h2.slot y (mem_lessC.1 hy).1).only ho (fun e => h2.sl_ne (mem_lessC.1 hy).1 e)
end

section
variable (w : World) (c b : Nat) (H : Nat → Prop) (size : Nat) (os : List Int) (l : List Hd) (hits misses : Nat) (mb : Nat) (vo : Value) (D : DataW Unit) (sl : Nat → Nat)
theorem release_at (h : CachAt w c b H size os l hits misses mb vo D sl) (x : Hd) (hx : x ∈ l) :
    Calls Try.prog 47 #[dp c, .int .i64 x.p] w fun e w' => e = .returned (.tuple #[]) ∧ CachH w' c b H size (os.erase x.p) (lessC l x.p) hits misses ∧ Only H w w' := by
  have c2 := h.blk.c2
  have HK := hide (keyOfInt x.p (wf_nat (Nat.le_of_lt (h.slots.ok x hx).1)))
  have HM := hide h.slots.map
  have HH := hide h
  have HX := hide hx
  clear h hx
  go_enter Try.func47, Try.ntmps47
  go_wp2_with (first
    | (at_delete; refine wpList_delete_own _ rfl _ _ 51 3 rfl 69 keyedInt Try.underlying51 slotElem mb _ D rfl HM.out _ _ rfl HK.out ?_; intro w1 hm1 ht1; have HC1 := hide (HH.out.del HX.out hm1 (only_turned ht1)); have HO1 := hide (only_turned ht1); clear HM HK hm1 ht1)
    | (go_at_call 52; refine (unorder_at w1 c b H size os _ hits misses mb vo _ sl HC1.out x.p).mono ?_; rintro e w2 ⟨rfl, ⟨v2, h2⟩, ho2⟩; have HC2 := hide h2; have HO2 := hide ho2; clear HC1 h2 ho2))
  go_end0
  exact ⟨rfl, ⟨mb, v2, _, sl, HC2.out⟩, (HO1.out.mono (fun k _ e => by rw [e]; exact HH.out.slots.fm)).trans HO2.out (fun _ _ h => h)⟩
end

end Go.Proofs.Ytoplhehcjgldeaa
