/- Contracts: the order of use, and what is let go: unorder, use, release; Counts. -/
import Derived.Test.YtoplhehcjgldeaaGreatJCMath
import Derived.Test.YtoplhehcjgldeaaGreatJDSync
namespace Go.Proofs.YtoplhehcjgldeaaGreat
open Go.RowKit
set_option linter.unusedVariables false
set_option maxRecDepth 100000

theorem idxFrom_erase (x : Int) : ∀ (zs : List Int) (i : Nat), (Lib.idxFrom zs x i = -1 ∧ zs.erase x = zs) ∨ ∃ k, k < zs.length ∧ Lib.idxFrom zs x i = ((i + k : Nat) : Int) ∧ zs.erase x = zs.eraseIdx k
  | [], i => .inl ⟨rfl, rfl⟩
  | z :: zs, i => by
    by_cases hz : z = x
    · subst hz
      exact .inr ⟨0, by simp, by simp [Lib.idxFrom], by simp⟩
    · rcases idxFrom_erase x zs (i + 1) with ⟨h1, h2⟩ | ⟨k, h1, h2, h3⟩
      · refine .inl ⟨?_, ?_⟩
        · rw [Lib.idxFrom, if_neg hz]; exact h1
        · rw [List.erase_cons, if_neg (by simpa using hz), h2]
      · refine .inr ⟨k + 1, by simpa using h1, ?_, ?_⟩
        · rw [Lib.idxFrom, if_neg hz, h2]; congr 1; omega
        · rw [List.erase_cons, if_neg (by simpa using hz), h3]; rfl
theorem idx_cases (x : Int) (zs : List Int) : (Lib.idxOf zs x = -1 ∧ zs.erase x = zs) ∨ ∃ k : Nat, k < zs.length ∧ Lib.idxOf zs x = (k : Int) ∧ zs.erase x = zs.eraseIdx k := by
  rcases idxFrom_erase x zs 0 with h | ⟨k, h1, h2, h3⟩
  · exact .inl h
  · exact .inr ⟨k, h1, by unfold Lib.idxOf; rw [h2]; congr 1; omega, h3⟩

theorem infoInt : (Tryz.prog.info? 3).map (fun i => (i.zero, i.size, i.bytes)) = some (some (.int .i64 0), 1, 8) := by kernel_rfl
/-- 'append(s, x)' -/
theorem run_append_int (w : World) (base : Nat) (v : Value) (zs : List Int) (h : Ints w base v zs) (x : Int) (hl : zs.length + 1 ≤ 1000000) (hb : base ≤ w.heap.size) :
    ∃ v' w', (Builtin.append_ #[59, 59] 59 #[v, .slice (some ⟨w.heap.size, 0, none⟩) 1 1]).run Tryz.prog (w.alloc (.cells #[.int .i64 x] 3)) = .ok v' w' ∧ Ints w' base v' (zs ++ [x]) ∧ (w.alloc (.cells #[.int .i64 x] 3)).grownBy w' v.ownBlock ∧ (v'.ownBlock = v.ownBlock ∨ v'.ownBlock = some (w.heap.size + 1)) ∧ ∃ ao cap, v' = .slice ao (zs.length + 1) cap := by
  obtain ⟨i0, hi, hz, hs, hby⟩ := info_parts infoInt
  obtain ⟨v', w', hr, h1, h2, _, h4⟩ := run_append_own_at (P := Tryz.prog) (w.alloc (.cells #[.int .i64 x] 3)) base 59 59 3 i0 (.int .i64 0) 1 8 Tryz.underlying59 hi hz hs hby rfl (by decide) v zs.length (iv zs) (World.ownsRow.alloc h _) ⟨w.heap.size, 0, none⟩ 1 1 [.int .i64 x] rfl
    (fun j u hj => by
      have hB := Blk.new w 3 [.int .i64 x]
      have hj0 : j < 1 := by have := (List.getElem?_eq_some_iff.1 hj).1; simpa using this
      obtain rfl : j = 0 := by omega
      have := hB.cell 0
      simp only [List.getElem?_cons_zero, Option.some.injEq] at hj
      subst hj
      exact this) (by intro u hu; simp at hu; subst hu; rfl) (by unfold maxLen; omega) (by omega) (by simp; omega)
  refine ⟨v', w', hr, ?_, h2, ?_, ?_⟩
  · unfold Ints
    simpa using h1
  · simpa using h4
  · exact own_form' h1

section
variable (w : World) (c b : Nat) (H : Nat → Prop) (size : Nat) (os : List Int) (l : List Hd) (hits misses : Nat) (mb : Nat) (vo : Value) (D : DataW Unit) (sl : Nat → Nat)

theorem unorder_at (h : CachAt w c b H size os l hits misses mb vo D sl) (p : Int) :
    Calls Tryz.prog 80 #[dp c, .int .i64 p] w fun e w' => e = .returned (.tuple #[]) ∧ (∃ vo', CachAt w' c b H size (os.erase p) l hits misses mb vo' D sl) ∧ Only H w w' := by
  have c3 := h.blk.c3
  have f3 := Blk.frozen h.blk 3
  have HI := hide (index_any w 0 vo os p h.order)
  rcases idx_cases p os with ⟨h1, h2⟩ | ⟨k, h1, h2, h3⟩
  · rw [h1] at HI
    rw [h2]
    have HH := hide h
    clear h h1 h2
    go_enter Tryz.func80, Tryz.ntmps80
    go_wp2_with (go_at_call 89; refine HI.out.mono ?_; rintro e w' ⟨rfl, hw⟩; subst w'; clear HI)
    go_end0
    exact ⟨rfl, ⟨_, HH.out⟩, Only.refl _ _⟩
  · rw [h2] at HI
    have hk1 : k < 1000 := Nat.lt_of_lt_of_le h1 h.few
    have HD := hide (delete_any w 0 vo os k h.order h1)
    have HE : Hid (os.erase p = os.eraseIdx k) := h3
    have HH := hide h
    clear h h1 h2 h3
    go_enter Tryz.func80, Tryz.ntmps80
    go_wp2_with (first
      | (go_at_call 89; refine HI.out.mono ?_; rintro e w' ⟨rfl, hw⟩; subst w'; clear HI)
      | (go_at_call 90; refine HD.out.mono ?_; rintro e w1 ⟨v1, rfl, hi1, hv1, ho1⟩; obtain ⟨ao1, cap1, rfl⟩ := hi1.shape; have hB1 := Blk.only HH.out.blk ho1 (fun e => (HH.out.order_ne _ e).1 rfl); have c31 : w1.cell? ⟨c, 3, none⟩ = some vo := Blk.cell hB1 3; have f31 := Blk.frozen hB1 3; have HB1 := hide hB1; have HI1 := hide hi1; have HV1 := hide hv1; have HO1 := hide ho1; clear HD hi1 hv1 ho1 hB1))
    go_end0
    have ho2 : Only (fun k => k = c ∨ vo.ownBlock = some k) w (w1.setCell ⟨c, 3, none⟩ (.slice ao1 (os.eraseIdx k).length cap1)) := (HO1.out.mono (fun k _ e => Or.inr e)).setCell ⟨c, 3, none⟩ _ (fun _ => .inl rfl)
    have hne : ∀ j, (Value.slice ao1 (os.eraseIdx k).length cap1).ownBlock = some j → j ≠ c := fun k hk => (HH.out.order_ne k (HV1.out ▸ hk)).1
    rw [HE.out]
    refine ⟨rfl, ⟨_, HH.out.reorder ho2 (Blk.set HB1.out 3 _) ((HI1.out).only ((Only.refl (fun k => k = c) w1).setCell ⟨c, 3, none⟩ _ (fun _ => rfl)) hne) (fun k hk => HH.out.fo k (HV1.out ▸ hk)) (fun k _ hk => hk) ?_⟩, ho2.mono (fun k _ hk => hk.elim (fun e => e ▸ HH.out.fc) (fun e => HH.out.fo k e))⟩
    have := HH.out.few
    rw [List.length_eraseIdx]
    split <;> omega

theorem use_at (h : CachAt w c b H size os l hits misses mb vo D sl) (p : Int) (hs : (os.erase p).length < 1000) :
    Calls Tryz.prog 57 #[dp c, .int .i64 p] w fun e w' => e = .returned (.tuple #[]) ∧ (∃ vo', CachAt w' c b (fun k => H k ∨ w.heap.size ≤ k) size (os.erase p ++ [p]) l hits misses mb vo' D sl) ∧ Only H w w' := by
  have HU := hide (unorder_at w c b H size os l hits misses mb vo D sl h p)
  generalize os.erase p = os1 at HU hs ⊢
  have HS := hide hs
  clear h hs
  go_enter Tryz.func57, Tryz.ntmps57
  go_wp2_with (first
    | (go_at_call 80; refine HU.out.mono ?_; rintro e w1 ⟨rfl, ⟨v1, h1⟩, ho1⟩; have c3 := h1.blk.c3; obtain ⟨v2, w2, hr, hi2, hg2, hv2, ao2, cap2, rfl⟩ := run_append_int w1 0 v1 _ h1.order p (by have := HS.out; omega) (Nat.zero_le _); obtain ⟨ao1, cap1, rfl⟩ := h1.order.shape; have hB2 : Blk w2 c _ _ := (hg2.block c (by simp; exact Nat.lt_succ_of_lt (Blk.lt h1.blk)) (fun e => (h1.order_ne _ e.symm).1 rfl)).trans (Blk.alloc h1.blk _); have c32 : w2.cell? ⟨c, 3, none⟩ = some (.slice ao1 os1.length cap1) := Blk.cell hB2 3; have f32 := Blk.frozen hB2 3; have HB2 := hide hB2; have HR := hide hr; have HI2 := hide hi2; have HG2 := hide hg2; have HV2 := hide hv2; have HH := hide h1; have HO1 := hide ho1; clear HU hr hi2 hg2 h1 ho1 hB2 hv2)
    | ((with_reducible refine wpList_append_run _ rfl (.tmp 11) (.tmp 13) 59 rfl _ _ ?_ ?_ _ _ HR.out ?_); exact rfl; exact rfl; clear HR))

  go_end0
  generalize hq1 : Value.slice ao1 os1.length cap1 = v1 at *
  generalize hq2 : Value.slice ao2 (os1.length + 1) cap2 = v2 at *
  have ho2 : Only (fun k => k = c ∨ v1.ownBlock = some k) w1 (w2.setCell ⟨c, 3, none⟩ v2) := (((Only.refl _ w1).alloc _).grown HG2.out (fun k e _ => .inr e)).setCell ⟨c, 3, none⟩ v2 (fun _ => .inl rfl)
  have hne : ∀ k, v2.ownBlock = some k → k ≠ c := fun k hk e => by
    subst e
    rcases HI2.out.form with ⟨rfl, _⟩ | ⟨g, cap, sp, rfl, _, _, _, hB, _⟩
    · simp [Value.ownBlock] at hk
    · simp [Value.ownBlock] at hk
      subst hk
      exact Blk.ne hB HB2.out (by decide) rfl
  have hlt : ∀ k, v2.ownBlock = some k → H k ∨ w.heap.size ≤ k := fun k hk => by
    rcases HV2.out with e | e
    · exact .inl (HH.out.fo k (e ▸ hk))
    · have := HO1.out.size
      rw [e] at hk
      have := Option.some.inj hk
      omega
  refine ⟨rfl, ⟨v2, HH.out.reorder ho2 (Blk.set HB2.out 3 v2) (HI2.out.only ((Only.refl (fun k => k = c) w2).setCell ⟨c, 3, none⟩ v2 (fun _ => rfl)) hne) hlt (fun k _ hk => .inl hk) (by have := HS.out; simp; omega)⟩, ?_⟩
  exact HO1.out.trans ho2 (fun k _ hk => hk.elim (fun e => e ▸ HH.out.fc) (fun e => HH.out.fo k e))
end

end Go.Proofs.YtoplhehcjgldeaaGreat
/- Contracts: what is let go, what is held, what is written: release, hold, write. -/
namespace Go.Proofs.YtoplhehcjgldeaaGreat
open Go.RowKit
set_option linter.unusedVariables false
set_option maxRecDepth 100000

theorem only_turned {w w' : World} {b : Nat} (h : w.mapTurned w' b) : Only (· = b) w w' := (Only.refl _ w).grown h.grown (fun k e _ => by cases e; rfl)
theorem keyLit (p : Int) : WideAt.IsKeyLit (Lit.int .i64 p) := trivial

section
variable {w w' : World} {c b : Nat} {H : Nat → Prop} {size : Nat} {os : List Int} {l : List Hd} {hits misses : Nat} {mb : Nat} {vo : Value} {D : DataW Unit} {sl : Nat → Nat}
/-- the map lets a page go -/
theorem CachAt.del (h : CachAt w c b H size os l hits misses mb vo D sl) {x : Hd} (hx : x ∈ l) (hm : w'.ownsMap Tryz.prog 3 slotElem mb l.length (D.del (.int .i64 x.p))) (ho : Only (· = mb) w w') : CachAt w' c b H size os (lessC l x.p) hits misses mb vo (D.del (.int .i64 x.p)) sl := by
  have h2 := h.slots
  have hlen := lessC_len h2.nodup hx
  have hsz : Maps.size (D.del (.int .i64 x.p)) = (lessC l x.p).length := by
    have := Maps.size_del (k := .int .i64 x.p) (h2.map.tidy keyedInt)
    rw [h2.has, findC_mem h2.nodup hx, h2.len] at this
    simp at this
    omega
  refine ⟨Blk.only h.blk ho (fun e => h.mb_ne e.symm), h.order.only ho (fun k hk => (h.order_ne k hk).2.1), ⟨?_, fun q => ?_, fun y hy => ?_, hsz, fun y hy => ?_, fun y hy z hz => h2.inj y (mem_lessC.1 hy).1 z (mem_lessC.1 hz).1, lessC_nodup h2.nodup _, fun y hy => h2.ok y (mem_lessC.1 hy).1, by have := h2.few; omega, h2.fm, fun y hy => h2.fs y (mem_lessC.1 hy).1⟩, h.fc, h.fo, h.few⟩
  · rw [← hsz]; exact tightMap hm
  · by_cases hq : q = x.p
    · subst hq
      rw [Maps.has_del_same, findC_lessC_same]; rfl
    · rw [Maps.has_del_other (by intro e; cases e; exact hq rfl), findC_lessC_other hq, h2.has]
  · have hne := (mem_lessC.1 hy).2
    rw [Maps.atKey_del_other (by intro e; simp at e; omega)]
    exact h2.att y (mem_lessC.1 hy).1
  · exact (h2.slot y (mem_lessC.1 hy).1).only ho (fun e => h2.sl_ne (mem_lessC.1 hy).1 e)
end

section
variable (w : World) (c b : Nat) (H : Nat → Prop) (size : Nat) (os : List Int) (l : List Hd) (hits misses : Nat) (mb : Nat) (vo : Value) (D : DataW Unit) (sl : Nat → Nat)
theorem release_at (h : CachAt w c b H size os l hits misses mb vo D sl) (x : Hd) (hx : x ∈ l) :
    Calls Tryz.prog 64 #[dp c, .int .i64 x.p] w fun e w' => e = .returned (.tuple #[]) ∧ CachH w' c b H size (os.erase x.p) (lessC l x.p) hits misses ∧ Only H w w' := by
  have c2 := h.blk.c2
  have HK := hide (keyOfInt x.p (wf_nat (Nat.le_of_lt (h.slots.ok x hx).1)))
  have HM := hide h.slots.map
  have HH := hide h
  have HX := hide hx
  clear h hx
  go_enter Tryz.func64, Tryz.ntmps64
  go_wp2_with (first
    | (at_delete; refine wpList_delete_own _ rfl _ _ 61 3 rfl 95 keyedInt Tryz.underlying61 slotElem mb _ D rfl HM.out _ _ rfl HK.out ?_; intro w1 hm1 ht1; have HC1 := hide (HH.out.del HX.out hm1 (only_turned ht1)); have HO1 := hide (only_turned ht1); clear HM HK hm1 ht1)
    | (go_at_call 80; refine (unorder_at w1 c b H size os _ hits misses mb vo _ sl HC1.out x.p).mono ?_; rintro e w2 ⟨rfl, ⟨v2, h2⟩, ho2⟩; have HC2 := hide h2; have HO2 := hide ho2; clear HC1 h2 ho2))
  go_end0
  exact ⟨rfl, ⟨mb, v2, _, sl, HC2.out⟩, (HO1.out.mono (fun k _ e => by rw [e]; exact HH.out.slots.fm)).trans HO2.out (fun _ _ h => h)⟩
end

end Go.Proofs.YtoplhehcjgldeaaGreat
