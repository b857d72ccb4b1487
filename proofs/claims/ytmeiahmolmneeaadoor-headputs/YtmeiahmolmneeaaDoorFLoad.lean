/- Contract: what a page bears of data from a place on (frame.loadFrom). -/
import Derived.Test.YtmeiahmolmneeaaDoorFCheck
import Derived.Test.YtmeiahmolmneeaaDoorCut
import Derived.Laws.Rows
namespace Go.Proofs.YtmeiahmolmneeaaDoor
set_option maxRecDepth 20000
open Go.RowKit
set_option linter.unusedVariables false

def pc (r : List Int) : List Value := r.map (Value.int .u8)
theorem pc_len (r : List Int) : (pc r).length = r.length := by simp [pc]
theorem pc_one (r : List Int) : ∀ v ∈ pc r, v.oneCell' = true := oneCell_bytes r

/-- 'copy' of the first bytes of a slice that is read into bytes that are there -/
theorem run_copy_first {P : Program} (w : World) (t ty e : TypeId) (ht : P.underlying t = some (.slice e)) (hsz : (P.info? e).map (·.size) = some 1) (g o dLen dCap : Nat) (ao : Option Addr) (sLen sCap : Nat) (zs : List Int) (S : Sl w (.slice ao sLen sCap) zs) (hth : w.there g o (zs.take dLen).length) :
    (Builtin.copy_ #[t, t] ty #[.slice (some ⟨g, o, none⟩) dLen dCap, .slice ao sLen sCap]).run P w = .ok (.int .i64 ((zs.take dLen).length : Nat)) (w.setCells g o (pc (zs.take dLen))) := by
  have hn : sLen = zs.length := by obtain ⟨_, ao', cap', he, _⟩ := S; simp at he; exact he.2.1
  subst hn
  have hl : (zs.take dLen).length = Nat.min zs.length dLen := by rw [List.length_take]; exact Nat.min_comm _ _
  by_cases h0 : (zs.take dLen).length = 0
  · have := run_copy_none (P := P) w t t ty e (some ⟨g, o, none⟩) ao dLen dCap zs.length sCap ht hsz (by rw [← hl]; exact h0)
    rw [this, h0, List.eq_nil_of_length_eq_zero h0]
    rfl
  · have hz : 0 < zs.length := by rw [List.length_take] at h0; omega
    obtain ⟨ad, rfl, hs⟩ := S.src hz
    have := run_copy_cells (P := P) w t t ty e g o dLen dCap ad zs.length sCap (pc (zs.take dLen)) ht hsz (by rw [pc_len]; exact hl)
      (fun j v hj => hs j v (by
        unfold pc at hj
        rw [List.getElem?_map] at hj ⊢
        rw [List.getElem?_take] at hj
        split at hj
        · exact hj
        · simp at hj))
      (fun j hj => (hth j (by rw [pc_len] at hj; exact hj)).1) (fun j hj => (hth j (by rw [pc_len] at hj; exact hj)).2) (pc_one _)
    rw [this, pc_len]
    rfl

def loadZero : Array Value := Array.replicate 240 (.int .u8 0)
theorem zeroLoadRun (w : World) : (zeroValue 79).run Tryd.prog w = .ok (.agg loadZero) w := by kernel_rfl
theorem sizeLoad : (Tryd.prog.info? 79).map (·.size) = some 240 := by kernel_rfl
theorem loadZero_blk (w : World) : Blk (w.alloc (.cells loadZero 79)) w.heap.size 79 (pc (List.replicate 240 0)) := by
  have := Blk.new w 79 loadZero.toList
  rw [Array.toArray_toList] at this
  have e : loadZero.toList = pc (List.replicate 240 0) := by unfold loadZero pc; rw [Array.toList_replicate, List.map_replicate]
  rw [e] at this
  exact this

/-- noughts that the first bytes were copied into -/
theorem splice_load (zs : List Int) (n : Nat) (hz : zs.length ≤ n) : splice (pc (List.replicate n 0)) 0 (pc zs) = pc (padTo n zs) := by
  unfold splice padTo pc
  simp

set_option maxHeartbeats 1000000 in
theorem loadFrom_any (w : World) (v : Value) (zs : List Int) (at' : Nat) (h : Sl w v zs) (hz : zs.length ≤ 1000000) (ha : at' ≤ 10000000) :
    Calls Tryd.prog 52 #[v, .int .i64 at'] w fun e w' => e = .returned (.agg (pc (loadS zs at')).toArray) ∧ Below w.heap.size w w' := by
  obtain ⟨ao, cap, rfl⟩ := sl_form' h
  have hcap := (sl_cap h).2
  unfold maxLen at hcap
  obtain ⟨K, hK⟩ : ∃ K, K = min at' zs.length := ⟨_, rfl⟩
  have hmin : (if zs.length < at' then (zs.length : Int) else (at' : Int)) = (K : Int) := by split <;> omega
  obtain ⟨a', c', hct, hcs⟩ := cut_l w ao zs cap K h (by omega)
  have HCT := hide hct
  have HCS := hide hcs
  have HS := hide h
  have HL : Hid (loadS zs at' = padTo 240 ((zs.drop K).take 240)) := by
    show loadS zs at' = _
    unfold loadS
    by_cases hh : at' ≤ zs.length
    · rw [hK, Nat.min_eq_left hh]
    · rw [hK, Nat.min_eq_right (by omega), List.drop_of_length_le (Nat.le_refl _), List.drop_of_length_le (by omega)]
  have hza := zeroLoadRun
  clear hct hcs h hK
  have b1 := loadZero_blk w
  have b2 := loadZero_blk (w.alloc (.cells loadZero 79))
  have b1' := b1.alloc (.cells loadZero 79)
  have hbel : Below w.heap.size w ((w.alloc (.cells loadZero 79)).alloc (.cells loadZero 79)) := ((Below.refl _ w).alloc (Nat.le_refl _) _).alloc (by simp) _
  have HSS := hide ((HS.out.alloc (.cells loadZero 79)).alloc (.cells loadZero 79))
  have HB1 := hide b1'
  have HB2 := hide b2
  have HBE := hide hbel
  clear b1 b2 b1' hbel
  go_enter Tryd.func52, Tryd.ntmps52
  go_wp2
  obtain ⟨W, hW⟩ : ∃ W, W = (w.alloc (.cells loadZero 79)).alloc (.cells loadZero 79) := ⟨_, rfl⟩
  rw [← hW] at HSS HB1 HB2 HBE ⊢
  rw [World.size_alloc] at HB2
  clear hW
  refine wp_region_only (fun _ => False) [isV (.slice (some ⟨w.heap.size + 1, 0, none⟩) 240 240), isV (.slice ao zs.length cap), isV (.int .i64 (at' : Int)), isV (.slice ao zs.length cap), isV (.int .i64 (zs.length : Int)), isV (.int .i64 (K : Int)), isV (.slice a' (zs.drop K).length c')] 99 15 7 (by kernel_rfl) (by kernel_rfl) (by kernel_rfl) (by kernel_rfl) rfl ?_ ?_ ?_
  · repeat (first | exact trivial | refine allStL_isV ?_)
  · refine ⟨?_, ?_, ?_, ?_, ?_, ?_, ?_, trivial⟩
    · intro a wx h
      have e5 : a.eval (.tmp 5) = .pointer (some ⟨w.heap.size + 1, 0, none⟩) := h.old 5 (by kernel_rfl)
      have hrel := h.rel
      clear h
      refine gives_by rfl a.eval rfl ?_
      generalize a.eval = ρ at *
      intro hf hc
      go_simp
      exact ⟨relM_quiet (by decide) (Only.refl _ _), rfl⟩
    · intro a wx h
      have e0 : a.eval (.tmp 0) = .slice ao zs.length cap := h.old 0 (by kernel_rfl)
      have hrel := h.rel
      clear h
      refine gives_by rfl a.eval rfl ?_
      generalize a.eval = ρ at *
      intro hf hc
      go_simp
      exact ⟨relM_quiet (by decide) (Only.refl _ _), rfl⟩
    · intro a wx h
      have e1 : a.eval (.tmp 1) = .int .i64 (at' : Int) := h.old 1 (by kernel_rfl)
      have hrel := h.rel
      clear h
      refine gives_by rfl a.eval rfl ?_
      generalize a.eval = ρ at *
      intro hf hc
      go_simp
      exact ⟨relM_quiet (by decide) (Only.refl _ _), rfl⟩
    · intro a wx h
      have e0 : a.eval (.tmp 0) = .slice ao zs.length cap := h.old 0 (by kernel_rfl)
      have hrel := h.rel
      clear h
      refine gives_by rfl a.eval rfl ?_
      generalize a.eval = ρ at *
      intro hf hc
      go_simp
      exact ⟨relM_quiet (by decide) (Only.refl _ _), rfl⟩
    · intro a wx h
      obtain ⟨v9, e9, f9⟩ := h.val 3 9 (by kernel_rfl)
      obtain rfl : v9 = .slice ao zs.length cap := f9
      have hrel := h.rel
      clear h
      refine gives_by rfl a.eval rfl ?_
      generalize a.eval = ρ at *
      intro hf hc
      go_simp
      exact ⟨relM_quiet (by decide) (Only.refl _ _), rfl⟩
    · intro a wx h
      obtain ⟨v8, e8, f8⟩ := h.val 2 8 (by kernel_rfl)
      obtain rfl : v8 = .int .i64 (at' : Int) := f8
      obtain ⟨v10, e10, f10⟩ := h.val 4 10 (by kernel_rfl)
      obtain rfl : v10 = .int .i64 (zs.length : Int) := f10
      have hrel := h.rel
      clear h
      refine gives_by rfl a.eval rfl ?_
      generalize a.eval = ρ at *
      intro hf hc
      go_simp
      exact ⟨relM_quiet (by decide) (Only.refl _ _), rfl⟩
    · intro a wx h
      obtain ⟨v7, e7, f7⟩ := h.val 1 7 (by kernel_rfl)
      obtain rfl : v7 = .slice ao zs.length cap := f7
      obtain ⟨v11, e11, f11⟩ := h.val 5 11 (by kernel_rfl)
      obtain rfl : v11 = .int .i64 (K : Int) := f11
      have hrel := h.rel
      clear h
      exact gives_of_run rfl (exec_slice_lo 24 tySl (.tmp 7) (.tmp 11) rfl _ _ _ e7 e11 (HCT.out wx)) ⟨relM_quiet (by decide) (Only.refl _ _), rfl⟩
  · intro oL hoL vals w3 ho3 hv
    simp only [List.getElem?_toArray, List.getElem?_cons_succ, List.getElem?_cons_zero, Option.some.injEq] at hoL
    subst hoL
    have hv0 : vals 0 = .slice (some ⟨w.heap.size + 1, 0, none⟩) 240 240 := hv 0 6 (by decide) (by kernel_rfl)
    have hv6 : vals 6 = .slice a' (zs.drop K).length c' := hv 6 12 (by decide) (by kernel_rfl)
    clear hv
    generalize hact : putAll _ vals 0 _ = act
    have hsl := HCS.out w3 (HSS.out.only ho3 (fun _ _ h => h))
    have hB1 := HB1.out.only ho3 (fun h => h)
    have hB2 := HB2.out.only ho3 (fun h => h)
    have hbw : Below w.heap.size w w3 := HBE.out.trans (ho3.below HBE.out.size (fun _ _ h => h))
    have htl : ((zs.drop K).take 240).length ≤ 240 := by simp; omega
    have hlen : (pc (List.replicate 240 0)).length = 240 := by rw [pc_len, List.length_replicate]
    have hth : w3.there (w.heap.size + 1) 0 ((zs.drop K).take 240).length := hB2.there 0 _ (by rw [hlen]; omega)
    have hrun := run_copy_first (P := Tryd.prog) w3 24 3 5 Tryd.underlying24 sizeU8 (w.heap.size + 1) 0 240 240 a' (zs.drop K).length c' (zs.drop K) hsl hth
    have hB3 := hB2.setMany (pc ((zs.drop K).take 240)) 0 w3 (by rw [hlen, pc_len]; omega)
    rw [splice_load _ 240 htl, ← HL.out] at hB3
    have hB1' := Blk.setOthers (pc ((zs.drop K).take 240)) 0 w3 hB1 (show w.heap.size ≠ w.heap.size + 1 by omega)
    have hll : (pc (loadS zs at')).length = 240 := by rw [pc_len, loadS_len]
    have hR : (w3.setCells (w.heap.size + 1) 0 (pc ((zs.drop K).take 240))).rangeAt (w.heap.size + 1) 0 (pc (loadS zs at')) := hB3.range 0 _ (fun j hj => by rw [Nat.zero_add])
    have hT : (w3.setCells (w.heap.size + 1) 0 (pc ((zs.drop K).take 240))).there w.heap.size 0 (pc (loadS zs at')).toArray.size := hB1'.there 0 _ (by rw [hlen, List.size_toArray, hll]; omega)
    have hB4 := hB1'.setMany (pc (loadS zs at')) 0 _ (by rw [hlen, hll]; omega)
    have hfull : splice (pc (List.replicate 240 0)) 0 (pc (loadS zs at')) = pc (loadS zs at') := by
      unfold splice
      rw [List.take_zero, List.nil_append, hll, List.drop_of_length_le (by rw [hlen]; omega), List.append_nil]
    rw [hfull] at hB4
    have hz1 : (Tryd.prog.info? 79).map (·.size) = some (pc (loadS zs at')).length := by rw [hll]; exact sizeLoad
    have hz2 : (Tryd.prog.info? 79).map (·.size) = some (pc (loadS zs at')).toArray.size := by rw [List.size_toArray, hll]; exact sizeLoad
    have hz3 : (pc (loadS zs at')).toArray.all (·.oneCell') = true := all_oneCell_toArray (pc_one _)
    have hbw2 : Below w.heap.size w (((w3.setCells (w.heap.size + 1) 0 (pc ((zs.drop K).take 240)))).setCells w.heap.size 0 (pc (loadS zs at'))) := by
      have o0 : Only (fun k => w.heap.size ≤ k) w w3 := ⟨hbw.os, hbw.tape, hbw.output, hbw.size, fun k hk _ => hbw.block k hk⟩
      have o1 := Only.setCells w.heap.size (pc (loadS zs at')) 0 _ (Only.setCells (w.heap.size + 1) (pc ((zs.drop K).take 240)) 0 _ o0 (fun _ => by omega)) (fun _ => Nat.le_refl _)
      exact o1.below (Nat.le_refl _) (fun k hk h => by omega)
    have HRUN := hide hrun
    have HR := hide hR
    have HT := hide hT
    have HB4 := hide hB4
    have HZ1 := hide hz1
    have HZ2 := hide hz2
    have HZ3 := hide hz3
    have HBW := hide hbw2
    clear hrun hR hT hB4 hz1 hz2 hz3 hbw2 hB1 hB2 hB3 hB1' hfull hll hth hlen htl hsl hbw ho3 HB1 HB2 HBE HSS
    subst hact
    simp only [List.dropLast, putAll, Act.put, List.setIfInBounds_toArray, List.set_cons_zero, List.set_cons_succ, hv0, hv6, Nat.zero_add, Nat.reduceAdd]
    refine gives_of_run rfl (exec_copy (.tmp 6) (.tmp 12) 24 24 rfl _ _ rfl rfl _ HRUN.out) ?_
    go_wp2_with (first
      | ((with_reducible refine wpList_load_mid rfl 79 (.tmp 5) rfl (w.heap.size + 1) 0 ?_ (pc (loadS zs at')) _ HR.out Tryd.underlying79 rfl HZ1.out ?_); exact rfl)
      | ((with_reducible refine wpList_store_mid rfl 79 (.tmp 4) (.tmp 14) rfl w.heap.size 0 (pc (loadS zs at')).toArray ?_ ?_ HT.out HZ2.out HZ3.out ?_); exact rfl; exact rfl))
    (try simp only [Exit.inBlock, Exit.then])
    refine bodyPost_ret (results_cell_row rfl _ _ w.heap.size _ _ _ _ rfl HB4.out Tryd.underlying79 rfl HZ2.out) rfl ?_
    exact ⟨rfl, HBW.out⟩

end Go.Proofs.YtmeiahmolmneeaaDoor
