/- Contract of the document's own cache: Put, in all cases. -/
import Derived.Test.YtoplhehcjgldeaaGreatJRCGet
namespace Go.Proofs.YtoplhehcjgldeaaGreat
open Go.RowKit
set_option linter.unusedVariables false
set_option maxRecDepth 100000

theorem hdStore : (Tryz.prog.info? 76).map (·.size) = some 4 := by kernel_rfl

section
variable (w : World) (c r : Nat) (K : Nat → Prop) (ch : Ch) (d : Dv)
set_option maxHeartbeats 2000000 in
theorem refPut_hit (h : RefC w c r K ch d) (ok : ChOk d.st.length ch) (hh : ch.hits < 1000000) (p : Int) (hp : 0 ≤ p ∧ p < d.st.length) (v : Value) (zs : List Int) (hS : Sl w v zs) (hz : zs.length = 256) (hv : ∀ k, v.ownBlock = some k → ¬ K k) (x : Hd) (hx : findC ch.l p = some x) :
    Calls Tryz.prog 23 #[dp c, .int .i64 p, v] w fun e w' => e = .returned (.int .i64 0) ∧ RefC w' c r (fun k => K k ∨ w.heap.size ≤ k) { ch with l := useC ch.l { x with bs := zs, ch := true }, hits := ch.hits + 1 } d ∧ Only K w w' := by
  obtain ⟨H, G, hs, lv, hC, hm, hR, hap, hin⟩ := h
  have hlen : hs.length = ch.l.length := by rw [← hm]; simp
  have hl64 : hs.length ≤ 64 := by have := ok.few; have := ok.hi; omega
  have hn : ((hs.map (·.1)).map (·.p)).Nodup := by rw [hm]; exact ok.nodup
  obtain ⟨i, hi, hip⟩ : ∃ i, ∃ hi : i < hs.length, (hs[i].1.p : Int) = p := by
    rcases find_or hs p with hno | h
    · obtain ⟨h1, h2⟩ := findC_some hx
      rw [← hm] at h1
      obtain ⟨y, hy, rfl⟩ := List.mem_map.1 h1
      exact absurd h2 (hno y hy)
    · exact h
  have hxi : hs[i].1 = x := by
    have h1 := findC_mem ok.nodup (h := hs[i].1) (by rw [← hm]; exact List.mem_map_of_mem (List.getElem_mem hi))
    rw [hip, hx] at h1
    exact (Option.some.inj h1).symm
  have hI := refIs_any w r G d p hR
  rw [decide_eq_true hp] at hI
  have HI := hide hI
  have hcw : c < w.heap.size := hC.blk.lt
  obtain ⟨av, cv, rfl⟩ := sl_form' hS
  rw [hz] at hS hv ⊢
  -- the page's own block
  obtain ⟨wA, hwA⟩ : ∃ wA, w.alloc (.cells #[.int .i64 p, .slice none 0 0, .bool false, .int .i64 0] 76) = wA := ⟨_, rfl⟩
  have hsA : wA.heap.size = w.heap.size + 1 := by rw [← hwA]; simp
  have hbA : Below w.heap.size w wA := by rw [← hwA]; exact (Below.refl _ w).alloc (Nat.le_refl _) _
  have hBA : Blk wA w.heap.size 76 [.int .i64 p, .slice none 0 0, .bool false, .int .i64 0] := by rw [← hwA]; exact Blk.new w _ _
  have hCA := hC.below hbA
  have HF := hide (refFind_yes wA c r H hs ch.size ch.hits ch.misses lv hCA hl64 hn p i hi hip)
  have c0 := hC.c0
  have c3 := hCA.c3
  have f3 := hCA.blk.frozen 3
  obtain ⟨hC1, ho1⟩ := hCA.hit
  obtain ⟨w1, hw1⟩ : ∃ w1, wA.setCell ⟨c, 3, none⟩ (.int .i64 (ch.hits + 1 : Nat)) = w1 := ⟨_, rfl⟩
  rw [hw1] at hC1 ho1
  obtain ⟨ao, cap, rfl, hcap1, hcap2⟩ := hC1.shape
  obtain ⟨gb, rfl, _, k0, k1, k2, k3, _⟩ := hC1.at hi
  have hbx := hC1.bys _ (List.getElem_mem hi)
  obtain ⟨xv, hxv⟩ : ∃ xv, hs[i].2 = xv := ⟨_, rfl⟩
  rw [hxi, hxv] at hbx
  rw [hxi] at k0 k2 k3
  rw [hxv] at k1
  obtain ⟨au, cu, hu⟩ := sl_form' hbx.1
  obtain ⟨nu, hnu⟩ : ∃ nu, x.bs.length = nu := ⟨_, rfl⟩
  rw [hnu] at hu
  subst hu
  have c2 := hC1.c2
  have hB1 := hBA.only ho1 (by omega)
  -- what is held is taken into it
  obtain ⟨w2, hw2⟩ : ∃ w2, w1.setCells w.heap.size 0 [.int .i64 x.p, .slice au nu cu, .bool x.ch, .int .i64 x.pins] = w2 := ⟨_, rfl⟩
  have ho2 : Only (· = w.heap.size) w1 w2 := by rw [← hw2]; exact Only.setCells _ _ 0 w1 (Only.refl _ _) (fun _ => rfl)
  have hB2 : Blk w2 w.heap.size 76 [.int .i64 x.p, .slice au nu cu, .bool x.ch, .int .i64 x.pins] := by
    rw [← hw2]
    have := hB1.setMany [.int .i64 x.p, .slice au nu cu, .bool x.ch, .int .i64 x.pins] 0 w1 (by simp)
    simpa [splice] using this
  have hHhb : ¬ H w.heap.size := fun h => by have := (hin _ (.inl h)).2; omega
  have hC2 := hC1.keep ho2 (fun k hk e => hHhb (e ▸ hk))
  have hsz1 : w1.heap.size = w.heap.size + 1 := by rw [← hw1]; simp [hsA]
  have hsz2 : w.heap.size + 1 ≤ w2.heap.size := by have := ho2.size; omega
  have hcK : K c := (hin c (.inl hC.fc)).1
  have hS2 : Sl w2 (.slice av 256 cv) zs := ((hS.below hbA).only ho1 (fun k hk e => hv k hk (e ▸ hcK))).only ho2 (fun k hk e => by have := sl_lt hS (fun e => by rw [e] at hz; simp at hz) hk; omega)
  have HJ := hide (join_nil w2 _ zs hS2 (by omega))
  have HT : Hid (∀ wD au nu cu, _) := fun wD au nu cu => put_tail hC2 hl64 hn w.heap.size x.p x.pins _ x.ch hB2 hHhb zs hz wD au nu cu
  have HTH : Hid (w1.there w.heap.size 0 (#[Value.int .i64 x.p, .slice au nu cu, .bool x.ch, .int .i64 x.pins] : Array Value).size) := hB1.there 0 4 (by simp)
  have HON : Hid ((#[Value.int .i64 x.p, .slice au nu cu, .bool x.ch, .int .i64 x.pins] : Array Value).all (·.oneCell') = true) := all_oneCell_toArray (cs := hc x (.slice au nu cu)) (hc_one (h := x) (v := .slice au nu cu) rfl)
  have HSZ : Hid ((Tryz.prog.info? 76).map (·.size) = some (#[Value.int .i64 x.p, .slice au nu cu, .bool x.ch, .int .i64 x.pins] : Array Value).size) := hdStore
  have hii : ¬ (i : Int) < 0 := by omega
  have hil : (i : Int) < (hs.length : Int) := by omega
  have hhi : (ch.hits : Int) + 1 ≤ 9223372036854775807 := by omega
  have HW1 : Hid (wA.setCell ⟨c, 3, none⟩ (.int .i64 ((ch.hits : Int) + 1)) = w1) := hw1
  have HW2 : Hid (w1.setCells w.heap.size 0 (#[Value.int .i64 x.p, .slice au nu cu, .bool x.ch, .int .i64 x.pins] : Array Value).toList = w2) := hw2
  have HWA := hide hwA
  have HEnd : Hid (∀ w' hs' lv', RcAt w' c r (fun k => H k ∨ w2.heap.size ≤ k) hs' ch.size (ch.hits + 1) ch.misses lv' → hs'.map (·.1) = useC (hs.map (·.1)) { x with bs := zs, ch := true } → Only (fun k => k = c ∨ k = w.heap.size) w2 w' → RefC w' c r (fun k => K k ∨ w.heap.size ≤ k) { ch with l := useC ch.l { x with bs := zs, ch := true }, hits := ch.hits + 1 } d ∧ Only K w w') := fun w' hs' lv' h1 h2 h3 => by
    have hs3 := h3.size
    have hRG : Ref w' r G d := (((hR.below hbA).keep ho1 (fun k hg e => by rw [e] at hg; exact hap c hC.fc hg)).keep ho2 (fun k hg e => by have := (hin k (.inr hg)).2; omega)).keep h3 (fun k hg e => by
      rcases e with e | e
      · rw [e] at hg; exact hap c hC.fc hg
      · have := (hin k (.inr hg)).2; omega)
    refine ⟨refC_step hin hap h1 (by rw [h2, hm]) hRG (fun k hk => hk.imp_right (fun hk => by omega)) (fun k hk => .inl hk) (fun k hk hk2 hh hg => by have := (hin k (.inr hg)).2; omega) (by omega), ?_⟩
    have e1 : Only (fun k => k = c ∨ k = w.heap.size) w w' := ((((Only.of_below _ hbA).trans (ho1.mono (fun k _ e => .inl e)) (fun _ _ h => h)).trans (ho2.mono (fun k _ e => .inr e)) (fun _ _ h => h)).trans h3 (fun _ _ h => h))
    exact e1.mono (fun k hk e => by
      rcases e with e | e
      · rw [e]; exact hcK
      · omega)
  clear hC hR hap hin hI hp hx hCA hC1 hC2 ho1 ho2 hbx hm ok hnu hip hxi hxv hn hw1 hw2 hwA hB1 hB2 hBA hS hS2 hbA hv hHhb hlen hsz1 hsz2 hcK
  go_enter Tryz.func23, Tryz.ntmps23
  go_wp2_with (first
    | (go_at_call 49; refine HI.out.mono ?_; rintro e wz ⟨rfl, hw⟩; subst wz; clear HI)
    | ((with_reducible refine wpList_store_new rfl 76 (.tmp 7) (.tmp 23) rfl hdZero #[.int .i64 p, .slice none 0 0, .bool false, .int .i64 0] 76 ?_ ?_ rfl hdStore rfl ?_); exact rfl; exact rfl)
    | (rw [HWA.out]; clear HWA)
    | (go_at_call 41; refine HF.out.mono ?_; rintro e wz ⟨rfl, hw⟩; subst wz; clear HF)
    | (rw [HW1.out]; clear HW1 c0 c3 f3 hsA)
    | ((with_reducible refine wpList_store_mid rfl 76 (.tmp 7) (.tmp 43) rfl w.heap.size 0 #[.int .i64 x.p, .slice au nu cu, .bool x.ch, .int .i64 x.pins] ?_ ?_ HTH.out HSZ.out HON.out ?_); exact rfl; exact rfl)
    | (rw [HW2.out]; clear HW2 k0 k1 k2 k3)
    | (go_at_call 50; refine HJ.out.mono ?_; rintro e wD ⟨aD, nD, cD, rfl, hsD, hkD, hbD⟩; obtain ⟨q1, q2, q3, q4, q5⟩ := HT.out wD aD nD cD hbD hsD hkD; have HQ5 := hide (q5 _ rfl); obtain ⟨wF, hwF⟩ : ∃ wF, (wD.setCell ⟨w.heap.size, 1, none⟩ (.slice aD nD cD)).setCell ⟨w.heap.size, 2, none⟩ (.bool true) = wF := ⟨_, rfl⟩; rw [hwF] at HQ5; have HWF := hide hwF; obtain ⟨r0, r1, r2, r3, r4⟩ := HQ5.out; have HR4 := hide r4; clear HJ HT hsD hkD hbD q5 HQ5 hwF r4)
    | (rw [HWF.out]; clear HWF)
    | (go_at_call 61; refine HR4.out.mono ?_; rintro e wG ⟨rfl, ⟨hsG, lvG, hCG, hmG⟩, hoG⟩; have HE2 := hide (HEnd.out wG hsG lvG hCG hmG hoG); clear HR4 hCG hmG hoG))
  go_ret
  exact ⟨rfl, HE2.out⟩

set_option maxHeartbeats 2000000 in
theorem refPut_miss (kk : Nat) (hkk : kk < 800000) (h : RefC w c r K ch d) (ok : ChOk d.st.length ch) (hf : Few kk ch d) (P : Nat) (hp : P < d.st.length) (v : Value) (zs : List Int) (hS : Sl w v zs) (hz : zs.length = 256) (hv : ∀ k, v.ownBlock = some k → ¬ K k) (hx : findC ch.l P = none) :
    Calls Tryz.prog 23 #[dp c, .int .i64 P, v] w fun e w' => e = .returned (.int .i64 (putC ch d P zs).1) ∧ RefC w' c r (fun k => K k ∨ w.heap.size ≤ k) (putC ch d P zs).2.1 (putC ch d P zs).2.2 ∧ Only K w w' := by
  have HG : Hid (putC ch d P zs = if (roomC { ch with misses := ch.misses + 1 } d).1 = 0 then
        (0, { (roomC { ch with misses := ch.misses + 1 } d).2.1 with l := ⟨P, zs, true, 0⟩ :: (roomC { ch with misses := ch.misses + 1 } d).2.1.l }, (roomC { ch with misses := ch.misses + 1 } d).2.2)
        else ((roomC { ch with misses := ch.misses + 1 } d).1, (roomC { ch with misses := ch.misses + 1 } d).2.1, (roomC { ch with misses := ch.misses + 1 } d).2.2)) := by
    show _ = _
    unfold putC
    rw [if_pos ⟨⟨by omega, by omega⟩, hz⟩, hx]
    rfl
  obtain ⟨g, hg⟩ : ∃ g, putC ch d P zs = g := ⟨_, rfl⟩
  rw [hg] at HG ⊢
  have ok1 : ChOk d.st.length { ch with misses := ch.misses + 1 } := ⟨ok.lo, ok.hi, ok.few, ok.nodup, ok.pages⟩
  have hf1 : Few (kk + 1) { ch with misses := ch.misses + 1 } d := ⟨by have := hf.hits; show ch.hits ≤ kk + 1; omega, by have := hf.misses; show ch.misses + 1 ≤ kk + 1; omega, fun y hy => by have := hf.pins y hy; omega, by have := hf.ws; omega, by have := hf.done; omega⟩
  have ok2 : ChOk d.st.length (roomC { ch with misses := ch.misses + 1 } d).2.1 := roomC_ok ok1
  have hnf : findC (roomC { ch with misses := ch.misses + 1 } d).2.1.l P = none := roomC_find (c := { ch with misses := ch.misses + 1 }) hx
  obtain ⟨H, G, hs, lv, hC, hm, hR, hap, hin⟩ := h
  have hlen : hs.length = ch.l.length := by rw [← hm]; simp
  have hl64 : hs.length ≤ 64 := by have := ok.few; have := ok.hi; omega
  have hI := refIs_any w r G d P hR
  rw [decide_eq_true ⟨by omega, by omega⟩] at hI
  have HI := hide hI
  have hcw : c < w.heap.size := hC.blk.lt
  obtain ⟨av, cv, rfl⟩ := sl_form' hS
  rw [hz] at hS hv ⊢
  obtain ⟨wA, hwA⟩ : ∃ wA, w.alloc (.cells #[.int .i64 P, .slice none 0 0, .bool false, .int .i64 0] 76) = wA := ⟨_, rfl⟩
  have hsA : wA.heap.size = w.heap.size + 1 := by rw [← hwA]; simp
  have hbA : Below w.heap.size w wA := by rw [← hwA]; exact (Below.refl _ w).alloc (Nat.le_refl _) _
  have hBA : Blk wA w.heap.size 76 [.int .i64 P, .slice none 0 0, .bool false, .int .i64 0] := by rw [← hwA]; exact Blk.new w _ _
  have hCA := hC.below hbA
  have HF := hide (refFind_no wA c r H hs ch.size ch.hits ch.misses lv hCA hl64 P (find_none hm hx))
  have c0 := hC.c0
  have c4 := hCA.c4
  have f4 := hCA.blk.frozen 4
  obtain ⟨hC1, ho1⟩ := hCA.miss
  obtain ⟨w1, hw1⟩ : ∃ w1, wA.setCell ⟨c, 4, none⟩ (.int .i64 (ch.misses + 1 : Nat)) = w1 := ⟨_, rfl⟩
  rw [hw1] at hC1 ho1
  have hsz1 : w1.heap.size = w.heap.size + 1 := by rw [← hw1]; simp [hsA]
  have hcK : K c := (hin c (.inl hC.fc)).1
  have hHhb : ∀ k, H k ∨ G k → k < w.heap.size := fun k hk => (hin k hk).2
  have hR1 : RefC w1 c r (fun k => K k ∧ k < w.heap.size) { ch with misses := ch.misses + 1 } d := ⟨H, G, hs, lv, hC1, hm, (hR.below hbA).keep ho1 (fun k hg e => by rw [e] at hg; exact hap c hC.fc hg), hap, fun k hk => ⟨⟨(hin k hk).1, (hin k hk).2⟩, by have := (hin k hk).2; omega⟩⟩
  have HRM := hide (refRoom_any w1 c r _ _ d (kk + 1) (by omega) hR1 ok1 hf1)
  have hB1 := hBA.only ho1 (by omega)
  have hS1 : Sl w1 (.slice av 256 cv) zs := (hS.below hbA).only ho1 (fun k hk e => hv k hk (e ▸ hcK))
  have HW1 : Hid (wA.setCell ⟨c, 4, none⟩ (.int .i64 ((ch.misses : Int) + 1)) = w1) := hw1
  have HWA := hide hwA
  have hmi : (ch.misses : Int) + 1 ≤ 9223372036854775807 := by have := hf.misses; omega
  have HO1 : Hid (Only (fun k => K k ∧ k < w.heap.size) w w1) := (Only.of_below _ hbA).trans (ho1.mono (fun k _ e => by rw [e]; exact ⟨hcK, hcw⟩)) (fun _ _ h => h)
  obtain ⟨E, hE⟩ : ∃ E, (roomC { ch with misses := ch.misses + 1 } d).1 = E := ⟨_, rfl⟩
  obtain ⟨ch2, hch2⟩ : ∃ ch2, (roomC { ch with misses := ch.misses + 1 } d).2.1 = ch2 := ⟨_, rfl⟩
  obtain ⟨d2, hd2⟩ : ∃ d2, (roomC { ch with misses := ch.misses + 1 } d).2.2 = d2 := ⟨_, rfl⟩
  rw [hE, hch2, hd2] at HRM HG
  rw [hch2] at ok2 hnf
  have HOK := hide ok2
  have HNF := hide hnf
  have HB1 := hide hB1
  have HS1 := hide hS1
  have HV := hide hv
  have HSL : Hid (∀ k, (Value.slice av 256 cv).ownBlock = some k → k < w.heap.size) := fun k hk => sl_lt hS (fun e => by rw [e] at hz; simp at hz) hk
  have HSZ1 := hide hsz1
  clear hC hR hap hin hI hx hC1 ho1 hm ok ok1 hf hf1 hw1 hwA hR1 hg hE hch2 hd2 ok2 hnf hlen hl64 hCA hbA hBA hB1 hS1 hS hv hHhb hsz1
  by_cases hE0 : E = 0
  case neg =>
    rw [if_neg hE0] at HG
    rw [HG.out]
    clear HG HOK HNF hp
    go_enter Tryz.func23, Tryz.ntmps23
    go_wp2_with (first
      | (go_at_call 49; refine HI.out.mono ?_; rintro e wz ⟨rfl, hw⟩; subst wz; clear HI)
      | (rw [HWA.out]; clear HWA)
      | (go_at_call 41; refine HF.out.mono ?_; rintro e wz ⟨rfl, hw⟩; subst wz; clear HF)
      | (rw [HW1.out]; clear HW1)
      | (go_at_call 62; refine HRM.out.mono ?_; rintro e w2 ⟨rfl, h2, ho2⟩; have HC2 := hide h2; have HO2 := hide ho2; clear HRM h2 ho2 c0 c4 f4 hmi hsA))
    go_ret
    exact ⟨rfl, HC2.out.mono (fun k _ hk => hk.imp (fun h => h.1) (fun hk => by have := HSZ1.out; omega)), (HO1.out.mono (fun k _ h => h.1)).trans (HO2.out.mono (fun k _ h => h.1)) (fun _ _ h => h)⟩
  case pos =>
    subst hE0
    rw [if_pos rfl] at HG
    rw [HG.out]
    have HRest : Hid (∀ w2, RefC w2 c r (fun k => (K k ∧ k < w.heap.size) ∨ w1.heap.size ≤ k) ch2 d2 → Only (fun k => K k ∧ k < w.heap.size) w1 w2 →
        (Calls Tryz.prog 50 #[.slice none 0 0, .slice av 256 cv] w2 fun e w' => ∃ a n cap, e = .returned (.slice a n cap) ∧ Sl w' (.slice a n cap) zs ∧ (∀ k, (Value.slice a n cap).ownBlock = some k → w2.heap.size ≤ k ∧ k < w'.heap.size) ∧ Below w2.heap.size w2 w') ∧
        ∀ wD au nu cu, Below w2.heap.size w2 wD → Sl wD (.slice au nu cu) zs → (∀ k, (Value.slice au nu cu).ownBlock = some k → w2.heap.size ≤ k ∧ k < wD.heap.size) →
          wD.cell? ⟨w.heap.size, 1, none⟩ = some (.slice none 0 0) ∧ wD.frozen? ⟨w.heap.size, 1, none⟩ = false ∧ (wD.setCell ⟨w.heap.size, 1, none⟩ (.slice au nu cu)).cell? ⟨w.heap.size, 2, none⟩ = some (.bool false) ∧ (wD.setCell ⟨w.heap.size, 1, none⟩ (.slice au nu cu)).frozen? ⟨w.heap.size, 2, none⟩ = false ∧
          ∀ wF, (wD.setCell ⟨w.heap.size, 1, none⟩ (.slice au nu cu)).setCell ⟨w.heap.size, 2, none⟩ (.bool true) = wF → wF.cell? ⟨w.heap.size, 0, none⟩ = some (.int .i64 P) ∧ wF.cell? ⟨w.heap.size, 1, none⟩ = some (.slice au nu cu) ∧ wF.cell? ⟨w.heap.size, 2, none⟩ = some (.bool true) ∧ wF.cell? ⟨w.heap.size, 3, none⟩ = some (.int .i64 0) ∧
            Calls Tryz.prog 61 #[dp c, .agg #[.int .i64 P, .slice au nu cu, .bool true, .int .i64 0]] wF fun e w' => e = .returned (.tuple #[]) ∧ RefC w' c r (fun k => K k ∨ w.heap.size ≤ k) { ch2 with l := ⟨P, zs, true, 0⟩ :: ch2.l } d2 ∧ Only K w w') := fun w2 h2 ho2 => by
      obtain ⟨H2, G2, hs2, lv2, k1, k2, k3, k4, k5⟩ := h2
      have hs1 := HSZ1.out
      have hs2' := ho2.size
      have hB2 := HB1.out.only ho2 (fun h => by have := h.2; omega)
      have hS2 := HS1.out.only ho2 (fun k hk h => HV.out k hk h.1)
      have hl2 : hs2.length = ch2.l.length := by rw [← k2]; simp
      have hl64 : hs2.length ≤ 64 := by have := HOK.out.few; have := HOK.out.hi; omega
      have hHhb : ¬ H2 w.heap.size := fun h => by
        rcases (k5 _ (.inl h)).1 with h | h
        · have := h.2; omega
        · omega
      refine ⟨join_nil w2 _ zs hS2 (by omega), fun wD au nu cu q1 q2 q3 => ?_⟩
      obtain ⟨t1, t2, t3, t4, t5⟩ := put_tail k1 hl64 (by rw [k2]; exact HOK.out.nodup) w.heap.size P 0 _ false hB2 hHhb zs hz wD au nu cu q1 q2 q3
      refine ⟨t1, t2, t3, t4, fun wF hF => ?_⟩
      obtain ⟨u0, u1, u2, u3, u4⟩ := t5 wF hF
      refine ⟨u0, u1, u2, u3, u4.mono ?_⟩
      rintro e w' ⟨rfl, ⟨hs', lv', hC', hm'⟩, ho'⟩
      have hs3 := ho'.size
      have hcK2 := k5 c (.inl k1.fc)
      refine ⟨rfl, ?_, ?_⟩
      · have h6 := refC_step (w := w2) (ch' := { ch2 with l := ⟨P, zs, true, 0⟩ :: ch2.l }) k5 k4 hC' (by rw [hm', k2, useC_new HNF.out]) (k3.keep ho' (fun k hg e => by
          rcases e with e | e
          · rw [e] at hg; exact k4 c k1.fc hg
          · rw [e] at hg
            rcases (k5 _ (.inr hg)).1 with h | h
            · have := h.2; omega
            · omega)) (fun k hk => hk) (fun k hk => .inl hk) (fun k hk hk2 hh hg => by have := (k5 k (.inr hg)).2; omega) (by omega)
        exact h6.mono (fun k _ hk => by
          rcases hk with (hk | hk) | hk
          · exact .inl hk.1
          · exact .inr (by omega)
          · exact .inr (by omega))
      · refine ((HO1.out.mono (fun k _ h => h.1)).trans (ho2.mono (fun k _ h => h.1)) (fun _ _ h => h)).trans ho' ?_
        intro k hk e
        rcases e with e | e
        · rw [e]; exact hcK
        · omega
    go_enter Tryz.func23, Tryz.ntmps23
    go_wp2_with (first
      | (go_at_call 49; refine HI.out.mono ?_; rintro e wz ⟨rfl, hw⟩; subst wz; clear HI)
      | (rw [HWA.out]; clear HWA)
      | (go_at_call 41; refine HF.out.mono ?_; rintro e wz ⟨rfl, hw⟩; subst wz; clear HF)
      | (rw [HW1.out]; clear HW1)
      | (go_at_call 62; refine HRM.out.mono ?_; rintro e w2 ⟨rfl, h2, ho2⟩; obtain ⟨hj2, ht2⟩ := HRest.out w2 h2 ho2; have HJ := hide hj2; have HT := hide ht2; clear HRM h2 ho2 c0 c4 f4 hmi hsA hj2 ht2 HRest)
      | (go_at_call 50; refine HJ.out.mono ?_; rintro e wD ⟨aD, nD, cD, rfl, hsD, hkD, hbD⟩; obtain ⟨q1, q2, q3, q4, q5⟩ := HT.out wD aD nD cD hbD hsD hkD; have HQ5 := hide (q5 _ rfl); obtain ⟨wF, hwF⟩ : ∃ wF, (wD.setCell ⟨w.heap.size, 1, none⟩ (.slice aD nD cD)).setCell ⟨w.heap.size, 2, none⟩ (.bool true) = wF := ⟨_, rfl⟩; rw [hwF] at HQ5; have HWF := hide hwF; obtain ⟨r0, r1, r2, r3, r4⟩ := HQ5.out; have HR4 := hide r4; clear HJ HT hsD hkD hbD q5 HQ5 hwF r4)
      | (rw [HWF.out]; clear HWF)
      | (go_at_call 61; refine HR4.out.mono ?_; rintro e wG ⟨rfl, hRG, hoG⟩; have HRG := hide hRG; have HOG := hide hoG; clear HR4 hRG hoG))
    go_ret
    exact ⟨rfl, HRG.out, HOG.out⟩

theorem refPut_any (kk : Nat) (hkk : kk < 800000) (h : RefC w c r K ch d) (ok : ChOk d.st.length ch) (hf : Few kk ch d) (p : Int) (v : Value) (zs : List Int) (hS : Sl w v zs) (hv : ∀ k, v.ownBlock = some k → ¬ K k) :
    Calls Tryz.prog 23 #[dp c, .int .i64 p, v] w fun e w' => e = .returned (.int .i64 (putC ch d p zs).1) ∧ RefC w' c r (fun k => K k ∨ w.heap.size ≤ k) (putC ch d p zs).2.1 (putC ch d p zs).2.2 ∧ Only K w w' := by
  by_cases hp : (0 ≤ p ∧ p < d.st.length) ∧ zs.length = 256
  · cases hx : findC ch.l p with
    | some x =>
      have e : putC ch d p zs = (0, { ch with l := useC ch.l { x with bs := zs, ch := true }, hits := ch.hits + 1 }, d) := by unfold putC; rw [if_pos hp, hx]
      rw [e]
      exact refPut_hit w c r K ch d h ok (by have := hf.hits; omega) p hp.1 v zs hS hp.2 hv x hx
    | none =>
      obtain ⟨P, rfl⟩ : ∃ P : Nat, p = (P : Int) := ⟨p.toNat, by omega⟩
      exact refPut_miss w c r K ch d kk hkk h ok hf P (by omega) v zs hS hp.2 hv hx
  · have e : putC ch d p zs = (1, ch, d) := by unfold putC; rw [if_neg hp]
    rw [e]
    refine (refPut_arg w c r K ch d h p v zs hS hp).mono ?_
    rintro e w' ⟨rfl, rfl⟩
    exact ⟨rfl, h.mono (fun _ _ h => .inl h), Only.refl _ _⟩
end

end Go.Proofs.YtoplhehcjgldeaaGreat
