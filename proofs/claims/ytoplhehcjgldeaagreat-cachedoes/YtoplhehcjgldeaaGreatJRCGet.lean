/- Contract of the document's own cache: Get. -/
import Derived.Test.YtoplhehcjgldeaaGreatJRCRoom
namespace Go.Proofs.YtoplhehcjgldeaaGreat
open Go.RowKit
set_option linter.unusedVariables false
set_option maxRecDepth 100000

theorem join_nil (w : World) (v : Value) (zs : List Int) (h : Sl w v zs) (hl : zs.length ≤ 500000) :
    Calls Tryz.prog 50 #[.slice none 0 0, v] w fun e w' => ∃ a n cap, e = .returned (.slice a n cap) ∧ Sl w' (.slice a n cap) zs ∧ (∀ k, (Value.slice a n cap).ownBlock = some k → w.heap.size ≤ k ∧ k < w'.heap.size) ∧ Below w.heap.size w w' := by
  refine (refJoin_any w _ v [] zs (Sl.nil w) h (by simpa using hl)).mono ?_
  rintro e w' ⟨u, rfl, ho, _, hb, _⟩
  rw [List.nil_append] at ho
  obtain ⟨ao, cap, rfl⟩ := own_form' ho
  exact ⟨ao, _, cap, rfl, sl_of_own ho h.bytes rfl, fun k hk => ho.lt k hk, hb⟩

section
variable {w : World} {c r : Nat} {H : Nat → Prop} {hs : List (Hd × Value)} {size hits misses : Nat} {lv : Value}
/-- the struct's counts turn -/
theorem RcAt.hit (h : RcAt w c r H hs size hits misses lv) : RcAt (w.setCell ⟨c, 3, none⟩ (.int .i64 (hits + 1 : Nat))) c r H hs size (hits + 1) misses lv ∧ Only (· = c) w (w.setCell ⟨c, 3, none⟩ (.int .i64 (hits + 1 : Nat))) := by
  have ho : Only (· = c) w (w.setCell ⟨c, 3, none⟩ (.int .i64 (hits + 1 : Nat))) := (Only.refl (· = c) w).setCell ⟨c, 3, none⟩ _ (fun _ => rfl)
  exact ⟨⟨h.blk.set 3 _, ownsRow_only h.row ho (fun k hk => h.lv_c hk), fun x hx => ⟨(h.bys x hx).1.only ho (fun k hk => ((h.bys x hx).2 k hk).2.1), fun k hk => ⟨((h.bys x hx).2 k hk).1, ((h.bys x hx).2 k hk).2.1, ((h.bys x hx).2 k hk).2.2.1, Nat.lt_of_lt_of_le ((h.bys x hx).2 k hk).2.2.2 ho.size⟩⟩, h.fc, h.fl⟩, ho⟩
theorem RcAt.miss (h : RcAt w c r H hs size hits misses lv) : RcAt (w.setCell ⟨c, 4, none⟩ (.int .i64 (misses + 1 : Nat))) c r H hs size hits (misses + 1) lv ∧ Only (· = c) w (w.setCell ⟨c, 4, none⟩ (.int .i64 (misses + 1 : Nat))) := by
  have ho : Only (· = c) w (w.setCell ⟨c, 4, none⟩ (.int .i64 (misses + 1 : Nat))) := (Only.refl (· = c) w).setCell ⟨c, 4, none⟩ _ (fun _ => rfl)
  exact ⟨⟨h.blk.set 4 _, ownsRow_only h.row ho (fun k hk => h.lv_c hk), fun x hx => ⟨(h.bys x hx).1.only ho (fun k hk => ((h.bys x hx).2 k hk).2.1), fun k hk => ⟨((h.bys x hx).2 k hk).1, ((h.bys x hx).2 k hk).2.1, ((h.bys x hx).2 k hk).2.2.1, Nat.lt_of_lt_of_le ((h.bys x hx).2 k hk).2.2.2 ho.size⟩⟩, h.fc, h.fl⟩, ho⟩
end

/-- what the document's Get hands out, and what it leaves -/
def RGot (w w' : World) (c r : Nat) (K : Nat → Prop) (v : Value) (zs : List Int) (ch : Ch) (d : Dv) : Prop :=
  Sl w' v zs ∧ (∀ k, v.ownBlock = some k → w.heap.size ≤ k ∧ k < w'.heap.size) ∧ RefC w' c r (fun k => (K k ∨ w.heap.size ≤ k) ∧ v.ownBlock ≠ some k) ch d ∧ Only K w w'

section
variable (w : World) (c r : Nat) (K : Nat → Prop) (ch : Ch) (d : Dv)
theorem rgot_nil {w w' : World} {c r : Nat} {K : Nat → Prop} {ch : Ch} {d : Dv} (h : RefC w' c r (fun k => K k ∨ w.heap.size ≤ k) ch d) (ho : Only K w w') : RGot w w' c r K (.slice none 0 0) [] ch d :=
  ⟨Sl.nil _, (fun k hk => by cases hk), h.mono (fun k _ hk => ⟨hk, fun e => by cases e⟩), ho⟩

theorem refGet_arg (h : RefC w c r K ch d) (p : Int) (hp : ¬ (0 ≤ p ∧ p < d.st.length)) :
    Calls Tryz.prog 22 #[dp c, .int .i64 p] w fun e w' => e = .returned (.tuple #[.slice none 0 0, .int .i64 1]) ∧ w' = w := by
  obtain ⟨H, G, hs, lv, hC, hm, hR, hap, hin⟩ := h
  have c0 := hC.c0
  have hI := refIs_any w r G d p hR
  rw [decide_eq_false hp] at hI
  have HI := hide hI
  clear hI hp hC hR hap hin
  go_enter Tryz.func22, Tryz.ntmps22
  go_wp2_with (go_at_call 49; refine HI.out.mono ?_; rintro e w1 ⟨rfl, hw⟩; subst w1; clear HI)
  go_ret2
  exact ⟨rfl, rfl⟩

set_option maxHeartbeats 1000000 in
theorem refGet_hit (h : RefC w c r K ch d) (ok : ChOk d.st.length ch) (hh : ch.hits < 1000000) (p : Int) (hp : 0 ≤ p ∧ p < d.st.length) (x : Hd) (hx : findC ch.l p = some x) :
    Calls Tryz.prog 22 #[dp c, .int .i64 p] w fun e w' => ∃ v, e = .returned (.tuple #[v, .int .i64 0]) ∧ RGot w w' c r K v x.bs { ch with l := useC ch.l x, hits := ch.hits + 1 } d := by
  obtain ⟨H, G, hs, lv, hC, hm, hR, hap, hin⟩ := h
  have hlen : hs.length = ch.l.length := by rw [← hm]; simp
  have hl64 : hs.length ≤ 64 := by have := ok.few; have := ok.hi; omega
  have hn : ((hs.map (·.1)).map (·.p)).Nodup := by rw [hm]; exact ok.nodup
  obtain ⟨i, hi, hip⟩ : ∃ i, ∃ hi : i < hs.length, (hs[i].1.p : Int) = p := by
    rcases find_or hs p with hno | h
    · obtain ⟨h1, h2⟩ := findC_some hx
      rw [← hm] at h1
      obtain ⟨y, hy, rfl⟩ := List.mem_map.1 h1
      exact absurd h2 (hno y hy)
    · exact h
  have hxi : hs[i].1 = x := by
    have h1 := findC_mem ok.nodup (h := hs[i].1) (by rw [← hm]; exact List.mem_map_of_mem (List.getElem_mem hi))
    rw [hip, hx] at h1
    exact (Option.some.inj h1).symm
  have hI := refIs_any w r G d p hR
  rw [decide_eq_true hp] at hI
  have HI := hide hI
  have HF := hide (refFind_yes w c r H hs ch.size ch.hits ch.misses lv hC hl64 hn p i hi hip)
  obtain ⟨hC1, ho1⟩ := hC.hit
  obtain ⟨w1, hw1⟩ : ∃ w1, w.setCell ⟨c, 3, none⟩ (.int .i64 (ch.hits + 1 : Nat)) = w1 := ⟨_, rfl⟩
  rw [hw1] at hC1 ho1
  obtain ⟨ao, cap, rfl, hcap1, hcap2⟩ := hC1.shape
  obtain ⟨gb, rfl, _, k0, k1, k2, k3, _⟩ := hC1.at hi
  have hbx := hC1.bys _ (List.getElem_mem hi)
  obtain ⟨xv, hxv⟩ : ∃ xv, hs[i].2 = xv := ⟨_, rfl⟩
  rw [hxi, hxv] at hbx
  rw [hxi] at k0 k2 k3
  rw [hxv] at k1
  obtain ⟨au, cu, hu⟩ := sl_form' hbx.1
  obtain ⟨nu, hnu⟩ : ∃ nu, x.bs.length = nu := ⟨_, rfl⟩
  rw [hnu] at hu
  subst hu
  have hzl : x.bs.length ≤ 500000 := by
    have : x ∈ ch.l := (findC_some hx).1
    have := (ok.pages x this).2.1
    omega
  have HU := hide (refUse_any w1 c r H hs ch.size (ch.hits + 1) ch.misses _ hC1 hl64 hn x au nu cu hbx.1 (fun k hk => ⟨(hbx.2 k hk).2.1, (hbx.2 k hk).2.2.2⟩))
  have c0 := hC.c0
  have c3 := hC.c3
  have f3 := hC.blk.frozen 3
  have c2 := hC1.c2
  have hii : ¬ (i : Int) < 0 := by omega
  have hil : (i : Int) < (hs.length : Int) := by omega
  have hhi : (ch.hits : Int) + 1 ≤ 9223372036854775807 := by omega
  have HW1 : Hid (w.setCell ⟨c, 3, none⟩ (.int .i64 ((ch.hits : Int) + 1)) = w1) := hw1
  have HIN := hide hin
  have HAP := hide hap
  have HR1 := hide (hR.keep ho1 (fun k hg e => by rw [e] at hg; exact hap c hC.fc hg))
  have HFC : Hid (H c) := hC.fc
  have HBX := hide hbx
  have HO1 := hide ho1
  have HM := hide hm
  have HS1 := hide ho1.size
  clear hC hR hap hin hI hp hx hC1 ho1 hbx hm ok hnu hip hxi hxv hn hw1
  go_enter Tryz.func22, Tryz.ntmps22
  go_wp2_with (first
    | (rw [HW1.out]; clear HW1)
    | (go_at_call 49; refine HI.out.mono ?_; rintro e wz ⟨rfl, hw⟩; subst wz; clear HI)
    | (go_at_call 41; refine HF.out.mono ?_; rintro e wz ⟨rfl, hw⟩; subst wz; clear HF)
    | (go_at_call 61; refine HU.out.mono ?_; rintro e w2 ⟨rfl, ⟨hs2, lv2, hC2, hm2⟩, ho2⟩; obtain ⟨a2, cap2, rfl, _, _⟩ := hC2.shape; obtain ⟨g2, rfl, _, _, m1, _⟩ := hC2.at (i := 0) (by simp); simp only [List.getElem_cons_zero, Nat.zero_mul, Nat.zero_add] at m1; have c22 := hC2.c2; have HC2 := hide hC2; have HM2 := hide hm2; have HO2 := hide ho2; have HJ := hide (join_nil w2 _ x.bs (hC2.bys _ (List.mem_cons_self ..)).1 hzl); obtain ⟨n2, hn2⟩ : ∃ n2, ((x, Value.slice au nu cu) :: hs2).length = n2 := ⟨_, rfl⟩; have hn2' : (0 : Int) < (n2 : Int) := (by simp at hn2; omega); rw [hn2] at c22; clear HU hC2 hm2 ho2 hn2 k0 k1 k2 k3 c2)
    | (go_at_call 50; refine HJ.out.mono ?_; rintro e w3 ⟨a3, n3, cap3, rfl, hs3, hk3, hb3⟩; have HS3 := hide hs3; have HK3 := hide hk3; have HB3 := hide hb3; clear HJ hs3 hk3 hb3))
  go_ret2
  refine ⟨_, rfl, HS3.out, fun k hk => ⟨Nat.le_trans (Nat.le_trans HS1.out HO2.out.size) (HK3.out k hk).1, (HK3.out k hk).2⟩, ?_, ?_⟩
  · have hs1 := HS1.out
    have hs2' := HO2.out.size
    have h2 : RefC w2 c r (fun k => K k ∨ w.heap.size ≤ k) { ch with l := useC ch.l x, hits := ch.hits + 1 } d := by
      refine refC_step HIN.out HAP.out HC2.out (by rw [HM2.out, HM.out]) (HR1.out.keep HO2.out (fun k hg e => by rw [e] at hg; exact HAP.out c HFC.out hg)) (fun k hk => ?_) (fun k hk => .inl hk) (fun k hk hk2 hh hg => by have := (HIN.out k (.inr hg)).2; omega) (by omega)
      rcases hk with hk | hk | hk
      · exact .inl hk
      · exact .inr (by omega)
      · exact .inl (HBX.out.2 k hk).1
    exact ((h2.bound).below HB3.out).mono (fun k _ hk => ⟨hk.1, fun e => by have := (HK3.out k e).1; have := hk.2; omega⟩)
  · have hKc : K c := (HIN.out c (.inl HFC.out)).1
    exact ((HO1.out.mono (fun k _ e => by rw [e]; exact hKc)).trans (HO2.out.mono (fun k _ e => by rw [e]; exact hKc)) (fun _ _ h => h)).trans (Only.of_below _ HB3.out) (fun _ _ h => h)
end

end Go.Proofs.YtoplhehcjgldeaaGreat
/- Contract of the document's own cache: Get, of a page that is not held. -/
namespace Go.Proofs.YtoplhehcjgldeaaGreat
open Go.RowKit
set_option linter.unusedVariables false
set_option maxRecDepth 100000

theorem sl_lt {w0 : World} {v : Value} {zs : List Int} (h : Sl w0 v zs) (hne : zs ≠ []) {k : Nat} (hk : v.ownBlock = some k) : k < w0.heap.size := by
  obtain ⟨_, ao', cap', rfl, _, _, _, h4⟩ := h
  obtain ⟨gb, go, rfl, hc⟩ := h4 hne
  simp [Value.ownBlock] at hk
  subst hk
  exact World.block_lt_of_cell? w0 _ (hc 0 (List.length_pos_iff.2 hne))
theorem find_none {hs : List (Hd × Value)} {l : List Hd} (hm : hs.map (·.1) = l) {p : Int} (h : findC l p = none) : ∀ x ∈ hs, (x.1.p : Int) ≠ p := fun x hx => findC_none h x.1 (by rw [← hm]; exact List.mem_map_of_mem hx)

section
variable (w : World) (c r : Nat) (K : Nat → Prop) (ch : Ch) (d : Dv)
set_option maxHeartbeats 1000000 in
theorem refGet_miss (kk : Nat) (hkk : kk < 800000) (h : RefC w c r K ch d) (ok : ChOk d.st.length ch) (hf : Few kk ch d) (P : Nat) (hp : P < d.st.length) (hx : findC ch.l P = none) :
    Calls Tryz.prog 22 #[dp c, .int .i64 P] w fun e w' => ∃ v, e = .returned (.tuple #[v, .int .i64 (getC ch d P).1]) ∧ RGot w w' c r K v (getC ch d P).2.1 (getC ch d P).2.2.1 (getC ch d P).2.2.2 := by
  have HG : Hid (getC ch d P = if (roomC { ch with misses := ch.misses + 1 } d).1 = 0 then
        (if (roomC { ch with misses := ch.misses + 1 } d).2.2.off = true then (5, [], (roomC { ch with misses := ch.misses + 1 } d).2.1, (roomC { ch with misses := ch.misses + 1 } d).2.2)
          else (0, showsD (roomC { ch with misses := ch.misses + 1 } d).2.2 P, { (roomC { ch with misses := ch.misses + 1 } d).2.1 with l := ⟨P, showsD (roomC { ch with misses := ch.misses + 1 } d).2.2 P, false, 0⟩ :: (roomC { ch with misses := ch.misses + 1 } d).2.1.l }, (roomC { ch with misses := ch.misses + 1 } d).2.2))
        else ((roomC { ch with misses := ch.misses + 1 } d).1, [], (roomC { ch with misses := ch.misses + 1 } d).2.1, (roomC { ch with misses := ch.misses + 1 } d).2.2)) := by
    show _ = _
    unfold getC
    rw [if_pos ⟨by omega, by omega⟩, hx]
    rfl
  obtain ⟨g, hg⟩ : ∃ g, getC ch d P = g := ⟨_, rfl⟩
  rw [hg] at HG ⊢
  have ok1 : ChOk d.st.length { ch with misses := ch.misses + 1 } := ⟨ok.lo, ok.hi, ok.few, ok.nodup, ok.pages⟩
  have hf1 : Few (kk + 1) { ch with misses := ch.misses + 1 } d := ⟨by have := hf.hits; show ch.hits ≤ kk + 1; omega, by have := hf.misses; show ch.misses + 1 ≤ kk + 1; omega, fun y hy => by have := hf.pins y hy; omega, by have := hf.ws; omega, by have := hf.done; omega⟩
  have ok2 : ChOk d.st.length (roomC { ch with misses := ch.misses + 1 } d).2.1 := roomC_ok ok1
  have hst : (roomC { ch with misses := ch.misses + 1 } d).2.2.st = d.st := roomC_st _ _
  have hnf : findC (roomC { ch with misses := ch.misses + 1 } d).2.1.l P = none := roomC_find (c := { ch with misses := ch.misses + 1 }) hx
  obtain ⟨H, G, hs, lv, hC, hm, hR, hap, hin⟩ := h
  have hlen : hs.length = ch.l.length := by rw [← hm]; simp
  have hl64 : hs.length ≤ 64 := by have := ok.few; have := ok.hi; omega
  have hI := refIs_any w r G d P hR
  rw [decide_eq_true ⟨by omega, by omega⟩] at hI
  have HI := hide hI
  have HF := hide (refFind_no w c r H hs ch.size ch.hits ch.misses lv hC hl64 P (find_none hm hx))
  obtain ⟨hC1, ho1⟩ := hC.miss
  obtain ⟨w1, hw1⟩ : ∃ w1, w.setCell ⟨c, 4, none⟩ (.int .i64 (ch.misses + 1 : Nat)) = w1 := ⟨_, rfl⟩
  rw [hw1] at hC1 ho1
  have hR1 : RefC w1 c r K { ch with misses := ch.misses + 1 } d := ⟨H, G, hs, lv, hC1, hm, hR.keep ho1 (fun k hg e => by rw [e] at hg; exact hap c hC.fc hg), hap, fun k hk => ⟨(hin k hk).1, Nat.lt_of_lt_of_le (hin k hk).2 ho1.size⟩⟩
  have HRM := hide (refRoom_any w1 c r K _ d (kk + 1) (by omega) hR1 ok1 hf1)
  have c0 := hC.c0
  have c4 := hC.c4
  have f4 := hC.blk.frozen 4
  have HW1 : Hid (w.setCell ⟨c, 4, none⟩ (.int .i64 ((ch.misses : Int) + 1)) = w1) := hw1
  have hmi : (ch.misses : Int) + 1 ≤ 9223372036854775807 := by have := hf.misses; omega
  have HKc : Hid (K c) := (hin c (.inl hC.fc)).1
  have HO1 := hide ho1
  have HS1 : Hid (w1.heap.size = w.heap.size) := by show _ = _; rw [← hw1]; simp
  obtain ⟨E, hE⟩ : ∃ E, (roomC { ch with misses := ch.misses + 1 } d).1 = E := ⟨_, rfl⟩
  obtain ⟨ch2, hch2⟩ : ∃ ch2, (roomC { ch with misses := ch.misses + 1 } d).2.1 = ch2 := ⟨_, rfl⟩
  obtain ⟨d2, hd2⟩ : ∃ d2, (roomC { ch with misses := ch.misses + 1 } d).2.2 = d2 := ⟨_, rfl⟩
  rw [hE, hch2, hd2] at HRM HG
  rw [hch2] at ok2 hnf
  rw [hd2] at hst
  rw [← hst] at ok2 hp
  have HOK := hide ok2
  have HNF := hide hnf
  clear hC hR hap hin hI hx hC1 ho1 hm ok ok1 hf hf1 hw1 hR1 hg hE hch2 hd2 hst ok2 hnf hlen hl64
  by_cases hE0 : E = 0
  case neg =>
    rw [if_neg hE0] at HG
    rw [HG.out]
    clear HG HOK HNF hp
    go_enter Tryz.func22, Tryz.ntmps22
    go_wp2_with (first
      | (rw [HW1.out]; clear HW1)
      | (go_at_call 49; refine HI.out.mono ?_; rintro e wz ⟨rfl, hw⟩; subst wz; clear HI)
      | (go_at_call 41; refine HF.out.mono ?_; rintro e wz ⟨rfl, hw⟩; subst wz; clear HF)
      | (go_at_call 62; refine HRM.out.mono ?_; rintro e w2 ⟨rfl, h2, ho2⟩; have HC2 := hide h2; have HO2 := hide ho2; clear HRM h2 ho2 c0 c4 f4 hmi))
    go_ret2
    exact ⟨_, rfl, rgot_nil (HC2.out.mono (fun k _ hk => hk.imp_right (fun hk => by rw [← HS1.out]; exact hk))) ((HO1.out.mono (fun k _ e => by rw [e]; exact HKc.out)).trans HO2.out (fun _ _ h => h))⟩
  case pos =>
    subst hE0
    rw [if_pos rfl] at HG
    cases hoff : d2.off with
    | true =>
      rw [if_pos hoff] at HG
      go_enter Tryz.func22, Tryz.ntmps22
      go_wp2_with (first
        | (rw [HW1.out]; clear HW1)
        | (go_at_call 49; refine HI.out.mono ?_; rintro e wz ⟨rfl, hw⟩; subst wz; clear HI)
        | (go_at_call 41; refine HF.out.mono ?_; rintro e wz ⟨rfl, hw⟩; subst wz; clear HF)
        | (go_at_call 62; refine HRM.out.mono ?_; rintro e w2 ⟨rfl, h2, ho2⟩; have HC2 := hide h2; have HO2 := hide ho2; obtain ⟨H2, G2, hs2, lv2, hC2, _, hR2, _, _⟩ := h2; have c02 := hC2.c0; have HRD := hide (refRead_off w2 r G2 d2 P hR2 ⟨by omega, by omega⟩ hoff); clear HRM ho2 hC2 hR2)
        | (go_at_call 14; refine HRD.out.mono ?_; rintro e wz ⟨rfl, hw⟩; subst wz; clear HRD))
      go_ret2
      rw [HG.out]
      exact ⟨_, rfl, rgot_nil (HC2.out.mono (fun k _ hk => hk.imp_right (fun hk => by rw [← HS1.out]; exact hk))) ((HO1.out.mono (fun k _ e => by rw [e]; exact HKc.out)).trans HO2.out (fun _ _ h => h))⟩
    | false =>
      rw [if_neg (by rw [hoff]; decide)] at HG
      have HST2 : Hid (∀ w2 H2 G2 hs2 lv2, w1.heap.size ≤ w2.heap.size → RcAt w2 c r H2 hs2 ch2.size ch2.hits ch2.misses lv2 → hs2.map (·.1) = ch2.l → Ref w2 r G2 d2 → (∀ k, H2 k → ¬ G2 k) → (∀ k, H2 k ∨ G2 k → (K k ∨ w1.heap.size ≤ k) ∧ k < w2.heap.size) → ∀ w3 ao cap, Below w2.heap.size w2 w3 → Sl w3 (.slice ao 256 cap) (showsD d2 P) → (∀ k, (Value.slice ao 256 cap).ownBlock = some k → w2.heap.size ≤ k) →
          Calls Tryz.prog 61 #[dp c, .agg #[.int .i64 P, .slice ao 256 cap, .bool false, .int .i64 0]] w3 fun e w' => e = .returned (.tuple #[]) ∧ Sl w' (.slice ao 256 cap) (showsD d2 P) ∧ RefC w' c r (fun k => K k ∨ w.heap.size ≤ k) { ch2 with l := ⟨P, showsD d2 P, false, 0⟩ :: ch2.l } d2 ∧ Only (· = c) w3 w' ∧ w3.heap.size ≤ w'.heap.size) := fun w2 H2 G2 hs2 lv2 hs12 h1 h2 h3 h4 h5 w3 ao cap hb hS hk => by
        have hl2 : hs2.length = ch2.l.length := by rw [← h2]; simp
        have hl64 : hs2.length ≤ 64 := by have := HOK.out.few; have := HOK.out.hi; omega
        have hcw : c < w2.heap.size := h1.blk.lt
        have hs3 := hb.size
        have hlow : ∀ k, (Value.slice ao 256 cap).ownBlock = some k → k < w3.heap.size := fun k hk' => sl_lt hS (fun e => by have := (h3.ok.shows hp).1; rw [e] at this; simp at this) hk'
        refine (refUse_any w3 c r H2 hs2 ch2.size ch2.hits ch2.misses lv2 (h1.below hb) hl64 (by rw [h2]; exact HOK.out.nodup) ⟨P, showsD d2 P, false, 0⟩ ao 256 cap hS (fun k hk' => ⟨fun e => by have := hk k hk'; omega, hlow k hk'⟩)).mono ?_
        rintro e w' ⟨rfl, ⟨hs4, lv4, hC4, hm4⟩, ho4⟩
        refine ⟨rfl, (hC4.bys _ (List.mem_cons_self ..)).1, ?_, ho4, ho4.size⟩
        have hs1 := HS1.out
        have hs4' := ho4.size
        have h6 := refC_step (w := w2) (ch' := { ch2 with l := ⟨P, showsD d2 P, false, 0⟩ :: ch2.l }) (K := fun k => K k ∨ w1.heap.size ≤ k) h5 h4 hC4 (by rw [hm4, h2, useC_new HNF.out]) ((h3.below hb).keep ho4 (fun k hg e => by rw [e] at hg; exact h4 c h1.fc hg)) (fun k hk' => ?_) (fun k hk' => .inl hk') (fun k hk1 hk2 hh hg => by have := (h5 k (.inr hg)).2; omega) (by omega)
        · exact h6.mono (fun k _ hk' => by
            rcases hk' with (hk' | hk') | hk'
            · exact .inl hk'
            · exact .inr (by omega)
            · exact .inr (by omega))
        · rcases hk' with hk' | hk' | hk'
          · exact .inl hk'
          · exact .inr (by omega)
          · exact .inr (hk k hk')
      go_enter Tryz.func22, Tryz.ntmps22
      go_wp2_with (first
        | (rw [HW1.out]; clear HW1)
        | (go_at_call 49; refine HI.out.mono ?_; rintro e wz ⟨rfl, hw⟩; subst wz; clear HI)
        | (go_at_call 41; refine HF.out.mono ?_; rintro e wz ⟨rfl, hw⟩; subst wz; clear HF)
        | (go_at_call 62; refine HRM.out.mono ?_; rintro e w2 ⟨rfl, h2, ho2⟩; have HO2 := hide ho2; obtain ⟨H2, G2, hs2, lv2, hC2, hm2, hR2, hap2, hin2⟩ := h2; have c02 := hC2.c0; have HRD := hide (refRead_ok w2 r G2 d2 P hR2 hp hoff); have HUS := hide (HST2.out w2 H2 G2 hs2 lv2 ho2.size hC2 hm2 hR2 hap2 hin2); have HZL : Hid ((showsD d2 P).length ≤ 500000) := (by have := (hR2.ok.shows hp).1; show _ ≤ _; omega); clear HRM ho2 hC2 hR2 hm2 hap2 hin2 HST2)
        | (go_at_call 14; refine HRD.out.mono ?_; rintro e w3 ⟨⟨ao, cap, rfl, hs3, hk3⟩, hb3⟩; have HB3 := hide hb3; have HUS2 := hide (HUS.out w3 ao cap hb3 hs3 hk3); clear HRD hs3 hk3 hb3 HUS)
        | (go_at_call 61; refine HUS2.out.mono ?_; rintro e w4 ⟨rfl, hs4, hr4, ho4, hz4⟩; have HR4 := hide hr4; have HO4 := hide ho4; have HJ := hide (join_nil w4 _ _ hs4 HZL.out); clear HUS2 hs4 hr4 ho4 hz4)
        | (go_at_call 50; refine HJ.out.mono ?_; rintro e w5 ⟨a5, n5, cap5, rfl, hs5, hk5, hb5⟩; have HS5 := hide hs5; have HK5 := hide hk5; have HB5 := hide hb5; clear HJ hs5 hk5 hb5))
      go_ret2
      rw [HG.out]
      have hs1 := HS1.out
      have hs2 := HO2.out.size
      have hs3 := HB3.out.size
      have hs4 := HO4.out.size
      refine ⟨_, rfl, HS5.out, fun k hk => ⟨by have := (HK5.out k hk).1; omega, (HK5.out k hk).2⟩, ((HR4.out.bound).below HB5.out).mono (fun k _ hk => ⟨hk.1, fun e => by have := (HK5.out k e).1; have := hk.2; omega⟩), ?_⟩
      exact ((((HO1.out.mono (fun k _ e => by rw [e]; exact HKc.out)).trans HO2.out (fun _ _ h => h)).trans (Only.of_below _ HB3.out) (fun _ _ h => h)).trans (HO4.out.mono (fun k _ e => by rw [e]; exact HKc.out)) (fun _ _ h => h)).trans (Only.of_below _ HB5.out) (fun _ _ h => h)

theorem refGet_any (kk : Nat) (hkk : kk < 800000) (h : RefC w c r K ch d) (ok : ChOk d.st.length ch) (hf : Few kk ch d) (p : Int) :
    Calls Tryz.prog 22 #[dp c, .int .i64 p] w fun e w' => ∃ v, e = .returned (.tuple #[v, .int .i64 (getC ch d p).1]) ∧ RGot w w' c r K v (getC ch d p).2.1 (getC ch d p).2.2.1 (getC ch d p).2.2.2 := by
  by_cases hp : 0 ≤ p ∧ p < d.st.length
  · cases hx : findC ch.l p with
    | some x =>
      have e : getC ch d p = (0, x.bs, { ch with l := useC ch.l x, hits := ch.hits + 1 }, d) := by unfold getC; rw [if_pos hp, hx]
      rw [e]
      exact refGet_hit w c r K ch d h ok (by have := hf.hits; omega) p hp x hx
    | none =>
      obtain ⟨P, rfl⟩ : ∃ P : Nat, p = (P : Int) := ⟨p.toNat, by omega⟩
      exact refGet_miss w c r K ch d kk hkk h ok hf P (by omega) hx
  · have e : getC ch d p = (1, [], ch, d) := by unfold getC; rw [if_neg hp]
    rw [e]
    refine (refGet_arg w c r K ch d h p hp).mono ?_
    rintro e w' ⟨rfl, rfl⟩
    exact ⟨_, rfl, rgot_nil (h.mono (fun _ _ h => .inl h)) (Only.refl _ _)⟩
end

end Go.Proofs.YtoplhehcjgldeaaGreat
/- Contract of the document's own cache: Put. -/
namespace Go.Proofs.YtoplhehcjgldeaaGreat
open Go.RowKit
set_option linter.unusedVariables false
set_option maxRecDepth 100000

def hdZero : Array Value := #[.int .i64 0, .slice none 0 0, .bool false, .int .i64 0]
theorem zeroHeldRun (w : World) : (zeroValue 76).run Tryz.prog w = .ok (.agg hdZero) w := by kernel_rfl

/-- the end of Put: the bytes are copied into the page at block hb, and it is used -/
theorem put_tail {w : World} {c r : Nat} {H : Nat → Prop} {hs : List (Hd × Value)} {size hits misses : Nat} {lv : Value} (h : RcAt w c r H hs size hits misses lv) (hl : hs.length ≤ 64) (hn : ((hs.map (·.1)).map (·.p)).Nodup) (hb : Nat) (p pins : Nat) (ov : Value) (och : Bool) (hB : Blk w hb 76 [.int .i64 p, ov, .bool och, .int .i64 pins]) (hbH : ¬ H hb) (zs : List Int) (hz : zs.length = 256) (wD : World) (au : Option Addr) (nu cu : Nat) (hbD : Below w.heap.size w wD) (hS : Sl wD (.slice au nu cu) zs) (hk : ∀ k, (Value.slice au nu cu).ownBlock = some k → w.heap.size ≤ k ∧ k < wD.heap.size) :
    wD.cell? ⟨hb, 1, none⟩ = some ov ∧ wD.frozen? ⟨hb, 1, none⟩ = false ∧ (wD.setCell ⟨hb, 1, none⟩ (.slice au nu cu)).cell? ⟨hb, 2, none⟩ = some (.bool och) ∧ (wD.setCell ⟨hb, 1, none⟩ (.slice au nu cu)).frozen? ⟨hb, 2, none⟩ = false ∧
      ∀ wF, (wD.setCell ⟨hb, 1, none⟩ (.slice au nu cu)).setCell ⟨hb, 2, none⟩ (.bool true) = wF → wF.cell? ⟨hb, 0, none⟩ = some (.int .i64 p) ∧ wF.cell? ⟨hb, 1, none⟩ = some (.slice au nu cu) ∧ wF.cell? ⟨hb, 2, none⟩ = some (.bool true) ∧ wF.cell? ⟨hb, 3, none⟩ = some (.int .i64 pins) ∧
        Calls Tryz.prog 61 #[dp c, .agg #[.int .i64 p, .slice au nu cu, .bool true, .int .i64 pins]] wF fun e w' => e = .returned (.tuple #[]) ∧ (∃ hs' lv', RcAt w' c r (fun k => H k ∨ w.heap.size ≤ k) hs' size hits misses lv' ∧ hs'.map (·.1) = useC (hs.map (·.1)) ⟨p, zs, true, pins⟩) ∧ Only (fun k => k = c ∨ k = hb) w w' := by
  have hBD := hB.below hbD hB.lt
  have hB1 := hBD.set 1 (.slice au nu cu)
  have hB2 := hB1.set 2 (.bool true)
  have hcw : c < w.heap.size := h.blk.lt
  have hhb : hb < w.heap.size := hB.lt
  refine ⟨hBD.cell 1, hBD.frozen 1, hB1.cell 2, hB1.frozen 2, ?_⟩
  rintro wF rfl
  have ho : Only (· = hb) wD ((wD.setCell ⟨hb, 1, none⟩ (.slice au nu cu)).setCell ⟨hb, 2, none⟩ (.bool true)) := ((Only.refl (· = hb) wD).setCell ⟨hb, 1, none⟩ _ (fun _ => rfl)).setCell ⟨hb, 2, none⟩ _ (fun _ => rfl)
  have hF := (h.below hbD).keep ho (fun k hk e => hbH (e ▸ hk))
  refine ⟨hB2.cell 0, hB2.cell 1, hB2.cell 2, hB2.cell 3, ?_⟩
  refine (refUse_any _ c r H hs size hits misses lv hF hl hn ⟨p, zs, true, pins⟩ au nu cu (hS.only ho (fun k hk' e => by have := (hk k hk').1; omega)) (fun k hk' => ⟨fun e => by have := (hk k hk').1; omega, Nat.lt_of_lt_of_le (hk k hk').2 ho.size⟩)).mono ?_
  rintro e w' ⟨rfl, ⟨hs', lv', hC', hm'⟩, ho'⟩
  have hs1 := hbD.size
  have hs2 := ho.size
  refine ⟨rfl, ⟨_, lv', hC'.mono (fun k hk' => ?_), hm'⟩, ((Only.of_below _ hbD).trans (ho.mono (fun k _ e => .inr e)) (fun _ _ h => h)).trans (ho'.mono (fun k _ e => .inl e)) (fun _ _ h => h)⟩
  rcases hk' with h | h | h
  · exact .inl h
  · exact .inr (by omega)
  · exact .inr (hk k h).1

section
variable (w : World) (c r : Nat) (K : Nat → Prop) (ch : Ch) (d : Dv)
theorem refPut_arg (h : RefC w c r K ch d) (p : Int) (v : Value) (zs : List Int) (hS : Sl w v zs) (hp : ¬ ((0 ≤ p ∧ p < d.st.length) ∧ zs.length = 256)) :
    Calls Tryz.prog 23 #[dp c, .int .i64 p, v] w fun e w' => e = .returned (.int .i64 1) ∧ w' = w := by
  obtain ⟨H, G, hs, lv, hC, hm, hR, hap, hin⟩ := h
  have c0 := hC.c0
  obtain ⟨ao, cap, rfl⟩ := sl_form' hS
  have HI := hide (refIs_any w r G d p hR)
  clear hC hR hap hin hS
  by_cases h1 : 0 ≤ p ∧ p < d.st.length
  · have h2 : ¬ zs.length = 256 := fun h => hp ⟨h1, h⟩
    have h3 : ((zs.length : Int) == 256) = false := by simp; omega
    rw [decide_eq_true h1] at HI
    clear h1 hp
    go_enter Tryz.func23, Tryz.ntmps23
    go_wp2_with (go_at_call 49; refine HI.out.mono ?_; rintro e w1 ⟨rfl, hw⟩; subst w1; clear HI)
    go_ret
    exact ⟨rfl, rfl⟩
  · rw [decide_eq_false h1] at HI
    clear h1 hp
    go_enter Tryz.func23, Tryz.ntmps23
    go_wp2_with (go_at_call 49; refine HI.out.mono ?_; rintro e w1 ⟨rfl, hw⟩; subst w1; clear HI)
    go_ret
    exact ⟨rfl, rfl⟩
end

end Go.Proofs.YtoplhehcjgldeaaGreat
