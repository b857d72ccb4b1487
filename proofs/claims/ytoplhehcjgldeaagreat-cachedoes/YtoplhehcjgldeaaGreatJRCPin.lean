/- Contracts of the document's own cache: Pin, Unpin, Forget. -/
import Derived.Test.YtoplhehcjgldeaaGreatJRCPut2
namespace Go.Proofs.YtoplhehcjgldeaaGreat
open Go.RowKit
set_option linter.unusedVariables false
set_option maxRecDepth 100000

theorem upd_set {l : List Hd} (hn : (l.map (·.p)).Nodup) {i : Nat} (hi : i < l.length) (f : Hd → Hd) : l.set i (f l[i]) = updC l l[i].p f := by
  unfold updC
  apply List.ext_getElem
  · simp
  · intro j h1 h2
    simp only [List.getElem_set, List.getElem_map]
    by_cases e : i = j
    · subst e; simp
    · rw [if_neg e, if_neg]
      intro he
      have hp := List.pairwise_iff_getElem.1 hn
      have hj : j < l.length := by simpa using h2
      rcases Nat.lt_or_gt_of_ne e with h | h
      · exact hp i j (by simpa using hi) (by simpa using hj) h (by simpa using he.symm)
      · exact hp j i (by simpa using hj) (by simpa using hi) h (by simpa using he)

section
variable {w : World} {c r : Nat} {H : Nat → Prop} {hs : List (Hd × Value)} {size hits misses g n cap : Nat}
/-- one field of one page is set -/
theorem RcAt.field (h : RcAt w c r H hs size hits misses (.slice (some ⟨g, 0, none⟩) n cap)) {i : Nat} (hi : i < hs.length) (y : Hd) (j : Nat) (hj : j < 4) (u : Value) (hb : y.bs = hs[i].1.bs) (e : hc y hs[i].2 = (hc hs[i].1 hs[i].2).set j u) :
    RcAt (w.setCell ⟨g, i * 4 + j, none⟩ u) c r H (hs.set i (y, hs[i].2)) size hits misses (.slice (some ⟨g, 0, none⟩) n cap) ∧ Only (· = g) w (w.setCell ⟨g, i * 4 + j, none⟩ u) ∧ H g := by
  have hn : n = hs.length := by
    obtain ⟨a, c', e⟩ := own_form' h.row
    simp only [Value.slice.injEq] at e
    exact e.2.1
  subst hn
  have ho : Only (· = g) w (w.setCell ⟨g, i * 4 + j, none⟩ u) := (Only.refl (· = g) w).setCell ⟨g, i * 4 + j, none⟩ _ (fun _ => rfl)
  have hgc : g ≠ c := h.lv_c rfl
  refine ⟨⟨h.blk.only ho (fun e => hgc e.symm), ?_, fun x hx => ?_, h.fc, h.fl⟩, ho, h.fl g rfl⟩
  · have := (h.row.stored (i * 4 + j) u).1
    rw [← hRow_set hs i hi (y, hs[i].2) j u hj e] at this
    rw [List.length_set]
    exact this
  · have key : ∃ x' ∈ hs, x.2 = x'.2 ∧ x.1.bs = x'.1.bs := by
      rcases List.mem_or_eq_of_mem_set hx with h | h
      · exact ⟨x, h, rfl, rfl⟩
      · subst h; exact ⟨hs[i], List.getElem_mem hi, rfl, hb⟩
    obtain ⟨x', hx', e1, e2⟩ := key
    rw [e1, e2]
    have hb' := h.bys x' hx'
    exact ⟨hb'.1.only ho (fun k hk e => (hb'.2 k hk).2.2.1 (by rw [e]; rfl)), fun k hk => ⟨(hb'.2 k hk).1, (hb'.2 k hk).2.1, (hb'.2 k hk).2.2.1, Nat.lt_of_lt_of_le (hb'.2 k hk).2.2.2 ho.size⟩⟩
end

section
variable (w : World) (c r : Nat) (K : Nat → Prop) (ch : Ch) (d : Dv)
set_option maxHeartbeats 1000000 in
theorem refPin_any (kk : Nat) (hkk : kk < 900000) (h : RefC w c r K ch d) (ok : ChOk d.st.length ch) (hf : Few kk ch d) (p : Int) :
    Calls Tryz.prog 25 #[dp c, .int .i64 p] w fun e w' => e = .returned (.int .i64 (pinC ch p).1) ∧ RefC w' c r K (pinC ch p).2 d ∧ Only K w w' := by
  obtain ⟨H, G, hs, lv, hC, hm, hR, hap, hin⟩ := h
  have hlen : hs.length = ch.l.length := by rw [← hm]; simp
  have hl64 : hs.length ≤ 64 := by have := ok.few; have := ok.hi; omega
  have hn : ((hs.map (·.1)).map (·.p)).Nodup := by rw [hm]; exact ok.nodup
  cases hx : findC ch.l p with
  | none =>
    have e : pinC ch p = (4, ch) := by unfold pinC; rw [hx]
    rw [e]
    have HF := hide (refFind_no w c r H hs ch.size ch.hits ch.misses lv hC hl64 p (find_none hm hx))
    have HE : Hid (RefC w c r K ch d) := ⟨H, G, hs, lv, hC, hm, hR, hap, hin⟩
    clear hC hR hap hin hx e hm ok
    go_enter Tryz.func25, Tryz.ntmps25
    go_wp2_with (go_at_call 41; refine HF.out.mono ?_; rintro e wz ⟨rfl, hw⟩; subst wz; clear HF)
    go_ret
    exact ⟨rfl, HE.out, Only.refl _ _⟩
  | some x =>
    obtain ⟨i, hi, hip⟩ : ∃ i, ∃ hi : i < hs.length, (hs[i].1.p : Int) = p := by
      rcases find_or hs p with hno | h
      · obtain ⟨h1, h2⟩ := findC_some hx
        rw [← hm] at h1
        obtain ⟨y, hy, rfl⟩ := List.mem_map.1 h1
        exact absurd h2 (hno y hy)
      · exact h
    have hxi : hs[i].1 = x := by
      have h1 := findC_mem ok.nodup (h := hs[i].1) (by rw [← hm]; exact List.mem_map_of_mem (List.getElem_mem hi))
      rw [hip, hx] at h1
      exact (Option.some.inj h1).symm
    have e : pinC ch p = (0, { ch with l := updC ch.l x.p (fun y => { y with pins := x.pins + 1 }) }) := by unfold pinC; rw [hx]
    rw [e]
    have HF := hide (refFind_yes w c r H hs ch.size ch.hits ch.misses lv hC hl64 hn p i hi hip)
    obtain ⟨ao, cap, rfl, hcap1, hcap2⟩ := hC.shape
    obtain ⟨gb, rfl, _, k0, k1, k2, k3, kf⟩ := hC.at hi
    have c2 := hC.c2
    have f3 := kf (i * 4 + 3)
    have hpl : x.pins ≤ kk := hf.pins x (findC_some hx).1
    obtain ⟨hC1, ho1, hHg⟩ := hC.field hi { x with pins := x.pins + 1 } 3 (by omega) (.int .i64 (x.pins + 1 : Nat)) (by rw [hxi]) (by rw [hxi]; rfl)
    have hm1 : (hs.set i ({ x with pins := x.pins + 1 }, hs[i].2)).map (·.1) = updC ch.l x.p (fun y => { y with pins := x.pins + 1 }) := by
      rw [List.map_set, hm]
      have hil : i < ch.l.length := by omega
      have hli : ch.l[i] = x := by
        have : (hs.map (·.1))[i]'(by simpa using hi) = x := by rw [List.getElem_map, hxi]
        rw [← this]
        congr 1
        exact hm.symm
      have := upd_set ok.nodup hil (fun y => { y with pins := x.pins + 1 })
      rw [hli] at this
      exact this
    have HEnd : Hid (∀ wx, Only (fun _ => False) w wx → RefC (wx.setCell ⟨gb, i * 4 + 3, none⟩ (.int .i64 ((x.pins : Int) + 1))) c r K { ch with l := updC ch.l x.p (fun y => { y with pins := x.pins + 1 }) } d ∧ Only K w (wx.setCell ⟨gb, i * 4 + 3, none⟩ (.int .i64 ((x.pins : Int) + 1)))) := fun wx hox => by
      show RefC (wx.setCell ⟨gb, i * 4 + 3, none⟩ (.int .i64 (x.pins + 1 : Nat))) c r K { ch with l := updC ch.l x.p (fun y => { y with pins := x.pins + 1 }) } d ∧ Only K w (wx.setCell ⟨gb, i * 4 + 3, none⟩ (.int .i64 (x.pins + 1 : Nat)))
      obtain ⟨hC1, ho1, hHg⟩ := (hC.keep hox (fun _ _ h => h)).field hi { x with pins := x.pins + 1 } 3 (by omega) (.int .i64 (x.pins + 1 : Nat)) (by rw [hxi]) (by rw [hxi]; rfl)
      have hs1 := ho1.size
      have hs2 := hox.size
      exact ⟨⟨H, G, _, _, hC1, hm1, (hR.keep hox (fun _ _ h => h)).keep ho1 (fun k hg e => hap gb hHg (e ▸ hg)), hap, fun k hk => ⟨(hin k hk).1, by have := (hin k hk).2; omega⟩⟩, (hox.mono (fun _ _ h => h.elim)).trans (ho1.mono (fun k _ e => by rw [e]; exact (hin gb (.inl hHg)).1)) (fun _ _ h => h)⟩
    have HCC : Hid (∀ wx, Only (fun _ => False) w wx → wx.cell? ⟨c, 2, none⟩ = some (.slice (some ⟨gb, 0, none⟩) hs.length cap) ∧ wx.cell? ⟨gb, i * 4 + 3, none⟩ = some (.int .i64 x.pins) ∧ wx.frozen? ⟨gb, i * 4 + 3, none⟩ = false) := fun wx ho => by
      have h1 := hC.keep ho (fun _ _ h => h)
      obtain ⟨gb', hgb, _, _, _, _, m3, mf⟩ := h1.at hi
      simp only [Option.some.injEq, Addr.mk.injEq, and_true] at hgb
      subst hgb
      rw [hxi] at m3
      exact ⟨h1.c2, m3, mf _⟩
    rw [hxi] at k3
    have hii : ¬ (i : Int) < 0 := by omega
    have hil : (i : Int) < (hs.length : Int) := by omega
    have hpi : (x.pins : Int) ≤ 900000 := by omega
    clear hC hR hap hin hx e hm ok hC1 ho1 hHg hm1 hn hip hxi k0 k1 k2 kf hlen hf
    go_enter Tryz.func25, Tryz.ntmps25
    go_wp2_with (go_at_call 41; refine HF.out.mono ?_; rintro e wz ⟨rfl, hw⟩; subst wz; clear HF)
    refine wp_region_only (fun _ => False) [isV (.pointer (some ⟨c, 0, none⟩)), isV (.pointer (some ⟨c, 0, none⟩)), isV (.pointer (some ⟨c, 2, none⟩)), isV (.slice (some ⟨gb, 0, none⟩) hs.length cap), isV (.int .i64 (i : Int)), isV (.pointer (some ⟨c, 0, none⟩)), isV (.pointer (some ⟨c, 0, none⟩)), isV (.pointer (some ⟨c, 2, none⟩)), isV (.slice (some ⟨gb, 0, none⟩) hs.length cap), isV (.int .i64 (i : Int)), isV (.pointer (some ⟨gb, i * 4, none⟩)), isV (.pointer (some ⟨gb, i * 4 + 3, none⟩)), isV (.int .i64 (x.pins : Int)), isV (.int .i64 ((x.pins : Int) + 1)), isV (.pointer (some ⟨gb, i * 4, none⟩)), isV (.pointer (some ⟨gb, i * 4 + 3, none⟩))] 99 27 16 (by kernel_rfl) (by kernel_rfl) (by kernel_rfl) (by kernel_rfl) rfl ?_ ?_ ?_
    · repeat (first | exact trivial | refine allStL_isV ?_)
    · refine ⟨?_, ?_, ?_, ?_, ?_, ?_, ?_, ?_, ?_, ?_, ?_, ?_, ?_, ?_, ?_, ?_, trivial⟩
      · intro a wx h
        have e0 : a.eval (.tmp 0) = .pointer (some ⟨c, 0, none⟩) := h.old 0 (by kernel_rfl)
        have hrel := h.rel
        clear h
        refine gives_by rfl a.eval rfl ?_
        generalize a.eval = ρ at *
        intro hf hc
        go_simp
        exact ⟨relM_quiet (by decide) (Only.refl _ _), rfl⟩
      · intro a wx h
        obtain ⟨v11, e11, f11⟩ := h.val 0 11 (by kernel_rfl)
        obtain rfl : v11 = .pointer (some ⟨c, 0, none⟩) := f11
        have hrel := h.rel
        clear h
        refine gives_by rfl a.eval rfl ?_
        generalize a.eval = ρ at *
        intro hf hc
        go_simp
        exact ⟨relM_quiet (by decide) (Only.refl _ _), rfl⟩
      · intro a wx h
        obtain ⟨v12, e12, f12⟩ := h.val 1 12 (by kernel_rfl)
        obtain rfl : v12 = .pointer (some ⟨c, 0, none⟩) := f12
        have hrel := h.rel
        clear h
        refine gives_by rfl a.eval rfl ?_
        generalize a.eval = ρ at *
        intro hf hc
        go_simp
        exact ⟨relM_quiet (by decide) (Only.refl _ _), rfl⟩
      · intro a wx h
        obtain ⟨v13, e13, f13⟩ := h.val 2 13 (by kernel_rfl)
        obtain rfl : v13 = .pointer (some ⟨c, 2, none⟩) := f13
        have hrel := h.rel
        clear h
        have cx := (HCC.out wx hrel).1
        refine gives_by rfl a.eval rfl ?_
        generalize a.eval = ρ at *
        intro hf hc
        go_simp
        exact ⟨relM_quiet (by decide) (Only.refl _ _), rfl⟩
      · intro a wx h
        have e5 : a.eval (.tmp 5) = .int .i64 (i : Int) := h.old 5 (by kernel_rfl)
        have hrel := h.rel
        clear h
        refine gives_by rfl a.eval rfl ?_
        generalize a.eval = ρ at *
        intro hf hc
        go_simp
        exact ⟨relM_quiet (by decide) (Only.refl _ _), rfl⟩
      · intro a wx h
        have e0 : a.eval (.tmp 0) = .pointer (some ⟨c, 0, none⟩) := h.old 0 (by kernel_rfl)
        have hrel := h.rel
        clear h
        refine gives_by rfl a.eval rfl ?_
        generalize a.eval = ρ at *
        intro hf hc
        go_simp
        exact ⟨relM_quiet (by decide) (Only.refl _ _), rfl⟩
      · intro a wx h
        obtain ⟨v16, e16, f16⟩ := h.val 5 16 (by kernel_rfl)
        obtain rfl : v16 = .pointer (some ⟨c, 0, none⟩) := f16
        have hrel := h.rel
        clear h
        refine gives_by rfl a.eval rfl ?_
        generalize a.eval = ρ at *
        intro hf hc
        go_simp
        exact ⟨relM_quiet (by decide) (Only.refl _ _), rfl⟩
      · intro a wx h
        obtain ⟨v17, e17, f17⟩ := h.val 6 17 (by kernel_rfl)
        obtain rfl : v17 = .pointer (some ⟨c, 0, none⟩) := f17
        have hrel := h.rel
        clear h
        refine gives_by rfl a.eval rfl ?_
        generalize a.eval = ρ at *
        intro hf hc
        go_simp
        exact ⟨relM_quiet (by decide) (Only.refl _ _), rfl⟩
      · intro a wx h
        obtain ⟨v18, e18, f18⟩ := h.val 7 18 (by kernel_rfl)
        obtain rfl : v18 = .pointer (some ⟨c, 2, none⟩) := f18
        have hrel := h.rel
        clear h
        have cx := (HCC.out wx hrel).1
        refine gives_by rfl a.eval rfl ?_
        generalize a.eval = ρ at *
        intro hf hc
        go_simp
        exact ⟨relM_quiet (by decide) (Only.refl _ _), rfl⟩
      · intro a wx h
        have e5 : a.eval (.tmp 5) = .int .i64 (i : Int) := h.old 5 (by kernel_rfl)
        have hrel := h.rel
        clear h
        refine gives_by rfl a.eval rfl ?_
        generalize a.eval = ρ at *
        intro hf hc
        go_simp
        exact ⟨relM_quiet (by decide) (Only.refl _ _), rfl⟩
      · intro a wx h
        obtain ⟨v19, e19, f19⟩ := h.val 8 19 (by kernel_rfl)
        obtain rfl : v19 = .slice (some ⟨gb, 0, none⟩) hs.length cap := f19
        obtain ⟨v20, e20, f20⟩ := h.val 9 20 (by kernel_rfl)
        obtain rfl : v20 = .int .i64 (i : Int) := f20
        have hrel := h.rel
        clear h
        refine gives_by rfl a.eval rfl ?_
        generalize a.eval = ρ at *
        intro hf hc
        go_simp
        exact ⟨relM_quiet (by decide) (Only.refl _ _), rfl⟩
      · intro a wx h
        obtain ⟨v21, e21, f21⟩ := h.val 10 21 (by kernel_rfl)
        obtain rfl : v21 = .pointer (some ⟨gb, i * 4, none⟩) := f21
        have hrel := h.rel
        clear h
        refine gives_by rfl a.eval rfl ?_
        generalize a.eval = ρ at *
        intro hf hc
        go_simp
        exact ⟨relM_quiet (by decide) (Only.refl _ _), rfl⟩
      · intro a wx h
        obtain ⟨v22, e22, f22⟩ := h.val 11 22 (by kernel_rfl)
        obtain rfl : v22 = .pointer (some ⟨gb, i * 4 + 3, none⟩) := f22
        have hrel := h.rel
        clear h
        have cx := (HCC.out wx hrel).2.1
        refine gives_by rfl a.eval rfl ?_
        generalize a.eval = ρ at *
        intro hf hc
        go_simp
        exact ⟨relM_quiet (by decide) (Only.refl _ _), rfl⟩
      · intro a wx h
        obtain ⟨v23, e23, f23⟩ := h.val 12 23 (by kernel_rfl)
        obtain rfl : v23 = .int .i64 (x.pins : Int) := f23
        have hrel := h.rel
        clear h
        refine gives_by rfl a.eval rfl ?_
        generalize a.eval = ρ at *
        intro hf hc
        go_simp
        refine ⟨relM_quiet (by decide) (Only.refl _ _), ?_⟩
        show Value.int .i64 _ = Value.int .i64 ((x.pins : Int) + 1)
        first | rfl | rw [IntWalk.i64_in _ ⟨by omega, by omega⟩]
      · intro a wx h
        obtain ⟨v14, e14, f14⟩ := h.val 3 14 (by kernel_rfl)
        obtain rfl : v14 = .slice (some ⟨gb, 0, none⟩) hs.length cap := f14
        obtain ⟨v15, e15, f15⟩ := h.val 4 15 (by kernel_rfl)
        obtain rfl : v15 = .int .i64 (i : Int) := f15
        have hrel := h.rel
        clear h
        refine gives_by rfl a.eval rfl ?_
        generalize a.eval = ρ at *
        intro hf hc
        go_simp
        exact ⟨relM_quiet (by decide) (Only.refl _ _), rfl⟩
      · intro a wx h
        obtain ⟨v25, e25, f25⟩ := h.val 14 25 (by kernel_rfl)
        obtain rfl : v25 = .pointer (some ⟨gb, i * 4, none⟩) := f25
        have hrel := h.rel
        clear h
        refine gives_by rfl a.eval rfl ?_
        generalize a.eval = ρ at *
        intro hf hc
        go_simp
        exact ⟨relM_quiet (by decide) (Only.refl _ _), rfl⟩
    · intro oL hoL vals w3 ho3 hv
      simp only [List.getElem?_toArray, List.getElem?_cons_succ, List.getElem?_cons_zero, Option.some.injEq] at hoL
      subst hoL
      have hv13 : vals 13 = .int .i64 ((x.pins : Int) + 1) := hv 13 24 (by decide) (by kernel_rfl)
      have hv15 : vals 15 = .pointer (some ⟨gb, i * 4 + 3, none⟩) := hv 15 26 (by decide) (by kernel_rfl)
      clear hv
      generalize hact : putAll _ vals 0 _ = act
      obtain ⟨_, kx, fx⟩ := HCC.out w3 ho3
      have HE2 := hide (HEnd.out w3 ho3)
      clear ho3 HCC HEnd c2 k3
      subst hact
      simp only [List.dropLast, putAll, Act.put, List.setIfInBounds_toArray, List.set_cons_zero, List.set_cons_succ, hv13, hv15, Nat.zero_add, Nat.reduceAdd]
      refine gives_of_skip rfl (w' := w3.setCell ⟨gb, i * 4 + 3, none⟩ (.int .i64 ((x.pins : Int) + 1))) (by go_simp) ?_
      clear hv13 hv15 kx fx
      go_wp2
      go_ret
      exact ⟨rfl, HE2.out⟩

set_option maxHeartbeats 1000000 in
theorem refUnpin_any (kk : Nat) (hkk : kk < 900000) (h : RefC w c r K ch d) (ok : ChOk d.st.length ch) (hf : Few kk ch d) (p : Int) :
    Calls Tryz.prog 27 #[dp c, .int .i64 p] w fun e w' => e = .returned (.int .i64 (unpinC ch p).1) ∧ RefC w' c r K (unpinC ch p).2 d ∧ Only K w w' := by
  obtain ⟨H, G, hs, lv, hC, hm, hR, hap, hin⟩ := h
  have hlen : hs.length = ch.l.length := by rw [← hm]; simp
  have hl64 : hs.length ≤ 64 := by have := ok.few; have := ok.hi; omega
  have hn : ((hs.map (·.1)).map (·.p)).Nodup := by rw [hm]; exact ok.nodup
  cases hx : findC ch.l p with
  | none =>
    have e : unpinC ch p = (4, ch) := by unfold unpinC; rw [hx]
    rw [e]
    have HF := hide (refFind_no w c r H hs ch.size ch.hits ch.misses lv hC hl64 p (find_none hm hx))
    have HE : Hid (RefC w c r K ch d) := ⟨H, G, hs, lv, hC, hm, hR, hap, hin⟩
    clear hC hR hap hin hx e hm ok
    go_enter Tryz.func27, Tryz.ntmps27
    go_wp2_with (go_at_call 41; refine HF.out.mono ?_; rintro e wz ⟨rfl, hw⟩; subst wz; clear HF)
    go_ret
    exact ⟨rfl, HE.out, Only.refl _ _⟩
  | some x =>
    obtain ⟨i, hi, hip⟩ : ∃ i, ∃ hi : i < hs.length, (hs[i].1.p : Int) = p := by
      rcases find_or hs p with hno | h
      · obtain ⟨h1, h2⟩ := findC_some hx
        rw [← hm] at h1
        obtain ⟨y, hy, rfl⟩ := List.mem_map.1 h1
        exact absurd h2 (hno y hy)
      · exact h
    have hxi : hs[i].1 = x := by
      have h1 := findC_mem ok.nodup (h := hs[i].1) (by rw [← hm]; exact List.mem_map_of_mem (List.getElem_mem hi))
      rw [hip, hx] at h1
      exact (Option.some.inj h1).symm
    have HF := hide (refFind_yes w c r H hs ch.size ch.hits ch.misses lv hC hl64 hn p i hi hip)
    obtain ⟨ao, cap, rfl, hcap1, hcap2⟩ := hC.shape
    obtain ⟨gb, rfl, _, k0, k1, k2, k3, kf⟩ := hC.at hi
    have c2 := hC.c2
    have f3 := kf (i * 4 + 3)
    have hpl : x.pins ≤ kk := hf.pins x (findC_some hx).1
    have hii : ¬ (i : Int) < 0 := by omega
    have hil : (i : Int) < (hs.length : Int) := by omega
    by_cases hp0 : x.pins = 0
    · have e : unpinC ch p = (4, ch) := by unfold unpinC; rw [hx]; simp only; rw [if_pos hp0]
      rw [e]
      rw [hxi, hp0] at k3
      have HE : Hid (RefC w c r K ch d) := ⟨H, G, hs, _, hC, hm, hR, hap, hin⟩
      clear hC hR hap hin hx e hm ok hn hip hxi k0 k1 k2 kf hlen hf
      go_enter Tryz.func27, Tryz.ntmps27
      go_wp2_with (go_at_call 41; refine HF.out.mono ?_; rintro e wz ⟨rfl, hw⟩; subst wz; clear HF)
      go_ret
      exact ⟨rfl, HE.out, Only.refl _ _⟩
    have hpz : ((x.pins : Int) == 0) = false := by simp; omega
    have e : unpinC ch p = (0, { ch with l := updC ch.l x.p (fun y => { y with pins := x.pins - 1 }) }) := by unfold unpinC; rw [hx]; simp only; rw [if_neg hp0]
    rw [e]
    have hcast : ((x.pins - 1 : Nat) : Int) = (x.pins : Int) - 1 := by omega
    obtain ⟨hC1, ho1, hHg⟩ := hC.field hi { x with pins := x.pins - 1 } 3 (by omega) (.int .i64 (x.pins - 1 : Nat)) (by rw [hxi]) (by rw [hxi]; rfl)
    have hm1 : (hs.set i ({ x with pins := x.pins - 1 }, hs[i].2)).map (·.1) = updC ch.l x.p (fun y => { y with pins := x.pins - 1 }) := by
      rw [List.map_set, hm]
      have hil : i < ch.l.length := by omega
      have hli : ch.l[i] = x := by
        have : (hs.map (·.1))[i]'(by simpa using hi) = x := by rw [List.getElem_map, hxi]
        rw [← this]
        congr 1
        exact hm.symm
      have := upd_set ok.nodup hil (fun y => { y with pins := x.pins - 1 })
      rw [hli] at this
      exact this
    have HEnd : Hid (∀ wx, Only (fun _ => False) w wx → RefC (wx.setCell ⟨gb, i * 4 + 3, none⟩ (.int .i64 ((x.pins : Int) - 1))) c r K { ch with l := updC ch.l x.p (fun y => { y with pins := x.pins - 1 }) } d ∧ Only K w (wx.setCell ⟨gb, i * 4 + 3, none⟩ (.int .i64 ((x.pins : Int) - 1)))) := fun wx hox => by
      rw [← hcast]
      obtain ⟨hC1, ho1, hHg⟩ := (hC.keep hox (fun _ _ h => h)).field hi { x with pins := x.pins - 1 } 3 (by omega) (.int .i64 (x.pins - 1 : Nat)) (by rw [hxi]) (by rw [hxi]; rfl)
      have hs1 := ho1.size
      have hs2 := hox.size
      exact ⟨⟨H, G, _, _, hC1, hm1, (hR.keep hox (fun _ _ h => h)).keep ho1 (fun k hg e => hap gb hHg (e ▸ hg)), hap, fun k hk => ⟨(hin k hk).1, by have := (hin k hk).2; omega⟩⟩, (hox.mono (fun _ _ h => h.elim)).trans (ho1.mono (fun k _ e => by rw [e]; exact (hin gb (.inl hHg)).1)) (fun _ _ h => h)⟩
    have HCC : Hid (∀ wx, Only (fun _ => False) w wx → wx.cell? ⟨c, 2, none⟩ = some (.slice (some ⟨gb, 0, none⟩) hs.length cap) ∧ wx.cell? ⟨gb, i * 4 + 3, none⟩ = some (.int .i64 x.pins) ∧ wx.frozen? ⟨gb, i * 4 + 3, none⟩ = false) := fun wx ho => by
      have h1 := hC.keep ho (fun _ _ h => h)
      obtain ⟨gb', hgb, _, _, _, _, m3, mf⟩ := h1.at hi
      simp only [Option.some.injEq, Addr.mk.injEq, and_true] at hgb
      subst hgb
      rw [hxi] at m3
      exact ⟨h1.c2, m3, mf _⟩
    rw [hxi] at k3
    have hpi2 : (x.pins : Int) ≤ 900000 := by omega
    clear hcast
    clear hC hR hap hin hx e hm ok hC1 ho1 hHg hm1 hn hip hxi k0 k1 k2 kf hlen hf
    go_enter Tryz.func27, Tryz.ntmps27
    go_wp2_with (go_at_call 41; refine HF.out.mono ?_; rintro e wz ⟨rfl, hw⟩; subst wz; clear HF)
    refine wp_region_only (fun _ => False) [isV (.pointer (some ⟨c, 0, none⟩)), isV (.pointer (some ⟨c, 0, none⟩)), isV (.pointer (some ⟨c, 2, none⟩)), isV (.slice (some ⟨gb, 0, none⟩) hs.length cap), isV (.int .i64 (i : Int)), isV (.pointer (some ⟨c, 0, none⟩)), isV (.pointer (some ⟨c, 0, none⟩)), isV (.pointer (some ⟨c, 2, none⟩)), isV (.slice (some ⟨gb, 0, none⟩) hs.length cap), isV (.int .i64 (i : Int)), isV (.pointer (some ⟨gb, i * 4, none⟩)), isV (.pointer (some ⟨gb, i * 4 + 3, none⟩)), isV (.int .i64 (x.pins : Int)), isV (.int .i64 ((x.pins : Int) - 1)), isV (.pointer (some ⟨gb, i * 4, none⟩)), isV (.pointer (some ⟨gb, i * 4 + 3, none⟩))] 99 38 16 (by kernel_rfl) (by kernel_rfl) (by kernel_rfl) (by kernel_rfl) rfl ?_ ?_ ?_
    · repeat (first | exact trivial | refine allStL_isV ?_)
    · refine ⟨?_, ?_, ?_, ?_, ?_, ?_, ?_, ?_, ?_, ?_, ?_, ?_, ?_, ?_, ?_, ?_, trivial⟩
      · intro a wx h
        have e0 : a.eval (.tmp 0) = .pointer (some ⟨c, 0, none⟩) := h.old 0 (by kernel_rfl)
        have hrel := h.rel
        clear h
        refine gives_by rfl a.eval rfl ?_
        generalize a.eval = ρ at *
        intro hf hc
        go_simp
        exact ⟨relM_quiet (by decide) (Only.refl _ _), rfl⟩
      · intro a wx h
        obtain ⟨v22, e22, f22⟩ := h.val 0 22 (by kernel_rfl)
        obtain rfl : v22 = .pointer (some ⟨c, 0, none⟩) := f22
        have hrel := h.rel
        clear h
        refine gives_by rfl a.eval rfl ?_
        generalize a.eval = ρ at *
        intro hf hc
        go_simp
        exact ⟨relM_quiet (by decide) (Only.refl _ _), rfl⟩
      · intro a wx h
        obtain ⟨v23, e23, f23⟩ := h.val 1 23 (by kernel_rfl)
        obtain rfl : v23 = .pointer (some ⟨c, 0, none⟩) := f23
        have hrel := h.rel
        clear h
        refine gives_by rfl a.eval rfl ?_
        generalize a.eval = ρ at *
        intro hf hc
        go_simp
        exact ⟨relM_quiet (by decide) (Only.refl _ _), rfl⟩
      · intro a wx h
        obtain ⟨v24, e24, f24⟩ := h.val 2 24 (by kernel_rfl)
        obtain rfl : v24 = .pointer (some ⟨c, 2, none⟩) := f24
        have hrel := h.rel
        clear h
        have cx := (HCC.out wx hrel).1
        refine gives_by rfl a.eval rfl ?_
        generalize a.eval = ρ at *
        intro hf hc
        go_simp
        exact ⟨relM_quiet (by decide) (Only.refl _ _), rfl⟩
      · intro a wx h
        have e5 : a.eval (.tmp 5) = .int .i64 (i : Int) := h.old 5 (by kernel_rfl)
        have hrel := h.rel
        clear h
        refine gives_by rfl a.eval rfl ?_
        generalize a.eval = ρ at *
        intro hf hc
        go_simp
        exact ⟨relM_quiet (by decide) (Only.refl _ _), rfl⟩
      · intro a wx h
        have e0 : a.eval (.tmp 0) = .pointer (some ⟨c, 0, none⟩) := h.old 0 (by kernel_rfl)
        have hrel := h.rel
        clear h
        refine gives_by rfl a.eval rfl ?_
        generalize a.eval = ρ at *
        intro hf hc
        go_simp
        exact ⟨relM_quiet (by decide) (Only.refl _ _), rfl⟩
      · intro a wx h
        obtain ⟨v27, e27, f27⟩ := h.val 5 27 (by kernel_rfl)
        obtain rfl : v27 = .pointer (some ⟨c, 0, none⟩) := f27
        have hrel := h.rel
        clear h
        refine gives_by rfl a.eval rfl ?_
        generalize a.eval = ρ at *
        intro hf hc
        go_simp
        exact ⟨relM_quiet (by decide) (Only.refl _ _), rfl⟩
      · intro a wx h
        obtain ⟨v28, e28, f28⟩ := h.val 6 28 (by kernel_rfl)
        obtain rfl : v28 = .pointer (some ⟨c, 0, none⟩) := f28
        have hrel := h.rel
        clear h
        refine gives_by rfl a.eval rfl ?_
        generalize a.eval = ρ at *
        intro hf hc
        go_simp
        exact ⟨relM_quiet (by decide) (Only.refl _ _), rfl⟩
      · intro a wx h
        obtain ⟨v29, e29, f29⟩ := h.val 7 29 (by kernel_rfl)
        obtain rfl : v29 = .pointer (some ⟨c, 2, none⟩) := f29
        have hrel := h.rel
        clear h
        have cx := (HCC.out wx hrel).1
        refine gives_by rfl a.eval rfl ?_
        generalize a.eval = ρ at *
        intro hf hc
        go_simp
        exact ⟨relM_quiet (by decide) (Only.refl _ _), rfl⟩
      · intro a wx h
        have e5 : a.eval (.tmp 5) = .int .i64 (i : Int) := h.old 5 (by kernel_rfl)
        have hrel := h.rel
        clear h
        refine gives_by rfl a.eval rfl ?_
        generalize a.eval = ρ at *
        intro hf hc
        go_simp
        exact ⟨relM_quiet (by decide) (Only.refl _ _), rfl⟩
      · intro a wx h
        obtain ⟨v30, e30, f30⟩ := h.val 8 30 (by kernel_rfl)
        obtain rfl : v30 = .slice (some ⟨gb, 0, none⟩) hs.length cap := f30
        obtain ⟨v31, e31, f31⟩ := h.val 9 31 (by kernel_rfl)
        obtain rfl : v31 = .int .i64 (i : Int) := f31
        have hrel := h.rel
        clear h
        refine gives_by rfl a.eval rfl ?_
        generalize a.eval = ρ at *
        intro hf hc
        go_simp
        exact ⟨relM_quiet (by decide) (Only.refl _ _), rfl⟩
      · intro a wx h
        obtain ⟨v32, e32, f32⟩ := h.val 10 32 (by kernel_rfl)
        obtain rfl : v32 = .pointer (some ⟨gb, i * 4, none⟩) := f32
        have hrel := h.rel
        clear h
        refine gives_by rfl a.eval rfl ?_
        generalize a.eval = ρ at *
        intro hf hc
        go_simp
        exact ⟨relM_quiet (by decide) (Only.refl _ _), rfl⟩
      · intro a wx h
        obtain ⟨v33, e33, f33⟩ := h.val 11 33 (by kernel_rfl)
        obtain rfl : v33 = .pointer (some ⟨gb, i * 4 + 3, none⟩) := f33
        have hrel := h.rel
        clear h
        have cx := (HCC.out wx hrel).2.1
        refine gives_by rfl a.eval rfl ?_
        generalize a.eval = ρ at *
        intro hf hc
        go_simp
        exact ⟨relM_quiet (by decide) (Only.refl _ _), rfl⟩
      · intro a wx h
        obtain ⟨v34, e34, f34⟩ := h.val 12 34 (by kernel_rfl)
        obtain rfl : v34 = .int .i64 (x.pins : Int) := f34
        have hrel := h.rel
        clear h
        refine gives_by rfl a.eval rfl ?_
        generalize a.eval = ρ at *
        intro hf hc
        go_simp
        refine ⟨relM_quiet (by decide) (Only.refl _ _), ?_⟩
        show Value.int .i64 _ = Value.int .i64 ((x.pins : Int) - 1)
        first | rfl | rw [IntWalk.i64_in _ ⟨by omega, by omega⟩]
      · intro a wx h
        obtain ⟨v25, e25, f25⟩ := h.val 3 25 (by kernel_rfl)
        obtain rfl : v25 = .slice (some ⟨gb, 0, none⟩) hs.length cap := f25
        obtain ⟨v26, e26, f26⟩ := h.val 4 26 (by kernel_rfl)
        obtain rfl : v26 = .int .i64 (i : Int) := f26
        have hrel := h.rel
        clear h
        refine gives_by rfl a.eval rfl ?_
        generalize a.eval = ρ at *
        intro hf hc
        go_simp
        exact ⟨relM_quiet (by decide) (Only.refl _ _), rfl⟩
      · intro a wx h
        obtain ⟨v36, e36, f36⟩ := h.val 14 36 (by kernel_rfl)
        obtain rfl : v36 = .pointer (some ⟨gb, i * 4, none⟩) := f36
        have hrel := h.rel
        clear h
        refine gives_by rfl a.eval rfl ?_
        generalize a.eval = ρ at *
        intro hf hc
        go_simp
        exact ⟨relM_quiet (by decide) (Only.refl _ _), rfl⟩
    · intro oL hoL vals w3 ho3 hv
      simp only [List.getElem?_toArray, List.getElem?_cons_succ, List.getElem?_cons_zero, Option.some.injEq] at hoL
      subst hoL
      have hv13 : vals 13 = .int .i64 ((x.pins : Int) - 1) := hv 13 35 (by decide) (by kernel_rfl)
      have hv15 : vals 15 = .pointer (some ⟨gb, i * 4 + 3, none⟩) := hv 15 37 (by decide) (by kernel_rfl)
      clear hv
      generalize hact : putAll _ vals 0 _ = act
      obtain ⟨_, kx, fx⟩ := HCC.out w3 ho3
      have HE2 := hide (HEnd.out w3 ho3)
      clear ho3 HCC HEnd c2 k3
      subst hact
      simp only [List.dropLast, putAll, Act.put, List.setIfInBounds_toArray, List.set_cons_zero, List.set_cons_succ, hv13, hv15, Nat.zero_add, Nat.reduceAdd]
      refine gives_of_skip rfl (w' := w3.setCell ⟨gb, i * 4 + 3, none⟩ (.int .i64 ((x.pins : Int) - 1))) (by go_simp) ?_
      clear hv13 hv15 kx fx
      go_wp2
      go_ret
      exact ⟨rfl, HE2.out⟩

set_option maxHeartbeats 1000000 in
theorem refForget_any (kk : Nat) (hkk : kk < 900000) (h : RefC w c r K ch d) (ok : ChOk d.st.length ch) (hf : Few kk ch d) (p : Int) :
    Calls Tryz.prog 29 #[dp c, .int .i64 p] w fun e w' => e = .returned (.int .i64 (forgetC ch p).1) ∧ RefC w' c r (fun k => K k ∨ w.heap.size ≤ k) (forgetC ch p).2 d ∧ Only K w w' := by
  obtain ⟨H, G, hs, lv, hC, hm, hR, hap, hin⟩ := h
  have hlen : hs.length = ch.l.length := by rw [← hm]; simp
  have hl64 : hs.length ≤ 64 := by have := ok.few; have := ok.hi; omega
  have hn : ((hs.map (·.1)).map (·.p)).Nodup := by rw [hm]; exact ok.nodup
  have hE : RefC w c r (fun k => K k ∨ w.heap.size ≤ k) ch d := RefC.mono ⟨H, G, hs, lv, hC, hm, hR, hap, hin⟩ (fun _ _ h => .inl h)
  cases hx : findC ch.l p with
  | none =>
    have e : forgetC ch p = (4, ch) := by unfold forgetC; rw [hx]
    rw [e]
    have HF := hide (refFind_no w c r H hs ch.size ch.hits ch.misses lv hC hl64 p (find_none hm hx))
    have HE := hide hE
    clear hC hR hap hin hx e hm ok hE
    go_enter Tryz.func29, Tryz.ntmps29
    go_wp2_with (go_at_call 41; refine HF.out.mono ?_; rintro e wz ⟨rfl, hw⟩; subst wz; clear HF)
    go_ret
    exact ⟨rfl, HE.out, Only.refl _ _⟩
  | some x =>
    obtain ⟨i, hi, hip⟩ : ∃ i, ∃ hi : i < hs.length, (hs[i].1.p : Int) = p := by
      rcases find_or hs p with hno | h
      · obtain ⟨h1, h2⟩ := findC_some hx
        rw [← hm] at h1
        obtain ⟨y, hy, rfl⟩ := List.mem_map.1 h1
        exact absurd h2 (hno y hy)
      · exact h
    have hxi : hs[i].1 = x := by
      have h1 := findC_mem ok.nodup (h := hs[i].1) (by rw [← hm]; exact List.mem_map_of_mem (List.getElem_mem hi))
      rw [hip, hx] at h1
      exact (Option.some.inj h1).symm
    have HF := hide (refFind_yes w c r H hs ch.size ch.hits ch.misses lv hC hl64 hn p i hi hip)
    have HO := hide (refOut_any w c r H hs ch.size ch.hits ch.misses lv hC hl64 i hi)
    obtain ⟨ao, cap, rfl, hcap1, hcap2⟩ := hC.shape
    obtain ⟨gb, rfl, _, k0, k1, k2, k3, kf⟩ := hC.at hi
    have c2 := hC.c2
    have hii : ¬ (i : Int) < 0 := by omega
    have hil : (i : Int) < (hs.length : Int) := by omega
    have hpl : x.pins ≤ kk := hf.pins x (findC_some hx).1
    rw [hxi] at k3
    by_cases hp0 : x.pins = 0
    · have e : forgetC ch p = (0, { ch with l := lessC ch.l x.p }) := by unfold forgetC; rw [hx]; simp only; rw [if_pos hp0]
      rw [e]
      rw [hp0] at k3
      have hli : ch.l[i]'(by omega) = x := by
        have : (hs.map (·.1))[i]'(by simpa using hi) = x := by rw [List.getElem_map, hxi]
        rw [← this]
        congr 1
        exact hm.symm
      have hme : (hs.eraseIdx i).map (·.1) = lessC ch.l x.p := by rw [map_erase, hm, erase_less ok.nodup (by omega), hli]
      have HEnd : Hid (∀ w' lv', RcAt w' c r (fun k => H k ∨ w.heap.size ≤ k) (hs.eraseIdx i) ch.size ch.hits ch.misses lv' → Only (· = c) w w' → RefC w' c r (fun k => K k ∨ w.heap.size ≤ k) { ch with l := lessC ch.l x.p } d ∧ Only K w w') := fun w' lv' h1 h2 =>
        ⟨refC_step hin hap h1 hme (hR.keep h2 (fun k hg e => by rw [e] at hg; exact hap c hC.fc hg)) (fun k hk => hk) (fun k hk => .inl hk) (fun k hk hk2 hh hg => by have := (hin k (.inr hg)).2; omega) h2.size, h2.mono (fun k _ e => by rw [e]; exact (hin c (.inl hC.fc)).1)⟩
      clear hC hR hap hin hx e hm ok hn hip hxi k0 k1 k2 kf hlen hf hE hli hme
      go_enter Tryz.func29, Tryz.ntmps29
      go_wp2_with (first
        | (go_at_call 41; refine HF.out.mono ?_; rintro e wz ⟨rfl, hw⟩; subst wz; clear HF)
        | (go_at_call 65; refine HO.out.mono ?_; rintro e w2 ⟨rfl, ⟨lv2, h2⟩, ho2⟩; have HE2 := hide (HEnd.out w2 lv2 h2 ho2); clear HO h2 ho2 HEnd))
      go_ret
      exact ⟨rfl, HE2.out⟩
    · have e : forgetC ch p = (7, ch) := by unfold forgetC; rw [hx]; simp only; rw [if_neg hp0]
      rw [e]
      have hpp : (0 : Int) < (x.pins : Int) := by omega
      have HE := hide hE
      clear hC hR hap hin hx e hm ok hn hip hxi k0 k1 k2 kf hlen hf hE HO
      go_enter Tryz.func29, Tryz.ntmps29
      go_wp2_with (go_at_call 41; refine HF.out.mono ?_; rintro e wz ⟨rfl, hw⟩; subst wz; clear HF)
      go_ret
      exact ⟨rfl, HE.out, Only.refl _ _⟩
end

end Go.Proofs.YtoplhehcjgldeaaGreat
