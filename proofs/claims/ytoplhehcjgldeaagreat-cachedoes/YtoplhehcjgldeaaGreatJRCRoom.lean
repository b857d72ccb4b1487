/- Contract of the document's own cache: room. -/
import Derived.Test.YtoplhehcjgldeaaGreatJRCBase
import Derived.BigQuiet
namespace Go.Proofs.YtoplhehcjgldeaaGreat
open Go.RowKit
set_option linter.unusedVariables false
set_option maxRecDepth 100000

def isRw (e : Int) (r : Nat) (G : Nat → Prop) (d : Dv) : Value → World → Prop := fun v w => v = .int .i64 e ∧ Ref w r G d
theorem stS_isRw (e : Int) (r : Nat) (G : Nat → Prop) (d : Dv) : StS (fun _ => False) (isRw e r G d) := by
  intro v w w' ho h
  exact ⟨h.1, h.2.keep ho (fun _ _ h => h)⟩
theorem writeR_q {d : Dv} {p : Nat} {zs : List Int} (hp : p < d.st.length) (hz : zs.length = 256) : writeR d p zs = writeQ d p zs := by
  unfold writeR writeQ writeD
  rw [if_pos ⟨⟨by omega, by omega⟩, hz⟩]
  rfl
theorem refWrite_q (w : World) (r : Nat) (G : Nat → Prop) (d : Dv) (p : Nat) (v : Value) (zs : List Int) (h : Ref w r G d) (hp : p < d.st.length) (hS : Sl w v zs) (hz : zs.length = 256) (hv : ∀ k, v.ownBlock = some k → ¬ G k) (hwl : d.ws.length < 1000000) (hdl : d.done < 1000000000) :
    Calls Tryz.prog 68 #[dp r, .int .i64 p, v] w fun e w' => e = .returned (.int .i64 (writeQ d p zs).1) ∧ Ref w' r (fun k => G k ∨ w.heap.size ≤ k) (writeQ d p zs).2 ∧ Only G w w' := by
  have := refWrite_all w r G d p v zs h hS (fun _ => hv) hwl hdl
  rwa [writeR_q hp hz] at this

theorem goesC_idx {l : List Hd} {i : Nat} (hi : i < l.length) (h0 : ∀ j, ∀ hj : j < l.length, i < j → l[j].pins ≠ 0) (h1 : l[i].pins = 0) : goesC l = some l[i] := by
  have hk : l.length - 1 - i < l.reverse.length := by simp; omega
  have e : l.reverse[l.length - 1 - i] = l[i] := by
    rw [List.getElem_reverse]
    congr 1
    omega
  rw [← e]
  refine goesC_at hk (fun j hj => ?_) (by rw [e]; exact h1)
  rw [List.getElem_reverse]
  exact h0 _ (by omega) (by omega)

section
variable {w w' : World} {c r : Nat} {K K' : Nat → Prop} {ch ch' : Ch} {d d' : Dv} {H G H' G' : Nat → Prop} {hs' : List (Hd × Value)} {lv' : Value}
/-- the document's cache again, behind a step -/
theorem refC_step (hin : ∀ k, H k ∨ G k → K k ∧ k < w.heap.size) (hap : ∀ k, H k → ¬ G k) (hC : RcAt w' c r H' hs' ch'.size ch'.hits ch'.misses lv') (hm : hs'.map (·.1) = ch'.l) (hR : Ref w' r G' d') (hH : ∀ k, H' k → H k ∨ w.heap.size ≤ k) (hG : ∀ k, G' k → G k ∨ w.heap.size ≤ k) (hap' : ∀ k, k < w'.heap.size → w.heap.size ≤ k → H' k → ¬ G' k) (ho : w.heap.size ≤ w'.heap.size) : RefC w' c r (fun k => K k ∨ w.heap.size ≤ k) ch' d' := by
  have hb : ∀ x ∈ hs', Sl w' x.2 x.1.bs ∧ ∀ k, x.2.ownBlock = some k → (H' k ∧ k < w'.heap.size) ∧ k ≠ c ∧ lv'.ownBlock ≠ some k ∧ k < w'.heap.size := fun x hx => ⟨(hC.bys x hx).1, fun k hk => ⟨⟨((hC.bys x hx).2 k hk).1, ((hC.bys x hx).2 k hk).2.2.2⟩, ((hC.bys x hx).2 k hk).2⟩⟩
  refine ⟨fun k => H' k ∧ k < w'.heap.size, fun k => G' k ∧ k < w'.heap.size, hs', lv', ⟨hC.blk, hC.row, hb, ⟨hC.fc, hC.blk.lt⟩, fun k hk => ⟨hC.fl k hk, (hC.row.lt k hk).2⟩⟩, hm, hR.bound, fun k h1 h2 => ?_, fun k hk => ⟨?_, hk.elim (·.2) (·.2)⟩⟩
  · rcases hH k h1.1 with h | h
    · rcases hG k h2.1 with g | g
      · exact hap k h g
      · have := (hin k (.inl h)).2; omega
    · exact hap' k h1.2 h h1.1 h2.1
  · rcases hk with h | h
    · rcases hH k h.1 with h | h
      · exact .inl (hin k (.inl h)).1
      · exact .inr h
    · rcases hG k h.1 with h | h
      · exact .inl (hin k (.inr h)).1
      · exact .inr h
theorem RefC.keep {T : Nat → Prop} (h : RefC w c r K ch d) (ho : Only T w w') (hn : ∀ k, K k → ¬ T k) : RefC w' c r K ch d := by
  obtain ⟨H, G, hs, lv, h1, h2, h3, h4, h5⟩ := h
  exact ⟨H, G, hs, lv, h1.keep ho (fun k hk => hn k (h5 k (.inl hk)).1), h2, h3.keep ho (fun k hk => hn k (h5 k (.inr hk)).1), h4, fun k hk => ⟨(h5 k hk).1, Nat.lt_of_lt_of_le (h5 k hk).2 ho.size⟩⟩
theorem RefC.below (h : RefC w c r K ch d) (hb : Below w.heap.size w w') : RefC w' c r K ch d := h.keep (Only.of_below (fun _ => False) hb) (fun _ _ h => h)
theorem RefC.mono (h : RefC w c r K ch d) (hK : ∀ k, k < w.heap.size → K k → K' k) : RefC w c r K' ch d := by
  obtain ⟨H, G, hs, lv, h1, h2, h3, h4, h5⟩ := h
  exact ⟨H, G, hs, lv, h1, h2, h3, h4, fun k hk => ⟨hK k (h5 k hk).2 (h5 k hk).1, (h5 k hk).2⟩⟩
theorem RefC.bound (h : RefC w c r K ch d) : RefC w c r (fun k => K k ∧ k < w.heap.size) ch d := h.mono (fun k hk h => ⟨h, hk⟩)
end

set_option maxHeartbeats 2000000 in
theorem refRoom_any (w : World) (c r : Nat) (K : Nat → Prop) (ch : Ch) (d : Dv) (kk : Nat) (hkk : kk < 900000) (h : RefC w c r K ch d) (ok : ChOk d.st.length ch) (hf : Few kk ch d) :
    Calls Tryz.prog 62 #[dp c] w fun e w' => e = .returned (.int .i64 (roomC ch d).1) ∧ RefC w' c r (fun k => K k ∨ w.heap.size ≤ k) (roomC ch d).2.1 (roomC ch d).2.2 ∧ Only K w w' := by
  obtain ⟨H, G, hs, lv, hC, hm, hR, hap, hin⟩ := h
  obtain ⟨ao, cap, rfl, hcap1, hcap2⟩ := hC.shape
  have hlen : hs.length = ch.l.length := by rw [← hm]; simp
  have hfew := ok.few
  have hhi := ok.hi
  have c1 := hC.c1
  have c2 := hC.c2
  obtain ⟨e1, e2, e3⟩ := roomC_size ch d
  by_cases hl : ch.l.length < ch.size
  · have er : roomC ch d = (0, ch, d) := by unfold roomC; rw [if_pos hl]
    rw [er]
    have hlt : (hs.length : Int) < (ch.size : Int) := by omega
    have HEnd : Hid (∀ n, RefC (w.drewN n) c r (fun k => K k ∨ w.heap.size ≤ k) ch d ∧ Only K w (w.drewN n)) := fun n => by
      have ho := (Only.refl K w).drewN n
      have ho0 := (Only.refl (fun _ => False) w).drewN n
      exact ⟨refC_step hin hap (hC.keep ho0 (fun _ _ h => h)) hm (hR.keep ho0 (fun _ _ h => h)) (fun _ h => .inl h) (fun _ h => .inl h) (fun k hk hk2 hh => by have := (hin k (.inl hh)).2; omega) (Nat.le_refl _), ho⟩
    clear hC hR hap hin
    go_enter Tryz.func62, Tryz.ntmps62
    go_wp2
    go_quiet (fail)
    go_wp2
    go_ret
    exact ⟨rfl, HEnd.out _⟩
  · have HRM : Hid (roomC ch d = match goesC ch.l with
      | none => (6, ch, d)
      | some h => if h.ch = true then (if (writeQ d h.p h.bs).1 = 0 then (0, { ch with l := lessC ch.l h.p }, (writeQ d h.p h.bs).2) else ((writeQ d h.p h.bs).1, ch, (writeQ d h.p h.bs).2)) else (0, { ch with l := lessC ch.l h.p }, d)) := by
      show _ = _
      unfold roomC
      rw [if_neg hl]
      rfl
    have hlt : ¬ (hs.length : Int) < (ch.size : Int) := by omega
    have hl64 : hs.length ≤ 64 := by omega
    have HLEN := hide hlen
    obtain ⟨R, hRR⟩ : ∃ R, roomC ch d = R := ⟨_, rfl⟩
    rw [hRR] at HRM e1 e2 e3 ⊢
    have HC := hide hC
    have HR := hide hR
    have HAP := hide hap
    have HIN := hide hin
    have HM := hide hm
    have HOK := hide ok
    clear hC hR hap hin hm ok hRR hlen
    go_enter Tryz.func62, Tryz.ntmps62
    go_wp2
    go_quiet (fail)
    obtain ⟨w0, hw0⟩ : ∃ w0, w.drewN nq = w0 := ⟨_, rfl⟩
    have HO0 : Hid (Only (fun _ => False) w w0) := hw0 ▸ (Only.refl (fun _ => False) w).drewN nq
    have HC0 := hide (HC.out.keep HO0.out (fun _ _ h => h))
    have HR0 := hide (HR.out.keep HO0.out (fun _ _ h => h))
    rw [hw0]
    have HSZ : Hid (w.heap.size = w0.heap.size) := by show _ = _; rw [← hw0]; rfl
    clear c1 c2 hw0 HC HR
    have c2 := HC0.out.c2
    go_wp2
    go_loopg [3, 4] hs.length (fun g i ev wr => i = .int .i64 ((g : Int) - 1) ∧ g ≤ hs.length ∧ (∀ j, ∀ hj : j < hs.length, g ≤ j → hs[j].1.pins ≠ 0) ∧ w0 = wr)
    case atStart => exact ⟨rfl, Nat.le_refl _, fun j hj h => by omega, rfl⟩
    case round =>
      obtain ⟨rfl, hg, hno, rfl⟩ := hrel
      have HNO := hide hno
      clear hno
      cases gk with
      | zero =>
        have HE : Hid (R = (6, ch, d)) := by
          have hnone : goesC ch.l = none := by
            apply List.find?_eq_none.2
            intro x hx
            rw [← HM.out] at hx
            obtain ⟨y, hy, rfl⟩ := List.mem_map.1 (List.mem_reverse.1 hx)
            obtain ⟨j, hj, rfl⟩ := List.mem_iff_getElem.1 hy
            simpa using HNO.out j hj (Nat.zero_le _)
          have := HRM.out
          rw [hnone] at this
          exact this
        go_wp2
        go_ret
        rw [HE.out]
        exact ⟨rfl, refC_step HIN.out HAP.out HC0.out HM.out HR0.out (fun _ h => .inl h) (fun _ h => .inl h) (fun k hk hk2 hh => by have := (HIN.out k (.inl hh)).2; omega) (by rw [HSZ.out]; exact Nat.le_refl _), HO0.out.mono (fun _ _ h => h.elim)⟩
      | succ g =>
        have hgl : g < hs.length := by omega
        have hgi : (g : Int) < (hs.length : Int) := by omega
        rw [show ((g + 1 : Nat) : Int) - 1 = (g : Int) by omega]
        obtain ⟨gb, rfl, _, k0, k1, k2, k3, _⟩ := HC0.out.at hgl
        have hbx := HC0.out.bys _ (List.getElem_mem hgl)
        obtain ⟨x, hx⟩ : ∃ x, hs[g] = x := ⟨_, rfl⟩
        rw [hx] at k0 k1 k2 k3 hbx
        have hxm : x.1 ∈ ch.l := by rw [← HM.out]; exact List.mem_map_of_mem (hx ▸ List.getElem_mem hgl)
        have hpins := hf.pins _ hxm
        have hpg := HOK.out.pages _ hxm
        have hlg : ch.l[g]'(by have := HLEN.out; omega) = x.1 := by
          have : (hs.map (·.1))[g]'(by simpa using hgl) = x.1 := by rw [List.getElem_map, hx]
          rw [← this]
          congr 1
          exact HM.out.symm
        by_cases hp0 : x.1.pins = 0
        · have HG : Hid (goesC ch.l = some x.1) := by
            show _ = _
            rw [← hlg]
            have hLE := HLEN.out
            refine goesC_idx (by omega) (fun j hj hgj => ?_) (by rw [hlg]; exact hp0)
            have := HNO.out j (by omega) (by omega)
            have e : ch.l[j] = (hs[j]'(by omega)).1 := by
              have : (hs.map (·.1))[j]'(by simp; omega) = (hs[j]'(by omega)).1 := List.getElem_map _
              rw [← this]
              congr 1
              exact HM.out.symm
            rw [e]
            exact this
          rw [HG.out] at HRM
          rw [hp0] at k3
          have HLS : Hid ((hs.eraseIdx g).map (·.1) = lessC ch.l x.1.p) := by
            show _ = _
            rw [map_erase, HM.out, erase_less HOK.out.nodup (by have := HLEN.out; omega), hlg]
          cases hch : x.1.ch with
          | false =>
            rw [hch] at k2
            have HE : Hid (R = (0, { ch with l := lessC ch.l x.1.p }, d)) := by
              have := HRM.out
              simp only [hch, Bool.false_eq_true, if_false] at this
              exact this
            have HOU := hide (refOut_any w0 c r H hs ch.size ch.hits ch.misses _ HC0.out (by omega) g hgl)
            clear HRM HG hch hp0 hbx k0 k1
            go_wp2_with (go_at_call 65; refine HOU.out.mono ?_; rintro e w2 ⟨rfl, ⟨lv2, h2⟩, ho2⟩; have HC2 := hide h2; have HO2 := hide ho2; clear HOU h2 ho2)
            go_ret
            rw [HE.out]
            have hsz := HSZ.out
            have hHc := HC0.out.fc
            refine ⟨rfl, refC_step HIN.out HAP.out HC2.out HLS.out (HR0.out.keep HO2.out (fun k hg e => by rw [e] at hg; exact HAP.out c hHc hg)) (fun k hk => hk.imp_right (fun hk => by omega)) (fun _ h => .inl h) (fun k hk hk2 hh hg => by have := (HIN.out k (.inr hg)).2; omega) (by have := HO2.out.size; omega), (HO0.out.mono (fun _ _ h => h.elim)).trans (HO2.out.mono (fun k _ e => by rw [e]; exact (HIN.out c (.inl hHc)).1)) (fun _ _ h => h)⟩
          | true =>
            rw [hch] at k2
            have HWR : Hid (∀ wx, Only (fun _ => False) w0 wx → Calls Tryz.prog 68 #[dp r, .int .i64 x.1.p, x.2] wx fun e w' => e = .returned (.int .i64 (writeQ d x.1.p x.1.bs).1) ∧ Ref w' r (fun k => G k ∨ w0.heap.size ≤ k) (writeQ d x.1.p x.1.bs).2 ∧ Only G wx w') := fun wx ho => by
              refine (refWrite_q wx r G d x.1.p x.2 x.1.bs (HR0.out.keep ho (fun _ _ h => h)) hpg.1 (hbx.1.only ho (fun _ _ h => h)) hpg.2.1 (fun k hk hg => HAP.out k (hbx.2 k hk).1 hg) (by have := hf.ws; omega) (by have := hf.done; omega)).mono ?_
              rintro e w' ⟨rfl, h1, h2⟩
              exact ⟨rfl, h1.mono (fun k _ hk => hk.imp_right (fun hk => Nat.le_trans ho.size hk)), h2⟩
            have HRM2 : Hid (R = if (writeQ d x.1.p x.1.bs).1 = 0 then (0, { ch with l := lessC ch.l x.1.p }, (writeQ d x.1.p x.1.bs).2) else ((writeQ d x.1.p x.1.bs).1, ch, (writeQ d x.1.p x.1.bs).2)) := by
              have := HRM.out
              simp only [hch, if_true] at this
              exact this
            have HST : Hid ((writeQ d x.1.p x.1.bs).2.st = d.st) := writeQ_st _ _ _
            have HCK : Hid (∀ wx, Only G w0 wx → RcAt wx c r H hs ch.size ch.hits ch.misses (.slice (some ⟨gb, 0, none⟩) hs.length cap)) := fun wx ho => HC0.out.keep ho (fun k => HAP.out k)
            have HOUT : Hid (∀ w3, Only G w0 w3 → Calls Tryz.prog 65 #[dp c, .int .i64 g] w3 _) := fun w3 ho => refOut_any w3 c r H hs ch.size ch.hits ch.misses _ (HCK.out w3 ho) hl64 g hgl
            obtain ⟨au, cu, hu⟩ := sl_form' hbx.1
            obtain ⟨nu, hnu⟩ : ∃ nu, x.1.bs.length = nu := ⟨_, rfl⟩
            rw [hnu] at hu
            have HCC : Hid (∀ wx, Only G w0 wx → wx.cell? ⟨c, 0, none⟩ = some (dp r) ∧ wx.cell? ⟨c, 2, none⟩ = some (.slice (some ⟨gb, 0, none⟩) hs.length cap) ∧ wx.cell? ⟨gb, g * 4, none⟩ = some (.int .i64 x.1.p) ∧ wx.cell? ⟨gb, g * 4 + 1, none⟩ = some (.slice au nu cu)) := fun wx ho => by
              have h1 := HCK.out wx ho
              obtain ⟨gb', hgb, _, m0, m1, _⟩ := h1.at hgl
              simp only [Option.some.injEq, Addr.mk.injEq, and_true] at hgb
              subst hgb
              rw [hx] at m0 m1
              rw [hu] at m1
              exact ⟨h1.c0, h1.c2, m0, m1⟩
            rw [hu] at k1 HWR
            obtain ⟨E, hE⟩ : ∃ E, (writeQ d x.1.p x.1.bs).1 = E := ⟨_, rfl⟩
            obtain ⟨d', hd'⟩ : ∃ d', (writeQ d x.1.p x.1.bs).2 = d' := ⟨_, rfl⟩
            rw [hE, hd'] at HWR HRM2
            rw [hd'] at HST
            obtain ⟨P, hP⟩ : ∃ P, x.1.p = P := ⟨_, rfl⟩
            rw [hP] at HWR HCC k0 HRM2 HLS
            have HWQ := HWR
            clear HRM HG hch hp0 hE hd' hbx hu hnu hP hlg hxm hx hpg hpins HWR
            go_wp2
            refine wp_region_only G [isV (.pointer (some ⟨c, 0, none⟩)), isV (.pointer (some ⟨c, 0, none⟩)), isV (.pointer (some ⟨c, 0, none⟩)), isV (dp r), isV (.pointer (some ⟨c, 0, none⟩)), isV (.pointer (some ⟨c, 0, none⟩)), isV (.pointer (some ⟨c, 2, none⟩)), isV (.slice (some ⟨gb, 0, none⟩) hs.length cap), isV (.int .i64 (g : Int)), isV (.pointer (some ⟨gb, g * 4, none⟩)), isV (.pointer (some ⟨gb, g * 4, none⟩)), isV (.int .i64 (P : Int)), isV (.pointer (some ⟨c, 0, none⟩)), isV (.pointer (some ⟨c, 0, none⟩)), isV (.pointer (some ⟨c, 2, none⟩)), isV (.slice (some ⟨gb, 0, none⟩) hs.length cap), isV (.int .i64 (g : Int)), isV (.pointer (some ⟨gb, g * 4, none⟩)), isV (.pointer (some ⟨gb, g * 4 + 1, none⟩)), isV (.slice au nu cu), isRw E r (fun k => G k ∨ w0.heap.size ≤ k) d'] 20 69 21 (by kernel_rfl) (by kernel_rfl) (by kernel_rfl) (by kernel_rfl) rfl ?_ ?_ ?_
            · repeat (first | exact trivial | refine allStL_isV ?_ | refine ⟨stS_isRw _ _ _ _, fun h => absurd rfl h, ?_⟩)
            · refine ⟨?_, ?_, ?_, ?_, ?_, ?_, ?_, ?_, ?_, ?_, ?_, ?_, ?_, ?_, ?_, ?_, ?_, ?_, ?_, ?_, ?_, trivial⟩
              · intro a wx h
                have e0 : a.eval (.tmp 0) = .pointer (some ⟨c, 0, none⟩) := h.old 0 (by kernel_rfl)
                have hrel := h.rel
                clear h
                refine gives_by rfl a.eval rfl ?_
                generalize a.eval = ρ at *
                intro hf hc
                go_simp
                exact ⟨relM_quiet (by decide) (Only.refl _ _), rfl⟩
              · intro a wx h
                obtain ⟨v42, e42, f42⟩ := h.val 0 42 (by kernel_rfl)
                obtain rfl : v42 = .pointer (some ⟨c, 0, none⟩) := f42
                have hrel := h.rel
                clear h
                refine gives_by rfl a.eval rfl ?_
                generalize a.eval = ρ at *
                intro hf hc
                go_simp
                exact ⟨relM_quiet (by decide) (Only.refl _ _), rfl⟩
              · intro a wx h
                obtain ⟨v43, e43, f43⟩ := h.val 1 43 (by kernel_rfl)
                obtain rfl : v43 = .pointer (some ⟨c, 0, none⟩) := f43
                have hrel := h.rel
                clear h
                refine gives_by rfl a.eval rfl ?_
                generalize a.eval = ρ at *
                intro hf hc
                go_simp
                exact ⟨relM_quiet (by decide) (Only.refl _ _), rfl⟩
              · intro a wx h
                obtain ⟨v44, e44, f44⟩ := h.val 2 44 (by kernel_rfl)
                obtain rfl : v44 = .pointer (some ⟨c, 0, none⟩) := f44
                have hrel := h.rel
                clear h
                have cx := (HCC.out wx hrel).1
                refine gives_by rfl a.eval rfl ?_
                generalize a.eval = ρ at *
                intro hf hc
                go_simp
                exact ⟨relM_quiet (by decide) (Only.refl _ _), rfl⟩
              · intro a wx h
                have e0 : a.eval (.tmp 0) = .pointer (some ⟨c, 0, none⟩) := h.old 0 (by kernel_rfl)
                have hrel := h.rel
                clear h
                refine gives_by rfl a.eval rfl ?_
                generalize a.eval = ρ at *
                intro hf hc
                go_simp
                exact ⟨relM_quiet (by decide) (Only.refl _ _), rfl⟩
              · intro a wx h
                obtain ⟨v46, e46, f46⟩ := h.val 4 46 (by kernel_rfl)
                obtain rfl : v46 = .pointer (some ⟨c, 0, none⟩) := f46
                have hrel := h.rel
                clear h
                refine gives_by rfl a.eval rfl ?_
                generalize a.eval = ρ at *
                intro hf hc
                go_simp
                exact ⟨relM_quiet (by decide) (Only.refl _ _), rfl⟩
              · intro a wx h
                obtain ⟨v47, e47, f47⟩ := h.val 5 47 (by kernel_rfl)
                obtain rfl : v47 = .pointer (some ⟨c, 0, none⟩) := f47
                have hrel := h.rel
                clear h
                refine gives_by rfl a.eval rfl ?_
                generalize a.eval = ρ at *
                intro hf hc
                go_simp
                exact ⟨relM_quiet (by decide) (Only.refl _ _), rfl⟩
              · intro a wx h
                obtain ⟨v48, e48, f48⟩ := h.val 6 48 (by kernel_rfl)
                obtain rfl : v48 = .pointer (some ⟨c, 2, none⟩) := f48
                have hrel := h.rel
                clear h
                have cx := (HCC.out wx hrel).2.1
                refine gives_by rfl a.eval rfl ?_
                generalize a.eval = ρ at *
                intro hf hc
                go_simp
                exact ⟨relM_quiet (by decide) (Only.refl _ _), rfl⟩
              · intro a wx h
                have e3 : a.eval (.tmp 3) = .int .i64 (g : Int) := h.old 3 (by kernel_rfl)
                have hrel := h.rel
                clear h
                refine gives_by rfl a.eval rfl ?_
                generalize a.eval = ρ at *
                intro hf hc
                go_simp
                exact ⟨relM_quiet (by decide) (Only.refl _ _), rfl⟩
              · intro a wx h
                obtain ⟨v49, e49, f49⟩ := h.val 7 49 (by kernel_rfl)
                obtain rfl : v49 = .slice (some ⟨gb, 0, none⟩) hs.length cap := f49
                obtain ⟨v50, e50, f50⟩ := h.val 8 50 (by kernel_rfl)
                obtain rfl : v50 = .int .i64 (g : Int) := f50
                have hrel := h.rel
                clear h
                refine gives_by rfl a.eval rfl ?_
                generalize a.eval = ρ at *
                intro hf hc
                go_simp
                exact ⟨relM_quiet (by decide) (Only.refl _ _), rfl⟩
              · intro a wx h
                obtain ⟨v51, e51, f51⟩ := h.val 9 51 (by kernel_rfl)
                obtain rfl : v51 = .pointer (some ⟨gb, g * 4, none⟩) := f51
                have hrel := h.rel
                clear h
                refine gives_by rfl a.eval rfl ?_
                generalize a.eval = ρ at *
                intro hf hc
                go_simp
                exact ⟨relM_quiet (by decide) (Only.refl _ _), rfl⟩
              · intro a wx h
                obtain ⟨v52, e52, f52⟩ := h.val 10 52 (by kernel_rfl)
                obtain rfl : v52 = .pointer (some ⟨gb, g * 4, none⟩) := f52
                have hrel := h.rel
                clear h
                have cx := (HCC.out wx hrel).2.2.1
                refine gives_by rfl a.eval rfl ?_
                generalize a.eval = ρ at *
                intro hf hc
                go_simp
                exact ⟨relM_quiet (by decide) (Only.refl _ _), rfl⟩
              · intro a wx h
                have e0 : a.eval (.tmp 0) = .pointer (some ⟨c, 0, none⟩) := h.old 0 (by kernel_rfl)
                have hrel := h.rel
                clear h
                refine gives_by rfl a.eval rfl ?_
                generalize a.eval = ρ at *
                intro hf hc
                go_simp
                exact ⟨relM_quiet (by decide) (Only.refl _ _), rfl⟩
              · intro a wx h
                obtain ⟨v54, e54, f54⟩ := h.val 12 54 (by kernel_rfl)
                obtain rfl : v54 = .pointer (some ⟨c, 0, none⟩) := f54
                have hrel := h.rel
                clear h
                refine gives_by rfl a.eval rfl ?_
                generalize a.eval = ρ at *
                intro hf hc
                go_simp
                exact ⟨relM_quiet (by decide) (Only.refl _ _), rfl⟩
              · intro a wx h
                obtain ⟨v55, e55, f55⟩ := h.val 13 55 (by kernel_rfl)
                obtain rfl : v55 = .pointer (some ⟨c, 0, none⟩) := f55
                have hrel := h.rel
                clear h
                refine gives_by rfl a.eval rfl ?_
                generalize a.eval = ρ at *
                intro hf hc
                go_simp
                exact ⟨relM_quiet (by decide) (Only.refl _ _), rfl⟩
              · intro a wx h
                obtain ⟨v56, e56, f56⟩ := h.val 14 56 (by kernel_rfl)
                obtain rfl : v56 = .pointer (some ⟨c, 2, none⟩) := f56
                have hrel := h.rel
                clear h
                have cx := (HCC.out wx hrel).2.1
                refine gives_by rfl a.eval rfl ?_
                generalize a.eval = ρ at *
                intro hf hc
                go_simp
                exact ⟨relM_quiet (by decide) (Only.refl _ _), rfl⟩
              · intro a wx h
                have e3 : a.eval (.tmp 3) = .int .i64 (g : Int) := h.old 3 (by kernel_rfl)
                have hrel := h.rel
                clear h
                refine gives_by rfl a.eval rfl ?_
                generalize a.eval = ρ at *
                intro hf hc
                go_simp
                exact ⟨relM_quiet (by decide) (Only.refl _ _), rfl⟩
              · intro a wx h
                obtain ⟨v57, e57, f57⟩ := h.val 15 57 (by kernel_rfl)
                obtain rfl : v57 = .slice (some ⟨gb, 0, none⟩) hs.length cap := f57
                obtain ⟨v58, e58, f58⟩ := h.val 16 58 (by kernel_rfl)
                obtain rfl : v58 = .int .i64 (g : Int) := f58
                have hrel := h.rel
                clear h
                refine gives_by rfl a.eval rfl ?_
                generalize a.eval = ρ at *
                intro hf hc
                go_simp
                exact ⟨relM_quiet (by decide) (Only.refl _ _), rfl⟩
              · intro a wx h
                obtain ⟨v59, e59, f59⟩ := h.val 17 59 (by kernel_rfl)
                obtain rfl : v59 = .pointer (some ⟨gb, g * 4, none⟩) := f59
                have hrel := h.rel
                clear h
                refine gives_by rfl a.eval rfl ?_
                generalize a.eval = ρ at *
                intro hf hc
                go_simp
                exact ⟨relM_quiet (by decide) (Only.refl _ _), rfl⟩
              · intro a wx h
                obtain ⟨v60, e60, f60⟩ := h.val 18 60 (by kernel_rfl)
                obtain rfl : v60 = .pointer (some ⟨gb, g * 4 + 1, none⟩) := f60
                have hrel := h.rel
                clear h
                have cx := (HCC.out wx hrel).2.2.2
                refine gives_by rfl a.eval rfl ?_
                generalize a.eval = ρ at *
                intro hf hc
                go_simp
                exact ⟨relM_quiet (by decide) (Only.refl _ _), rfl⟩
              · intro a wx h
                obtain ⟨v45, e45, f45⟩ := h.val 3 45 (by kernel_rfl)
                obtain rfl : v45 = dp r := f45
                obtain ⟨v53, e53, f53⟩ := h.val 11 53 (by kernel_rfl)
                obtain rfl : v53 = .int .i64 (P : Int) := f53
                obtain ⟨v61, e61, f61⟩ := h.val 19 61 (by kernel_rfl)
                obtain rfl : v61 = .slice au nu cu := f61
                have hrel := h.rel
                have hq := h.relq rfl
                clear h
                refine gives_by rfl a.eval rfl ?_
                generalize a.eval = ρ at *
                intro hf hc
                go_simp
                refine (HWQ.out wx hq).mono ?_
                rintro e wy ⟨rfl, hd, ho⟩
                exact ⟨_, rfl, relM_turn ho, rfl, hd⟩
            · intro oL hoL vals w3 ho3 hv
              simp only [List.getElem?_toArray, List.getElem?_cons_succ, List.getElem?_cons_zero, Option.some.injEq] at hoL
              subst hoL
              have hv20 : isRw E r (fun k => G k ∨ w0.heap.size ≤ k) d' (vals 20) w3 := hv 20 62 (by decide) (by kernel_rfl)
              clear hv
              generalize hact : putAll _ vals 0 _ = act
              obtain ⟨hv20, hd20⟩ := hv20
              have HD3 := hide hd20
              have HO3 := hide ho3
              have HOU := hide (HOUT.out w3 ho3)
              clear hd20 ho3 HCC HWQ k0 k1 k2 k3 c2 HOUT
              subst hact
              simp only [List.dropLast, putAll, Act.put, List.setIfInBounds_toArray, List.set_cons_zero, List.set_cons_succ, hv20, Nat.zero_add, Nat.reduceAdd]
              refine gives_of_run rfl (exec_assign (.tmp 62) rfl (.int .i64 E) rfl) ?_
              clear hv20
              have HKG : Hid (Only K w w3) := ((HO0.out.mono (fun _ _ h => h.elim)).trans HO3.out (fun _ _ h => h)).mono (fun k _ h => (HIN.out k (.inr h)).1)
              by_cases hE0 : E = 0
              · subst hE0
                have HE : Hid (R = (0, { ch with l := lessC ch.l P }, d')) := HRM2.out
                go_wp2_with (go_at_call 65; refine HOU.out.mono ?_; rintro e w4 ⟨rfl, ⟨lv4, h4⟩, ho4⟩; have HC4 := hide h4; have HO4 := hide ho4; clear HOU h4 ho4)
                go_ret
                rw [HE.out]
                have hsz := HSZ.out
                have hs3 := HO3.out.size
                have hs4 := HO4.out.size
                have hHc := HC0.out.fc
                refine ⟨rfl, refC_step HIN.out HAP.out HC4.out HLS.out (HD3.out.bound.keep HO4.out (fun k hg e => ?_)) (fun k hk => hk.imp_right (fun hk => by omega)) (fun k hk => hk.1.imp_right (fun hk => by omega)) (fun k hk hk2 hh hg => ?_) (by omega), HKG.out.trans (HO4.out.mono (fun k _ e => by rw [e]; exact (HIN.out c (.inl hHc)).1)) (fun _ _ h => h)⟩
                · subst e
                  rcases hg.1 with hg | hg
                  · exact HAP.out _ hHc hg
                  · have := (HIN.out _ (.inl hHc)).2; omega
                · have := hg.2
                  rcases hh with hh | hh
                  · have := (HIN.out k (.inl hh)).2; omega
                  · omega
              · have HE : Hid (R = (E, ch, d')) := by
                  have := HRM2.out
                  rw [if_neg hE0] at this
                  exact this
                go_wp2
                go_ret
                rw [HE.out]
                have hsz := HSZ.out
                have hs3 := HO3.out.size
                exact ⟨rfl, refC_step HIN.out HAP.out (HCK.out w3 HO3.out) HM.out HD3.out (fun k hk => .inl hk) (fun k hk => hk.imp_right (fun hk => by omega)) (fun k hk hk2 hh hg => by have := (HIN.out k (.inl hh)).2; omega) (by omega), HKG.out⟩
        · have hpp : (0 : Int) < x.1.pins := by omega
          clear hbx hlg hxm hpg k0 k1 k2
          go_wp2
          go_roundg g
          case measure => omega
          case rel =>
            refine ⟨rfl, by omega, fun j hj hgj => ?_, rfl⟩
            by_cases e : j = g
            · subst e; rw [hx]; exact hp0
            · exact HNO.out j hj (by omega)

end Go.Proofs.YtoplhehcjgldeaaGreat
