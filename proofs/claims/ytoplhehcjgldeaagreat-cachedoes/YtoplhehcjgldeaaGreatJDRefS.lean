/- Contract of the document's own device: Sync. -/
import Derived.Test.YtoplhehcjgldeaaGreatJDRefW
namespace Go.Proofs.YtoplhehcjgldeaaGreat
open Go.RowKit
set_option linter.unusedVariables false
set_option maxRecDepth 100000

/-- a row is put in its place -/
theorem RefAt.put {w : World} {r : Nat} {G : Nat → Prop} {d : Dv} {sg cs P : Nat} {wv : Value} {svs wvs : List Value} (h : RefAt w r G d (.slice (some ⟨sg, 0, none⟩) d.st.length cs) wv svs wvs) (hP : P < d.st.length) {v : Value} {X : List Int} (hv : RowR w G v X) (hX : PageOk X) :
    RefAt (w.setCell ⟨sg, P, none⟩ v) r G { d with st := d.st.set P X } (.slice (some ⟨sg, 0, none⟩) d.st.length cs) wv (svs.set P v) wvs ∧ Only (· = sg) w (w.setCell ⟨sg, P, none⟩ v) := by
  have ho : Only (· = sg) w (w.setCell ⟨sg, P, none⟩ v) := (Only.refl _ w).setCell ⟨sg, P, none⟩ v (fun _ => rfl)
  have hsl := h.sl
  obtain ⟨_, h2, h3, h4, sp, hB, hs⟩ := own_blk h.st
  have hne : ∀ (x : Value) (ys : List Int), RowR w G x ys → RowR (w.setCell ⟨sg, P, none⟩ v) G x ys := fun x ys hx => hx.only ho (fun k hk => own_apart hx.1 hB (by decide) hk)
  have hst : (w.setCell ⟨sg, P, none⟩ v).ownsRow 0 46 1 (.slice (some ⟨sg, 0, none⟩) d.st.length cs) d.st.length (svs.set P v) := by
    have hB' := Blk.set hB P v
    rw [List.set_append_left _ _ (by omega)] at hB'
    exact blk_own hB' (Nat.zero_le _) h2 h3 (by rw [List.length_set]; exact h4) hs
  refine ⟨⟨⟨?_, ?_, ?_, ?_, h.ok.left⟩, Blk.only h.blk ho (fun e => h.sv_r (k := sg) rfl e.symm), ?_, ownsRow_only h.ws ho (fun k hk => own_apart h.ws hB (by decide) hk), h.wl, fun i x hx => ?_, fun i x hx => hne _ _ (h.wrs i x hx), h.fr, h.fs, h.fw⟩, ho⟩
  · show 0 < (d.st.set P X).length; rw [List.length_set]; exact h.ok.pos
  · show (d.st.set P X).length ≤ 2048; rw [List.length_set]; exact h.ok.few
  · intro y hy
    rcases List.mem_or_eq_of_mem_set hy with h1 | rfl
    · exact h.ok.st y h1
    · exact hX
  · intro y hy
    show _ < (d.st.set P X).length ∧ _
    rw [List.length_set]; exact h.ok.ws y hy
  · show World.ownsRow _ 0 _ 1 _ (d.st.set P X).length _
    rw [List.length_set]; exact hst
  · show RowR _ _ _ (sAt (d.st.set P X) i)
    rw [sAt_set _ _ _ _ hP]
    rw [List.getElem?_set] at hx
    split at hx
    · rename_i e
      rw [if_pos e]
      split at hx
      · obtain rfl := Option.some.inj hx; exact hne _ _ hv
      · cases hx
    · rename_i e
      rw [if_neg e]; exact hne _ _ (h.rows i x hx)

theorem RefAt.put2 {w w3 : World} {r : Nat} {G : Nat → Prop} {d : Dv} {st : List (List Int)} {n sg cs A : Nat} {wv : Value} {svs wvs : List Value} (h : RefAt w r G { d with st := st } (.slice (some ⟨sg, 0, none⟩) n cs) wv svs wvs) (hn : st.length = n) (hA : A < n) (h3 : Only (fun _ => False) w w3) {v : Value} {X : List Int} (hv : RowR w3 G v X) (hX : PageOk X) :
    RefAt (w3.setCell ⟨sg, A, none⟩ v) r G { d with st := st.set A X } (.slice (some ⟨sg, 0, none⟩) n cs) wv (svs.set A v) wvs ∧ Only (· = sg) w3 (w3.setCell ⟨sg, A, none⟩ v) := by
  subst hn
  exact RefAt.put (d := { d with st := st }) (h.keep h3 (fun _ _ h => h)) hA hv hX
theorem RefAt.sget {w : World} {r : Nat} {G : Nat → Prop} {d : Dv} {st : List (List Int)} {n sg cs A : Nat} {wv : Value} {svs wvs : List Value} (h : RefAt w r G { d with st := st } (.slice (some ⟨sg, 0, none⟩) n cs) wv svs wvs) (hn : st.length = n) (hA : A < n) : ∃ old, svs[A]? = some old ∧ RowR w G old (sAt st A) ∧ ∀ w3, Only (fun _ => False) w w3 → w3.cell? ⟨sg, A, none⟩ = some old ∧ w3.frozen? ⟨sg, A, none⟩ = false := by
  subst hn
  have hsl : svs.length = st.length := h.sl
  have hold : svs[A]? = some (svs[A]'(by omega)) := List.getElem?_eq_getElem _
  refine ⟨_, hold, h.rows A _ hold, fun w3 h3 => ?_⟩
  obtain ⟨_, _, _, _, sp, hB, _⟩ := own_blk (ownsRow_only h.st h3 (fun _ _ h => h))
  refine ⟨?_, hB.frozen A⟩
  rw [hB.cell, List.getElem?_append_left (by omega)]
  exact hold

theorem refSync_off (w : World) (r : Nat) (G : Nat → Prop) (d : Dv) (h : Ref w r G d) (hoff : d.off = true) :
    Calls Tryz.prog 34 #[dp r] w fun e w' => e = .returned (.int .i64 5) ∧ w' = w := by
  obtain ⟨sv, wv, svs, wvs, h⟩ := h
  have c3 := h.blk.c3
  rw [hoff] at c3
  clear h hoff
  go_enter Tryz.func34, Tryz.ntmps34
  go_wp2
  go_ret
  exact ⟨rfl, rfl⟩
theorem refSync_dark (w : World) (r : Nat) (G : Nat → Prop) (d : Dv) (h : Ref w r G d) (hon : d.off = false) (hl : d.left = some 0) (hdl : d.done < 1000000000) :
    Calls Tryz.prog 34 #[dp r] w fun e w' => e = .returned (.int .i64 5) ∧ Ref w' r G (syncD d) ∧ Only G w w' := by
  have hG := refGoes_any w r G d h hdl
  rw [decide_eq_true hl] at hG
  have es : spendD d = syncD d := by unfold spendD syncD; rw [hl]
  rw [es] at hG
  have HG := hide hG
  obtain ⟨sv, wv, svs, wvs, h⟩ := h
  have c3 := h.blk.c3
  rw [hon] at c3
  have HF := hide h.fr
  clear h hon hG es hl
  go_enter Tryz.func34, Tryz.ntmps34
  go_wp2_with (go_at_call 72; refine HG.out.mono ?_; rintro e w1 ⟨rfl, hd1, ho1⟩; clear HG)
  go_ret
  exact ⟨rfl, hd1, ho1.mono (fun k _ e => by rw [e]; exact HF.out)⟩

set_option maxHeartbeats 2000000 in
theorem refSync_live (w : World) (r : Nat) (G : Nat → Prop) (d : Dv) (h : Ref w r G d) (hon : d.off = false) (hl : d.left ≠ some 0) (hdl : d.done < 1000000000) :
    Calls Tryz.prog 34 #[dp r] w fun e w' => e = .returned (.int .i64 0) ∧ Ref w' r G (syncD d) ∧ Only G w w' := by
  have hG := refGoes_any w r G d h hdl
  rw [decide_eq_false hl] at hG
  obtain ⟨d1, hd1⟩ : ∃ d1, d1 = spendD d := ⟨_, rfl⟩
  have hE : syncD d = ⟨syncK d1.st d1.ws d1.ws.length, [], d1.off, d1.left, d1.done⟩ := by
    rw [hd1]
    unfold spendD syncD
    cases hx : d.left with
    | none => simp
    | some n =>
      cases n with
      | zero => exact absurd hx hl
      | succ n => rfl
  rw [← hd1] at hG
  have HG := hide hG
  have HE := hide hE
  have hrG : G r := by obtain ⟨_, _, _, _, h⟩ := h; exact h.fr
  have HRG := hide hrG
  have c3 : w.cell? ⟨r, 3, none⟩ = some (.bool false) := by obtain ⟨_, _, _, _, h⟩ := h; rw [← hon]; exact h.blk.c3
  clear h hon hG hl hE hd1 hrG
  go_enter Tryz.func34, Tryz.ntmps34
  go_wp2_with (go_at_call 72; refine HG.out.mono ?_; rintro e w1 ⟨rfl, hd1, ho1⟩; have HR1 := hide hd1; have HO1 := hide ho1; clear HG hd1 ho1)
  obtain ⟨sv, wv, svs, wvs, h⟩ := HR1.out
  obtain ⟨asv, csv, rfl⟩ := own_form' h.st
  obtain ⟨aw, cw, rfl⟩ := own_form' h.ws
  rcases own_form h.st with ⟨_, h0⟩ | ⟨sg, c', hsg⟩
  · have := h.ok.pos; omega
  obtain ⟨rfl, rfl⟩ : asv = some ⟨sg, 0, none⟩ ∧ csv = c' := by simpa using hsg
  have hcw : d1.ws.length ≤ cw ∧ cw ≤ 9223372036854775807 := own_len h.ws
  have hcs : d1.st.length ≤ csv ∧ csv ≤ 9223372036854775807 := own_len h.st
  have HX := hide h
  clear h hsg HR1
  go_loopg [3] d1.ws.length (fun g i wr => ∃ (k : Nat) (svs : List Value), g + k = d1.ws.length ∧ i = .int .i64 k ∧ RefAt wr r G { d1 with st := syncK d1.st d1.ws k } (.slice (some ⟨sg, 0, none⟩) d1.st.length csv) (.slice aw d1.ws.length cw) svs wvs ∧ Only G w1 wr)
  case atStart => exact ⟨0, svs, by omega, rfl, HX.out, Only.refl _ _⟩
  case round =>
    obtain ⟨k, svs', hk, rfl, hr, ho⟩ := hrel
    have HR := hide hr
    have HO := hide ho
    have c0 := hr.blk.c0
    have c1 := hr.blk.c1
    cases gk with
    | zero =>
      obtain rfl : k = d1.ws.length := by omega
      have f1 := Blk.frozen hr.blk 1
      clear hr ho HX
      go_wp2
      go_ret
      have ho2 : Only (· = r) wr (wr.setCell ⟨r, 1, none⟩ (.slice none 0 0)) := (Only.refl _ _).setCell _ _ (fun _ => rfl)
      refine ⟨rfl, ?_, ((HO1.out.mono (fun k _ e => by rw [e]; exact HRG.out)).trans HO.out (fun _ _ h => h)).trans ho2 (fun k _ e => by rw [e]; exact HRG.out)⟩
      rw [HE.out]
      exact HR.out.empty rfl rfl ⟨HR.out.ok.pos, HR.out.ok.few, HR.out.ok.st, (fun x hx => by cases hx), HR.out.ok.left⟩ (Blk.set HR.out.blk 1 _) ho2
    | succ g =>
      have hkl : k < d1.ws.length := by omega
      have hki : (k : Int) < (d1.ws.length : Int) := by omega
      have hstl : (syncK d1.st d1.ws k).length = d1.st.length := syncK_len _ _ k
      have hwa := hr.wcell (i := k) hkl
      obtain ⟨wg, v, rfl, hc1, hc2, hv⟩ := hwa
      have hrow := hr.wrs k v hv
      have hxok := hr.ok.ws _ (List.getElem_mem hkl)
      rw [← wAt_lt hkl] at hxok
      obtain ⟨vg, vc, rfl, hvc1, hvc2⟩ := hrow.form
      obtain ⟨A, hA⟩ : ∃ A, A = (wAt d1.ws k).1 := ⟨_, rfl⟩
      have hrs := hr.sl
      have hxA : A < (syncK d1.st d1.ws k).length := by rw [hA]; exact hxok.1
      have hAl : A < d1.st.length := by omega
      have hAi : (A : Int) < (d1.st.length : Int) := by omega
      rw [← hA] at hc1
      have hstO : wr.ownsRow 0 46 1 (.slice (some ⟨sg, 0, none⟩) d1.st.length csv) d1.st.length svs' := by
        have := hr.st
        rwa [show ({ d1 with st := syncK d1.st d1.ws k } : Dv).st.length = d1.st.length from hstl] at this
      have hsl' : svs'.length = d1.st.length := by have := hstO.1; omega
      have hold : svs'[A]? = some (svs'[A]'(by omega)) := List.getElem?_eq_getElem _
      have hcS := hstO.cells (g := sg) rfl A _ hold
      rw [Addr.add_mid, Nat.zero_add] at hcS
      obtain ⟨_, _, _, _, sp, hBs, _⟩ := own_blk hstO
      have hfS := Blk.frozen hBs A
      generalize svs'[A] = old at hcS hold
      have hput := RefAt.put (d := { d1 with st := syncK d1.st d1.ws k }) (by rw [show ({ d1 with st := syncK d1.st d1.ws k } : Dv).st.length = d1.st.length from hstl]; exact hr) (show A < (syncK d1.st d1.ws k).length from hxA) hrow hxok.2
      rw [show ({ d1 with st := syncK d1.st d1.ws k } : Dv).st.length = d1.st.length from hstl] at hput
      have HP : Hid (∀ w3, Only (fun _ => False) wr w3 → RefAt (w3.setCell ⟨sg, A, none⟩ (.slice (some ⟨vg, 0, none⟩) 256 vc)) r G { d1 with st := syncK d1.st d1.ws (k + 1) } (.slice (some ⟨sg, 0, none⟩) d1.st.length csv) (.slice (some ⟨wg, 0, none⟩) d1.ws.length cw) (svs'.set A (.slice (some ⟨vg, 0, none⟩) 256 vc)) wvs ∧ Only G w1 (w3.setCell ⟨sg, A, none⟩ (.slice (some ⟨vg, 0, none⟩) 256 vc)) ∧ w3.cell? ⟨sg, A, none⟩ = some old ∧ w3.frozen? ⟨sg, A, none⟩ = false) := fun w3 h3 => by
        have hq := RefAt.put (d := { d1 with st := syncK d1.st d1.ws k }) (by rw [show ({ d1 with st := syncK d1.st d1.ws k } : Dv).st.length = d1.st.length from hstl]; exact hr.keep h3 (fun _ _ h => h)) (show A < (syncK d1.st d1.ws k).length from hxA) (hrow.only h3 (fun _ _ h => h)) hxok.2
        rw [show ({ d1 with st := syncK d1.st d1.ws k } : Dv).st.length = d1.st.length from hstl] at hq
        refine ⟨?_, (ho.trans h3 (fun _ _ h => h.elim)).trans hq.2 (fun j _ e => by rw [e]; exact hr.fs sg rfl), ((hBs.only h3 (fun h => h)).cell A).trans ((hBs.cell A).symm.trans hcS), (hBs.only h3 (fun h => h)).frozen A⟩
        rw [syncK, ← hA]
        exact hq.1
      have HC : Hid (∀ wx, Only (fun _ => False) wr wx → wx.cell? ⟨r, 0, none⟩ = some (.slice (some ⟨sg, 0, none⟩) d1.st.length csv) ∧ wx.cell? ⟨r, 1, none⟩ = some (.slice (some ⟨wg, 0, none⟩) d1.ws.length cw) ∧ wx.cell? ⟨wg, k * 2, none⟩ = some (.int .i64 (A : Int)) ∧ wx.cell? ⟨wg, k * 2 + 1, none⟩ = some (.slice (some ⟨vg, 0, none⟩) 256 vc)) := fun wx hx => by
        have hb := hx.below (Nat.le_refl _) (fun _ _ h => h)
        exact ⟨(Blk.only hr.blk hx (fun h => h)).cell 0, (Blk.only hr.blk hx (fun h => h)).cell 1, (hb.cell (World.block_lt_of_cell? wr _ hc1)).trans hc1, (hb.cell (World.block_lt_of_cell? wr _ hc2)).trans hc2⟩
      clear hr ho hput hxok hrow hv hc1 hc2 hA hold hcS hfS hBs hstO hxA hstl hsl' hrs HR HO HX
      go_wp2
      refine wp_region_only (fun _ => False) [isV (.pointer (some ⟨r, 0, none⟩)), isV (.pointer (some ⟨r, 0, none⟩)), isV (.pointer (some ⟨r, 0, none⟩)), isV (.slice (some ⟨sg, 0, none⟩) d1.st.length csv), isV (.pointer (some ⟨r, 0, none⟩)), isV (.pointer (some ⟨r, 0, none⟩)), isV (.pointer (some ⟨r, 1, none⟩)), isV (.slice (some ⟨wg, 0, none⟩) d1.ws.length cw), isV (.int .i64 (k : Int)), isV (.pointer (some ⟨wg, k * 2, none⟩)), isV (.pointer (some ⟨wg, k * 2, none⟩)), isV (.int .i64 (A : Int)), isV (.pointer (some ⟨r, 0, none⟩)), isV (.pointer (some ⟨r, 0, none⟩)), isV (.pointer (some ⟨r, 1, none⟩)), isV (.slice (some ⟨wg, 0, none⟩) d1.ws.length cw), isV (.int .i64 (k : Int)), isV (.pointer (some ⟨wg, k * 2, none⟩)), isV (.pointer (some ⟨wg, k * 2 + 1, none⟩)), isV (.slice (some ⟨vg, 0, none⟩) 256 vc), isV (.pointer (some ⟨sg, A, none⟩))] 99 45 21 (by kernel_rfl) (by kernel_rfl) (by kernel_rfl) (by kernel_rfl) rfl ?_ ?_ ?_
      · repeat (first | exact trivial | refine allStL_isV ?_)
      · refine ⟨?_, ?_, ?_, ?_, ?_, ?_, ?_, ?_, ?_, ?_, ?_, ?_, ?_, ?_, ?_, ?_, ?_, ?_, ?_, ?_, ?_, trivial⟩
        · intro a wx h
          have e0 : a.eval (.tmp 0) = .pointer (some ⟨r, 0, none⟩) := h.old 0 (by kernel_rfl)
          have hrel := h.rel
          clear h
          refine gives_by rfl a.eval rfl ?_
          generalize a.eval = ρ at *
          intro hf hc
          go_simp
          exact ⟨relM_quiet (by decide) (Only.refl _ _), rfl⟩
        · intro a wx h
          obtain ⟨v21, e21, f21⟩ := h.val 0 21 (by kernel_rfl)
          obtain rfl : v21 = .pointer (some ⟨r, 0, none⟩) := f21
          have hrel := h.rel
          clear h
          refine gives_by rfl a.eval rfl ?_
          generalize a.eval = ρ at *
          intro hf hc
          go_simp
          exact ⟨relM_quiet (by decide) (Only.refl _ _), rfl⟩
        · intro a wx h
          obtain ⟨v22, e22, f22⟩ := h.val 1 22 (by kernel_rfl)
          obtain rfl : v22 = .pointer (some ⟨r, 0, none⟩) := f22
          have hrel := h.rel
          clear h
          refine gives_by rfl a.eval rfl ?_
          generalize a.eval = ρ at *
          intro hf hc
          go_simp
          exact ⟨relM_quiet (by decide) (Only.refl _ _), rfl⟩
        · intro a wx h
          obtain ⟨v23, e23, f23⟩ := h.val 2 23 (by kernel_rfl)
          obtain rfl : v23 = .pointer (some ⟨r, 0, none⟩) := f23
          have hrel := h.rel
          clear h
          have cx := (HC.out wx hrel).1
          refine gives_by rfl a.eval rfl ?_
          generalize a.eval = ρ at *
          intro hf hc
          go_simp
          exact ⟨relM_quiet (by decide) (Only.refl _ _), rfl⟩
        · intro a wx h
          have e0 : a.eval (.tmp 0) = .pointer (some ⟨r, 0, none⟩) := h.old 0 (by kernel_rfl)
          have hrel := h.rel
          clear h
          refine gives_by rfl a.eval rfl ?_
          generalize a.eval = ρ at *
          intro hf hc
          go_simp
          exact ⟨relM_quiet (by decide) (Only.refl _ _), rfl⟩
        · intro a wx h
          obtain ⟨v25, e25, f25⟩ := h.val 4 25 (by kernel_rfl)
          obtain rfl : v25 = .pointer (some ⟨r, 0, none⟩) := f25
          have hrel := h.rel
          clear h
          refine gives_by rfl a.eval rfl ?_
          generalize a.eval = ρ at *
          intro hf hc
          go_simp
          exact ⟨relM_quiet (by decide) (Only.refl _ _), rfl⟩
        · intro a wx h
          obtain ⟨v26, e26, f26⟩ := h.val 5 26 (by kernel_rfl)
          obtain rfl : v26 = .pointer (some ⟨r, 0, none⟩) := f26
          have hrel := h.rel
          clear h
          refine gives_by rfl a.eval rfl ?_
          generalize a.eval = ρ at *
          intro hf hc
          go_simp
          exact ⟨relM_quiet (by decide) (Only.refl _ _), rfl⟩
        · intro a wx h
          obtain ⟨v27, e27, f27⟩ := h.val 6 27 (by kernel_rfl)
          obtain rfl : v27 = .pointer (some ⟨r, 1, none⟩) := f27
          have hrel := h.rel
          clear h
          have cx := (HC.out wx hrel).2.1
          refine gives_by rfl a.eval rfl ?_
          generalize a.eval = ρ at *
          intro hf hc
          go_simp
          exact ⟨relM_quiet (by decide) (Only.refl _ _), rfl⟩
        · intro a wx h
          have e3 : a.eval (.tmp 3) = .int .i64 (k : Int) := h.old 3 (by kernel_rfl)
          have hrel := h.rel
          clear h
          refine gives_by rfl a.eval rfl ?_
          generalize a.eval = ρ at *
          intro hf hc
          go_simp
          exact ⟨relM_quiet (by decide) (Only.refl _ _), rfl⟩
        · intro a wx h
          obtain ⟨v28, e28, f28⟩ := h.val 7 28 (by kernel_rfl)
          obtain rfl : v28 = .slice (some ⟨wg, 0, none⟩) d1.ws.length cw := f28
          obtain ⟨v29, e29, f29⟩ := h.val 8 29 (by kernel_rfl)
          obtain rfl : v29 = .int .i64 (k : Int) := f29
          have hrel := h.rel
          clear h
          refine gives_by rfl a.eval rfl ?_
          generalize a.eval = ρ at *
          intro hf hc
          go_simp
          exact ⟨relM_quiet (by decide) (Only.refl _ _), rfl⟩
        · intro a wx h
          obtain ⟨v30, e30, f30⟩ := h.val 9 30 (by kernel_rfl)
          obtain rfl : v30 = .pointer (some ⟨wg, k * 2, none⟩) := f30
          have hrel := h.rel
          clear h
          refine gives_by rfl a.eval rfl ?_
          generalize a.eval = ρ at *
          intro hf hc
          go_simp
          exact ⟨relM_quiet (by decide) (Only.refl _ _), rfl⟩
        · intro a wx h
          obtain ⟨v31, e31, f31⟩ := h.val 10 31 (by kernel_rfl)
          obtain rfl : v31 = .pointer (some ⟨wg, k * 2, none⟩) := f31
          have hrel := h.rel
          clear h
          have cx := (HC.out wx hrel).2.2.1
          refine gives_by rfl a.eval rfl ?_
          generalize a.eval = ρ at *
          intro hf hc
          go_simp
          exact ⟨relM_quiet (by decide) (Only.refl _ _), rfl⟩
        · intro a wx h
          have e0 : a.eval (.tmp 0) = .pointer (some ⟨r, 0, none⟩) := h.old 0 (by kernel_rfl)
          have hrel := h.rel
          clear h
          refine gives_by rfl a.eval rfl ?_
          generalize a.eval = ρ at *
          intro hf hc
          go_simp
          exact ⟨relM_quiet (by decide) (Only.refl _ _), rfl⟩
        · intro a wx h
          obtain ⟨v33, e33, f33⟩ := h.val 12 33 (by kernel_rfl)
          obtain rfl : v33 = .pointer (some ⟨r, 0, none⟩) := f33
          have hrel := h.rel
          clear h
          refine gives_by rfl a.eval rfl ?_
          generalize a.eval = ρ at *
          intro hf hc
          go_simp
          exact ⟨relM_quiet (by decide) (Only.refl _ _), rfl⟩
        · intro a wx h
          obtain ⟨v34, e34, f34⟩ := h.val 13 34 (by kernel_rfl)
          obtain rfl : v34 = .pointer (some ⟨r, 0, none⟩) := f34
          have hrel := h.rel
          clear h
          refine gives_by rfl a.eval rfl ?_
          generalize a.eval = ρ at *
          intro hf hc
          go_simp
          exact ⟨relM_quiet (by decide) (Only.refl _ _), rfl⟩
        · intro a wx h
          obtain ⟨v35, e35, f35⟩ := h.val 14 35 (by kernel_rfl)
          obtain rfl : v35 = .pointer (some ⟨r, 1, none⟩) := f35
          have hrel := h.rel
          clear h
          have cx := (HC.out wx hrel).2.1
          refine gives_by rfl a.eval rfl ?_
          generalize a.eval = ρ at *
          intro hf hc
          go_simp
          exact ⟨relM_quiet (by decide) (Only.refl _ _), rfl⟩
        · intro a wx h
          have e3 : a.eval (.tmp 3) = .int .i64 (k : Int) := h.old 3 (by kernel_rfl)
          have hrel := h.rel
          clear h
          refine gives_by rfl a.eval rfl ?_
          generalize a.eval = ρ at *
          intro hf hc
          go_simp
          exact ⟨relM_quiet (by decide) (Only.refl _ _), rfl⟩
        · intro a wx h
          obtain ⟨v36, e36, f36⟩ := h.val 15 36 (by kernel_rfl)
          obtain rfl : v36 = .slice (some ⟨wg, 0, none⟩) d1.ws.length cw := f36
          obtain ⟨v37, e37, f37⟩ := h.val 16 37 (by kernel_rfl)
          obtain rfl : v37 = .int .i64 (k : Int) := f37
          have hrel := h.rel
          clear h
          refine gives_by rfl a.eval rfl ?_
          generalize a.eval = ρ at *
          intro hf hc
          go_simp
          exact ⟨relM_quiet (by decide) (Only.refl _ _), rfl⟩
        · intro a wx h
          obtain ⟨v38, e38, f38⟩ := h.val 17 38 (by kernel_rfl)
          obtain rfl : v38 = .pointer (some ⟨wg, k * 2, none⟩) := f38
          have hrel := h.rel
          clear h
          refine gives_by rfl a.eval rfl ?_
          generalize a.eval = ρ at *
          intro hf hc
          go_simp
          exact ⟨relM_quiet (by decide) (Only.refl _ _), rfl⟩
        · intro a wx h
          obtain ⟨v39, e39, f39⟩ := h.val 18 39 (by kernel_rfl)
          obtain rfl : v39 = .pointer (some ⟨wg, k * 2 + 1, none⟩) := f39
          have hrel := h.rel
          clear h
          have cx := (HC.out wx hrel).2.2.2
          refine gives_by rfl a.eval rfl ?_
          generalize a.eval = ρ at *
          intro hf hc
          go_simp
          exact ⟨relM_quiet (by decide) (Only.refl _ _), rfl⟩
        · intro a wx h
          obtain ⟨v24, e24, f24⟩ := h.val 3 24 (by kernel_rfl)
          obtain rfl : v24 = .slice (some ⟨sg, 0, none⟩) d1.st.length csv := f24
          obtain ⟨v32, e32, f32⟩ := h.val 11 32 (by kernel_rfl)
          obtain rfl : v32 = .int .i64 (A : Int) := f32
          have hrel := h.rel
          clear h
          refine gives_by rfl a.eval rfl ?_
          generalize a.eval = ρ at *
          intro hf hc
          go_simp
          exact ⟨relM_quiet (by decide) (Only.refl _ _), rfl⟩
      · intro oL hoL vals w3 ho3 hv
        simp only [List.getElem?_toArray, List.getElem?_cons_succ, List.getElem?_cons_zero, Option.some.injEq] at hoL
        subst hoL
        have hv19 : vals 19 = .slice (some ⟨vg, 0, none⟩) 256 vc := hv 19 40 (by decide) (by kernel_rfl)
        have hv20 : vals 20 = .pointer (some ⟨sg, A, none⟩) := hv 20 41 (by decide) (by kernel_rfl)
        clear hv
        generalize hact : putAll _ vals 0 _ = act
        obtain ⟨p1, p2, k1, k2⟩ := HP.out w3 ho3
        have HP1 := hide p1
        have HP2 := hide p2
        clear p1 p2 HP ho3
        subst hact
        simp only [List.dropLast, putAll, Act.put, List.setIfInBounds_toArray, List.set_cons_zero, List.set_cons_succ, hv19, hv20]
        refine gives_of_skip rfl (w' := w3.setCell ⟨sg, A, none⟩ (.slice (some ⟨vg, 0, none⟩) 256 vc)) (by go_simp) ?_
        clear hv19 hv20 k1 k2
        go_wp2
        go_roundg g
        case measure => omega
        case rel => exact ⟨k + 1, _, by omega, by go_num, HP1.out, HP2.out⟩

end Go.Proofs.YtoplhehcjgldeaaGreat
