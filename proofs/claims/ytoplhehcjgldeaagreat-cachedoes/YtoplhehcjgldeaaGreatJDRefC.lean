/- Contract of the document's own device: Crash. -/
import Derived.Test.YtoplhehcjgldeaaGreatJDRefS
namespace Go.Proofs.YtoplhehcjgldeaaGreat
open Go.RowKit
set_option linter.unusedVariables false
set_option maxRecDepth 100000

set_option maxHeartbeats 4000000 in
theorem refCrash_any (w : World) (r : Nat) (G : Nat → Prop) (d : Dv) (v : Value) (pk : List Int) (h : Ref w r G d) (hS : Sl w v pk) (hv : pk ≠ [] → ∀ k, v.ownBlock = some k → ¬ G k) :
    Calls Tryz.prog 37 #[dp r, v] w fun e w' => e = .returned (.tuple #[]) ∧ Ref w' r (fun k => G k ∨ w.heap.size ≤ k) (crashD d pk) ∧ Only G w w' := by
  obtain ⟨sv, wv, svs, wvs, h⟩ := h
  obtain ⟨asv, csv, rfl⟩ := own_form' h.st
  obtain ⟨aw, cw, rfl⟩ := own_form' h.ws
  rcases own_form h.st with ⟨_, h0⟩ | ⟨sg, c', hsg⟩
  · have := h.ok.pos; omega
  obtain ⟨rfl, rfl⟩ : asv = some ⟨sg, 0, none⟩ ∧ csv = c' := by simpa using hsg
  have hcw : d.ws.length ≤ cw ∧ cw ≤ 9223372036854775807 := own_len h.ws
  have hcs : d.st.length ≤ csv ∧ csv ≤ 9223372036854775807 := own_len h.st
  obtain ⟨ao, cp, rfl⟩ := sl_form' hS
  have hcp := (sl_cap hS).2
  have hcp2 : pk.length ≤ cp ∧ cp ≤ 9223372036854775807 := hcp
  have HS := hide hS
  have HV := hide hv
  have HRG := hide h.fr
  have HSG : Hid (G sg) := h.fs sg rfl
  have HX : Hid (RefAt w r (fun k => G k ∨ w.heap.size ≤ k) { d with st := crashK d.st d.ws pk 0 } (.slice (some ⟨sg, 0, none⟩) d.st.length csv) (.slice aw d.ws.length cw) svs wvs) := h.mono (fun k _ h => .inl h)
  clear h hsg hS hv hcp
  go_enter Tryz.func37, Tryz.ntmps37
  go_wp2
  go_loopg [4] d.ws.length (fun g i wr => ∃ (k : Nat) (svs : List Value), g + k = d.ws.length ∧ i = .int .i64 k ∧ RefAt wr r (fun k => G k ∨ w.heap.size ≤ k) { d with st := crashK d.st d.ws pk k } (.slice (some ⟨sg, 0, none⟩) d.st.length csv) (.slice aw d.ws.length cw) svs wvs ∧ Only G w wr)
  case atStart => exact ⟨0, svs, by omega, rfl, HX.out, Only.refl _ _⟩
  case round =>
    obtain ⟨k, svs', hk, rfl, hr, ho⟩ := hrel
    have HR := hide hr
    have HO := hide ho
    have c0 := hr.blk.c0
    have c1 := hr.blk.c1
    have hsz := ho.size
    cases gk with
    | zero =>
      obtain rfl : k = d.ws.length := by omega
      have f1 := Blk.frozen hr.blk 1
      have f2 := Blk.frozen hr.blk 2
      have f3 := Blk.frozen hr.blk 3
      have c2 := hr.blk.c2
      have c3 := hr.blk.c3
      clear hr ho HX
      go_wp2
      go_end0
      have ho2 : Only (· = r) wr (((wr.setCell ⟨r, 1, none⟩ (.slice none 0 0)).setCell ⟨r, 3, none⟩ (.bool false)).setCell ⟨r, 2, none⟩ (.int .i64 (-1))) := (only_set2 wr r 1 3 _ _).setCell ⟨r, 2, none⟩ _ (fun _ => rfl)
      refine ⟨rfl, ?_, HO.out.trans ho2 (fun k _ e => by rw [e]; exact HRG.out)⟩
      exact HR.out.empty (d' := crashD d pk) rfl rfl ⟨HR.out.ok.pos, HR.out.ok.few, HR.out.ok.st, (fun x hx => by cases hx), (fun n hn => by cases hn)⟩ (((Blk.set HR.out.blk 1 _).set 3 _).set 2 _) ho2
    | succ g =>
      have hkl : k < d.ws.length := by omega
      have hki : (k : Int) < (d.ws.length : Int) := by omega
      have hstl : (crashK d.st d.ws pk k).length = d.st.length := crashK_len _ _ _ k
      obtain ⟨wg, v, rfl, hc1, hc2, hv⟩ := hr.wcell (i := k) hkl
      have hrow := hr.wrs k v hv
      have hxok := hr.ok.ws _ (List.getElem_mem hkl)
      rw [← wAt_lt hkl] at hxok
      have hxA0 : (wAt d.ws k).1 < (crashK d.st d.ws pk k).length := hxok.1
      have hxok2 : PageOk (wAt d.ws k).2 := hxok.2
      obtain ⟨vg, vc, rfl, hvc1, hvc2⟩ := hrow.form
      have e1 : crashK d.st d.ws pk (k + 1) = (crashK d.st d.ws pk k).set (wAt d.ws k).1 (mixS (wAt d.ws k).2 (sAt (crashK d.st d.ws pk k) (wAt d.ws k).1) (mixN (pk.getD k 0))) := rfl
      obtain ⟨A, hA⟩ : ∃ A, A = (wAt d.ws k).1 := ⟨_, rfl⟩
      obtain ⟨X, hX⟩ : ∃ X, X = (wAt d.ws k).2 := ⟨_, rfl⟩
      have hrow' : RowR wr (fun k => G k ∨ w.heap.size ≤ k) (.slice (some ⟨vg, 0, none⟩) 256 vc) X := by rw [hX]; exact hrow
      rw [← hA] at hc1 e1 hxA0
      rw [← hX] at e1 hxok2
      have hAl : A < d.st.length := by omega
      have hAi : (A : Int) < (d.st.length : Int) := by omega
      obtain ⟨old, hold, hrowS, hget⟩ := hr.sget hstl hAl
      have hokS : PageOk (sAt (crashK d.st d.ws pk k) A) := by rw [sAt_lt hxA0]; exact hr.ok.st _ (List.getElem_mem hxA0)
      obtain ⟨ug, uc, rfl, huc1, huc2⟩ := hrowS.form
      obtain ⟨Y, hY⟩ : ∃ Y, Y = sAt (crashK d.st d.ws pk k) A := ⟨_, rfl⟩
      have hrowS' : RowR wr (fun k => G k ∨ w.heap.size ≤ k) (.slice (some ⟨ug, 0, none⟩) 256 uc) Y := by rw [hY]; exact hrowS
      rw [← hY] at hokS e1
      obtain ⟨n, hn⟩ : ∃ n, n = mixN (pk.getD k 0) := ⟨_, rfl⟩
      have hnle : n ≤ 256 := by rw [hn]; exact mixN_le _
      rw [← hn] at e1
      have hni : (n : Int) ≤ 256 := by omega
      -- the two halves
      have hSX := hrow'.sl hxok2
      have hSY := hrowS'.sl hokS
      have cutX := cut_h wr (some ⟨vg, 0, none⟩) X vc n (by rw [hxok2.1]; exact hSX) (by rw [hxok2.1]; exact hnle)
      have cutY := cut_l wr (some ⟨ug, 0, none⟩) Y uc n (by rw [hokS.1]; exact hSY) (by rw [hokS.1]; exact hnle)
      rw [hxok2.1] at cutX
      rw [hokS.1] at cutY
      obtain ⟨a1, k1, cx1, cx2⟩ := cutX
      obtain ⟨a2, k2, cy1, cy2⟩ := cutY
      obtain ⟨n1, hn1⟩ : ∃ n1, n1 = (X.take n).length := ⟨_, rfl⟩
      obtain ⟨n2, hn2⟩ : ∃ n2, n2 = (Y.drop n).length := ⟨_, rfl⟩
      rw [← hn1] at cx1 cx2
      rw [← hn2] at cy1 cy2
      have hmix : PageOk (mixS X Y n) := mixS_ok hxok2 hokS hnle
      have HJ : Hid (∀ wx, Only (fun _ => False) wr wx → Calls Tryz.prog 50 #[.slice a1 n1 k1, .slice a2 n2 k2] wx fun e w' => ∃ u, e = .returned u ∧ isJ wr.heap.size (mixS X Y n) u w' ∧ Below wx.heap.size wx w') := fun wx hx => by
        refine (refJoin_any wx _ _ (X.take n) (Y.drop n) (cx2 wx (hSX.only hx (fun _ _ h => h))) (cy2 wx (hSY.only hx (fun _ _ h => h))) (by rw [List.length_take, List.length_drop, hxok2.1, hokS.1]; omega)).mono ?_
        rintro e w' ⟨u, rfl, ho', _, hb, _⟩
        have e3 : (X.take n ++ Y.drop n).length = 256 := hmix.1
        rw [e3] at ho'
        exact ⟨u, rfl, ownsRow_base ho' hx.size, hb⟩
      have HP : Hid (∀ w3 au cu, Only (fun _ => False) wr w3 → isJ wr.heap.size (mixS X Y n) (.slice au 256 cu) w3 → (∃ svs2, RefAt (w3.setCell ⟨sg, A, none⟩ (.slice au 256 cu)) r (fun k => G k ∨ w.heap.size ≤ k) { d with st := crashK d.st d.ws pk (k + 1) } (.slice (some ⟨sg, 0, none⟩) d.st.length csv) (.slice (some ⟨wg, 0, none⟩) d.ws.length cw) svs2 wvs) ∧ Only G w (w3.setCell ⟨sg, A, none⟩ (.slice au 256 cu)) ∧ w3.cell? ⟨sg, A, none⟩ = some (.slice (some ⟨ug, 0, none⟩) 256 uc) ∧ w3.frozen? ⟨sg, A, none⟩ = false) := fun w3 au cu h3 hj => by
        have hrw : RowR w3 (fun k => G k ∨ w.heap.size ≤ k) (.slice au 256 cu) (mixS X Y n) := ⟨ownsRow_base hj (Nat.zero_le _), fun k hk => .inr (by have := (hj.lt k hk).1; omega)⟩
        have hq := hr.put2 hstl hAl h3 hrw hmix
        refine ⟨⟨_, (?_ : RefAt _ _ _ _ _ _ (svs'.set A (.slice au 256 cu)) _)⟩, (ho.trans h3 (fun _ _ h => h.elim)).trans hq.2 (fun j _ e => by rw [e]; exact HSG.out), hget w3 h3⟩
        rw [e1]
        exact hq.1
      have HC : Hid (∀ wx, Only (fun _ => False) wr wx → wx.cell? ⟨r, 0, none⟩ = some (.slice (some ⟨sg, 0, none⟩) d.st.length csv) ∧ wx.cell? ⟨r, 1, none⟩ = some (.slice (some ⟨wg, 0, none⟩) d.ws.length cw) ∧ wx.cell? ⟨wg, k * 2, none⟩ = some (.int .i64 (A : Int)) ∧ wx.cell? ⟨wg, k * 2 + 1, none⟩ = some (.slice (some ⟨vg, 0, none⟩) 256 vc) ∧ wx.cell? ⟨sg, A, none⟩ = some (.slice (some ⟨ug, 0, none⟩) 256 uc)) := fun wx hx => by
        have hb := hx.below (Nat.le_refl _) (fun _ _ h => h)
        exact ⟨(Blk.only hr.blk hx (fun h => h)).cell 0, (Blk.only hr.blk hx (fun h => h)).cell 1, (hb.cell (World.block_lt_of_cell? wr _ hc1)).trans hc1, (hb.cell (World.block_lt_of_cell? wr _ hc2)).trans hc2, (hget wx hx).1⟩
      have HCX := hide cx1
      have HCY := hide cy1
      have hSr : pk ≠ [] → Sl wr (.slice ao pk.length cp) pk := fun hne => HS.out.only ho (fun j hj hg => HV.out hne j hj hg)
      clear hr ho hxok hxok2 hokS hrow hrow' hrowS hrowS' hv hc1 hc2 hA hX hY hold hget hxA0 hstl HR HO HX e1 cx1 cx2 cy1 cy2 hSX hSY hmix hn1 hn2
      by_cases hkp : k < pk.length
      · have hkpi : (k : Int) < (pk.length : Int) := by omega
        obtain ⟨_, ao', cp', he, _, _, _, h4⟩ := hSr (by intro h; simp [h] at hkp)
        simp only [Value.slice.injEq, true_and] at he
        obtain ⟨rfl, rfl⟩ := he
        obtain ⟨pb, po, rfl, hpc⟩ := h4 (by intro h; simp [h] at hkp)
        have cpk := hpc k hkp
        have gpk := HS.out.bytes.get k
        obtain ⟨c, hc⟩ : ∃ c, c = pk.getD k 0 := ⟨_, rfl⟩
        rw [← hc] at cpk gpk hn
        have hnI : c % 5 * 64 = (n : Int) := by rw [hn]; unfold mixN; omega
        clear hpc h4 hc hn hSr
        go_wp2
        refine wp_region_only (fun _ => False) [isV (.pointer (some ⟨r, 0, none⟩)), isV (.pointer (some ⟨r, 0, none⟩)), isV (.pointer (some ⟨r, 0, none⟩)), isV (.slice (some ⟨sg, 0, none⟩) d.st.length csv), isV (.pointer (some ⟨r, 0, none⟩)), isV (.pointer (some ⟨r, 0, none⟩)), isV (.pointer (some ⟨r, 1, none⟩)), isV (.slice (some ⟨wg, 0, none⟩) d.ws.length cw), isV (.int .i64 (k : Int)), isV (.pointer (some ⟨wg, k * 2, none⟩)), isV (.pointer (some ⟨wg, k * 2, none⟩)), isV (.int .i64 (A : Int)), isV (.pointer (some ⟨r, 0, none⟩)), isV (.pointer (some ⟨r, 0, none⟩)), isV (.pointer (some ⟨r, 1, none⟩)), isV (.slice (some ⟨wg, 0, none⟩) d.ws.length cw), isV (.int .i64 (k : Int)), isV (.pointer (some ⟨wg, k * 2, none⟩)), isV (.pointer (some ⟨wg, k * 2 + 1, none⟩)), isV (.slice (some ⟨vg, 0, none⟩) 256 vc), isV (.int .i64 (n : Int)), isV (.slice a1 n1 k1), isV (.pointer (some ⟨r, 0, none⟩)), isV (.pointer (some ⟨r, 0, none⟩)), isV (.pointer (some ⟨r, 0, none⟩)), isV (.slice (some ⟨sg, 0, none⟩) d.st.length csv), isV (.pointer (some ⟨r, 0, none⟩)), isV (.pointer (some ⟨r, 0, none⟩)), isV (.pointer (some ⟨r, 1, none⟩)), isV (.slice (some ⟨wg, 0, none⟩) d.ws.length cw), isV (.int .i64 (k : Int)), isV (.pointer (some ⟨wg, k * 2, none⟩)), isV (.pointer (some ⟨wg, k * 2, none⟩)), isV (.int .i64 (A : Int)), isV (.pointer (some ⟨sg, A, none⟩)), isV (.slice (some ⟨ug, 0, none⟩) 256 uc), isV (.int .i64 (n : Int)), isV (.slice a2 n2 k2), isJ wr.heap.size (mixS X Y n), isV (.pointer (some ⟨sg, A, none⟩))] 99 75 40 (by kernel_rfl) (by kernel_rfl) (by kernel_rfl) (by kernel_rfl) rfl ?_ ?_ ?_
        · repeat (first | exact trivial | refine allStL_isV ?_ | refine ⟨stS_isJ _ _ _ (fun _ h => h.elim), fun _ => stS_isJ _ _ _ (fun _ h => h.elim), ?_⟩)
        · refine ⟨?_, ?_, ?_, ?_, ?_, ?_, ?_, ?_, ?_, ?_, ?_, ?_, ?_, ?_, ?_, ?_, ?_, ?_, ?_, ?_, ?_, ?_, ?_, ?_, ?_, ?_, ?_, ?_, ?_, ?_, ?_, ?_, ?_, ?_, ?_, ?_, ?_, ?_, ?_, ?_, trivial⟩
          · intro a wx h
            have e0 : a.eval (.tmp 0) = .pointer (some ⟨r, 0, none⟩) := h.old 0 (by kernel_rfl)
            have hrel := h.rel
            clear h
            refine gives_by rfl a.eval rfl ?_
            generalize a.eval = ρ at *
            intro hf hc
            go_simp
            exact ⟨relM_quiet (by decide) (Only.refl _ _), rfl⟩
          · intro a wx h
            obtain ⟨v26, e26, f26⟩ := h.val 0 26 (by kernel_rfl)
            obtain rfl : v26 = .pointer (some ⟨r, 0, none⟩) := f26
            have hrel := h.rel
            clear h
            refine gives_by rfl a.eval rfl ?_
            generalize a.eval = ρ at *
            intro hf hc
            go_simp
            exact ⟨relM_quiet (by decide) (Only.refl _ _), rfl⟩
          · intro a wx h
            obtain ⟨v27, e27, f27⟩ := h.val 1 27 (by kernel_rfl)
            obtain rfl : v27 = .pointer (some ⟨r, 0, none⟩) := f27
            have hrel := h.rel
            clear h
            refine gives_by rfl a.eval rfl ?_
            generalize a.eval = ρ at *
            intro hf hc
            go_simp
            exact ⟨relM_quiet (by decide) (Only.refl _ _), rfl⟩
          · intro a wx h
            obtain ⟨v28, e28, f28⟩ := h.val 2 28 (by kernel_rfl)
            obtain rfl : v28 = .pointer (some ⟨r, 0, none⟩) := f28
            have hrel := h.rel
            clear h
            have cx := (HC.out wx hrel).1
            refine gives_by rfl a.eval rfl ?_
            generalize a.eval = ρ at *
            intro hf hc
            go_simp
            exact ⟨relM_quiet (by decide) (Only.refl _ _), rfl⟩
          · intro a wx h
            have e0 : a.eval (.tmp 0) = .pointer (some ⟨r, 0, none⟩) := h.old 0 (by kernel_rfl)
            have hrel := h.rel
            clear h
            refine gives_by rfl a.eval rfl ?_
            generalize a.eval = ρ at *
            intro hf hc
            go_simp
            exact ⟨relM_quiet (by decide) (Only.refl _ _), rfl⟩
          · intro a wx h
            obtain ⟨v30, e30, f30⟩ := h.val 4 30 (by kernel_rfl)
            obtain rfl : v30 = .pointer (some ⟨r, 0, none⟩) := f30
            have hrel := h.rel
            clear h
            refine gives_by rfl a.eval rfl ?_
            generalize a.eval = ρ at *
            intro hf hc
            go_simp
            exact ⟨relM_quiet (by decide) (Only.refl _ _), rfl⟩
          · intro a wx h
            obtain ⟨v31, e31, f31⟩ := h.val 5 31 (by kernel_rfl)
            obtain rfl : v31 = .pointer (some ⟨r, 0, none⟩) := f31
            have hrel := h.rel
            clear h
            refine gives_by rfl a.eval rfl ?_
            generalize a.eval = ρ at *
            intro hf hc
            go_simp
            exact ⟨relM_quiet (by decide) (Only.refl _ _), rfl⟩
          · intro a wx h
            obtain ⟨v32, e32, f32⟩ := h.val 6 32 (by kernel_rfl)
            obtain rfl : v32 = .pointer (some ⟨r, 1, none⟩) := f32
            have hrel := h.rel
            clear h
            have cx := (HC.out wx hrel).2.1
            refine gives_by rfl a.eval rfl ?_
            generalize a.eval = ρ at *
            intro hf hc
            go_simp
            exact ⟨relM_quiet (by decide) (Only.refl _ _), rfl⟩
          · intro a wx h
            have e4 : a.eval (.tmp 4) = .int .i64 (k : Int) := h.old 4 (by kernel_rfl)
            have hrel := h.rel
            clear h
            refine gives_by rfl a.eval rfl ?_
            generalize a.eval = ρ at *
            intro hf hc
            go_simp
            exact ⟨relM_quiet (by decide) (Only.refl _ _), rfl⟩
          · intro a wx h
            obtain ⟨v33, e33, f33⟩ := h.val 7 33 (by kernel_rfl)
            obtain rfl : v33 = .slice (some ⟨wg, 0, none⟩) d.ws.length cw := f33
            obtain ⟨v34, e34, f34⟩ := h.val 8 34 (by kernel_rfl)
            obtain rfl : v34 = .int .i64 (k : Int) := f34
            have hrel := h.rel
            clear h
            refine gives_by rfl a.eval rfl ?_
            generalize a.eval = ρ at *
            intro hf hc
            go_simp
            exact ⟨relM_quiet (by decide) (Only.refl _ _), rfl⟩
          · intro a wx h
            obtain ⟨v35, e35, f35⟩ := h.val 9 35 (by kernel_rfl)
            obtain rfl : v35 = .pointer (some ⟨wg, k * 2, none⟩) := f35
            have hrel := h.rel
            clear h
            refine gives_by rfl a.eval rfl ?_
            generalize a.eval = ρ at *
            intro hf hc
            go_simp
            exact ⟨relM_quiet (by decide) (Only.refl _ _), rfl⟩
          · intro a wx h
            obtain ⟨v36, e36, f36⟩ := h.val 10 36 (by kernel_rfl)
            obtain rfl : v36 = .pointer (some ⟨wg, k * 2, none⟩) := f36
            have hrel := h.rel
            clear h
            have cx := (HC.out wx hrel).2.2.1
            refine gives_by rfl a.eval rfl ?_
            generalize a.eval = ρ at *
            intro hf hc
            go_simp
            exact ⟨relM_quiet (by decide) (Only.refl _ _), rfl⟩
          · intro a wx h
            have e0 : a.eval (.tmp 0) = .pointer (some ⟨r, 0, none⟩) := h.old 0 (by kernel_rfl)
            have hrel := h.rel
            clear h
            refine gives_by rfl a.eval rfl ?_
            generalize a.eval = ρ at *
            intro hf hc
            go_simp
            exact ⟨relM_quiet (by decide) (Only.refl _ _), rfl⟩
          · intro a wx h
            obtain ⟨v38, e38, f38⟩ := h.val 12 38 (by kernel_rfl)
            obtain rfl : v38 = .pointer (some ⟨r, 0, none⟩) := f38
            have hrel := h.rel
            clear h
            refine gives_by rfl a.eval rfl ?_
            generalize a.eval = ρ at *
            intro hf hc
            go_simp
            exact ⟨relM_quiet (by decide) (Only.refl _ _), rfl⟩
          · intro a wx h
            obtain ⟨v39, e39, f39⟩ := h.val 13 39 (by kernel_rfl)
            obtain rfl : v39 = .pointer (some ⟨r, 0, none⟩) := f39
            have hrel := h.rel
            clear h
            refine gives_by rfl a.eval rfl ?_
            generalize a.eval = ρ at *
            intro hf hc
            go_simp
            exact ⟨relM_quiet (by decide) (Only.refl _ _), rfl⟩
          · intro a wx h
            obtain ⟨v40, e40, f40⟩ := h.val 14 40 (by kernel_rfl)
            obtain rfl : v40 = .pointer (some ⟨r, 1, none⟩) := f40
            have hrel := h.rel
            clear h
            have cx := (HC.out wx hrel).2.1
            refine gives_by rfl a.eval rfl ?_
            generalize a.eval = ρ at *
            intro hf hc
            go_simp
            exact ⟨relM_quiet (by decide) (Only.refl _ _), rfl⟩
          · intro a wx h
            have e4 : a.eval (.tmp 4) = .int .i64 (k : Int) := h.old 4 (by kernel_rfl)
            have hrel := h.rel
            clear h
            refine gives_by rfl a.eval rfl ?_
            generalize a.eval = ρ at *
            intro hf hc
            go_simp
            exact ⟨relM_quiet (by decide) (Only.refl _ _), rfl⟩
          · intro a wx h
            obtain ⟨v41, e41, f41⟩ := h.val 15 41 (by kernel_rfl)
            obtain rfl : v41 = .slice (some ⟨wg, 0, none⟩) d.ws.length cw := f41
            obtain ⟨v42, e42, f42⟩ := h.val 16 42 (by kernel_rfl)
            obtain rfl : v42 = .int .i64 (k : Int) := f42
            have hrel := h.rel
            clear h
            refine gives_by rfl a.eval rfl ?_
            generalize a.eval = ρ at *
            intro hf hc
            go_simp
            exact ⟨relM_quiet (by decide) (Only.refl _ _), rfl⟩
          · intro a wx h
            obtain ⟨v43, e43, f43⟩ := h.val 17 43 (by kernel_rfl)
            obtain rfl : v43 = .pointer (some ⟨wg, k * 2, none⟩) := f43
            have hrel := h.rel
            clear h
            refine gives_by rfl a.eval rfl ?_
            generalize a.eval = ρ at *
            intro hf hc
            go_simp
            exact ⟨relM_quiet (by decide) (Only.refl _ _), rfl⟩
          · intro a wx h
            obtain ⟨v44, e44, f44⟩ := h.val 18 44 (by kernel_rfl)
            obtain rfl : v44 = .pointer (some ⟨wg, k * 2 + 1, none⟩) := f44
            have hrel := h.rel
            clear h
            have cx := (HC.out wx hrel).2.2.2.1
            refine gives_by rfl a.eval rfl ?_
            generalize a.eval = ρ at *
            intro hf hc
            go_simp
            exact ⟨relM_quiet (by decide) (Only.refl _ _), rfl⟩
          · intro a wx h
            have e5 : a.eval (.tmp 5) = .int .i64 (n : Int) := h.old 5 (by kernel_rfl)
            have hrel := h.rel
            clear h
            refine gives_by rfl a.eval rfl ?_
            generalize a.eval = ρ at *
            intro hf hc
            go_simp
            exact ⟨relM_quiet (by decide) (Only.refl _ _), rfl⟩
          · intro a wx h
            obtain ⟨v45, e45, f45⟩ := h.val 19 45 (by kernel_rfl)
            obtain rfl : v45 = .slice (some ⟨vg, 0, none⟩) 256 vc := f45
            obtain ⟨v46, e46, f46⟩ := h.val 20 46 (by kernel_rfl)
            obtain rfl : v46 = .int .i64 (n : Int) := f46
            have hrel := h.rel
            clear h
            exact gives_of_run rfl (exec_slice_hi 46 tySl (.tmp 45) (.tmp 46) rfl _ _ _ e45 e46 (HCX.out wx)) ⟨relM_quiet (by decide) (Only.refl _ _), rfl⟩
          · intro a wx h
            have e0 : a.eval (.tmp 0) = .pointer (some ⟨r, 0, none⟩) := h.old 0 (by kernel_rfl)
            have hrel := h.rel
            clear h
            refine gives_by rfl a.eval rfl ?_
            generalize a.eval = ρ at *
            intro hf hc
            go_simp
            exact ⟨relM_quiet (by decide) (Only.refl _ _), rfl⟩
          · intro a wx h
            obtain ⟨v48, e48, f48⟩ := h.val 22 48 (by kernel_rfl)
            obtain rfl : v48 = .pointer (some ⟨r, 0, none⟩) := f48
            have hrel := h.rel
            clear h
            refine gives_by rfl a.eval rfl ?_
            generalize a.eval = ρ at *
            intro hf hc
            go_simp
            exact ⟨relM_quiet (by decide) (Only.refl _ _), rfl⟩
          · intro a wx h
            obtain ⟨v49, e49, f49⟩ := h.val 23 49 (by kernel_rfl)
            obtain rfl : v49 = .pointer (some ⟨r, 0, none⟩) := f49
            have hrel := h.rel
            clear h
            refine gives_by rfl a.eval rfl ?_
            generalize a.eval = ρ at *
            intro hf hc
            go_simp
            exact ⟨relM_quiet (by decide) (Only.refl _ _), rfl⟩
          · intro a wx h
            obtain ⟨v50, e50, f50⟩ := h.val 24 50 (by kernel_rfl)
            obtain rfl : v50 = .pointer (some ⟨r, 0, none⟩) := f50
            have hrel := h.rel
            clear h
            have cx := (HC.out wx hrel).1
            refine gives_by rfl a.eval rfl ?_
            generalize a.eval = ρ at *
            intro hf hc
            go_simp
            exact ⟨relM_quiet (by decide) (Only.refl _ _), rfl⟩
          · intro a wx h
            have e0 : a.eval (.tmp 0) = .pointer (some ⟨r, 0, none⟩) := h.old 0 (by kernel_rfl)
            have hrel := h.rel
            clear h
            refine gives_by rfl a.eval rfl ?_
            generalize a.eval = ρ at *
            intro hf hc
            go_simp
            exact ⟨relM_quiet (by decide) (Only.refl _ _), rfl⟩
          · intro a wx h
            obtain ⟨v52, e52, f52⟩ := h.val 26 52 (by kernel_rfl)
            obtain rfl : v52 = .pointer (some ⟨r, 0, none⟩) := f52
            have hrel := h.rel
            clear h
            refine gives_by rfl a.eval rfl ?_
            generalize a.eval = ρ at *
            intro hf hc
            go_simp
            exact ⟨relM_quiet (by decide) (Only.refl _ _), rfl⟩
          · intro a wx h
            obtain ⟨v53, e53, f53⟩ := h.val 27 53 (by kernel_rfl)
            obtain rfl : v53 = .pointer (some ⟨r, 0, none⟩) := f53
            have hrel := h.rel
            clear h
            refine gives_by rfl a.eval rfl ?_
            generalize a.eval = ρ at *
            intro hf hc
            go_simp
            exact ⟨relM_quiet (by decide) (Only.refl _ _), rfl⟩
          · intro a wx h
            obtain ⟨v54, e54, f54⟩ := h.val 28 54 (by kernel_rfl)
            obtain rfl : v54 = .pointer (some ⟨r, 1, none⟩) := f54
            have hrel := h.rel
            clear h
            have cx := (HC.out wx hrel).2.1
            refine gives_by rfl a.eval rfl ?_
            generalize a.eval = ρ at *
            intro hf hc
            go_simp
            exact ⟨relM_quiet (by decide) (Only.refl _ _), rfl⟩
          · intro a wx h
            have e4 : a.eval (.tmp 4) = .int .i64 (k : Int) := h.old 4 (by kernel_rfl)
            have hrel := h.rel
            clear h
            refine gives_by rfl a.eval rfl ?_
            generalize a.eval = ρ at *
            intro hf hc
            go_simp
            exact ⟨relM_quiet (by decide) (Only.refl _ _), rfl⟩
          · intro a wx h
            obtain ⟨v55, e55, f55⟩ := h.val 29 55 (by kernel_rfl)
            obtain rfl : v55 = .slice (some ⟨wg, 0, none⟩) d.ws.length cw := f55
            obtain ⟨v56, e56, f56⟩ := h.val 30 56 (by kernel_rfl)
            obtain rfl : v56 = .int .i64 (k : Int) := f56
            have hrel := h.rel
            clear h
            refine gives_by rfl a.eval rfl ?_
            generalize a.eval = ρ at *
            intro hf hc
            go_simp
            exact ⟨relM_quiet (by decide) (Only.refl _ _), rfl⟩
          · intro a wx h
            obtain ⟨v57, e57, f57⟩ := h.val 31 57 (by kernel_rfl)
            obtain rfl : v57 = .pointer (some ⟨wg, k * 2, none⟩) := f57
            have hrel := h.rel
            clear h
            refine gives_by rfl a.eval rfl ?_
            generalize a.eval = ρ at *
            intro hf hc
            go_simp
            exact ⟨relM_quiet (by decide) (Only.refl _ _), rfl⟩
          · intro a wx h
            obtain ⟨v58, e58, f58⟩ := h.val 32 58 (by kernel_rfl)
            obtain rfl : v58 = .pointer (some ⟨wg, k * 2, none⟩) := f58
            have hrel := h.rel
            clear h
            have cx := (HC.out wx hrel).2.2.1
            refine gives_by rfl a.eval rfl ?_
            generalize a.eval = ρ at *
            intro hf hc
            go_simp
            exact ⟨relM_quiet (by decide) (Only.refl _ _), rfl⟩
          · intro a wx h
            obtain ⟨v51, e51, f51⟩ := h.val 25 51 (by kernel_rfl)
            obtain rfl : v51 = .slice (some ⟨sg, 0, none⟩) d.st.length csv := f51
            obtain ⟨v59, e59, f59⟩ := h.val 33 59 (by kernel_rfl)
            obtain rfl : v59 = .int .i64 (A : Int) := f59
            have hrel := h.rel
            clear h
            refine gives_by rfl a.eval rfl ?_
            generalize a.eval = ρ at *
            intro hf hc
            go_simp
            exact ⟨relM_quiet (by decide) (Only.refl _ _), rfl⟩
          · intro a wx h
            obtain ⟨v60, e60, f60⟩ := h.val 34 60 (by kernel_rfl)
            obtain rfl : v60 = .pointer (some ⟨sg, A, none⟩) := f60
            have hrel := h.rel
            clear h
            have cx := (HC.out wx hrel).2.2.2.2
            refine gives_by rfl a.eval rfl ?_
            generalize a.eval = ρ at *
            intro hf hc
            go_simp
            exact ⟨relM_quiet (by decide) (Only.refl _ _), rfl⟩
          · intro a wx h
            have e5 : a.eval (.tmp 5) = .int .i64 (n : Int) := h.old 5 (by kernel_rfl)
            have hrel := h.rel
            clear h
            refine gives_by rfl a.eval rfl ?_
            generalize a.eval = ρ at *
            intro hf hc
            go_simp
            exact ⟨relM_quiet (by decide) (Only.refl _ _), rfl⟩
          · intro a wx h
            obtain ⟨v61, e61, f61⟩ := h.val 35 61 (by kernel_rfl)
            obtain rfl : v61 = .slice (some ⟨ug, 0, none⟩) 256 uc := f61
            obtain ⟨v62, e62, f62⟩ := h.val 36 62 (by kernel_rfl)
            obtain rfl : v62 = .int .i64 (n : Int) := f62
            have hrel := h.rel
            clear h
            exact gives_of_run rfl (exec_slice_lo 46 tySl (.tmp 61) (.tmp 62) rfl _ _ _ e61 e62 (HCY.out wx)) ⟨relM_quiet (by decide) (Only.refl _ _), rfl⟩
          · intro a wx h
            obtain ⟨v47, e47, f47⟩ := h.val 21 47 (by kernel_rfl)
            obtain rfl : v47 = .slice a1 n1 k1 := f47
            obtain ⟨v63, e63, f63⟩ := h.val 37 63 (by kernel_rfl)
            obtain rfl : v63 = .slice a2 n2 k2 := f63
            have hrel := h.rel
            clear h
            refine gives_by rfl a.eval rfl ?_
            generalize a.eval = ρ at *
            intro hf hc
            go_simp
            refine (HJ.out wx hrel).mono ?_
            rintro e wy ⟨u, rfl, hj, hb⟩
            exact ⟨u, rfl, relM_quiet (by decide) (Only.of_below _ hb), hj⟩
          · intro a wx h
            obtain ⟨v29, e29, f29⟩ := h.val 3 29 (by kernel_rfl)
            obtain rfl : v29 = .slice (some ⟨sg, 0, none⟩) d.st.length csv := f29
            obtain ⟨v37, e37, f37⟩ := h.val 11 37 (by kernel_rfl)
            obtain rfl : v37 = .int .i64 (A : Int) := f37
            have hrel := h.rel
            clear h
            refine gives_by rfl a.eval rfl ?_
            generalize a.eval = ρ at *
            intro hf hc
            go_simp
            exact ⟨relM_quiet (by decide) (Only.refl _ _), rfl⟩
        · intro oL hoL vals w3 ho3 hv
          simp only [List.getElem?_toArray, List.getElem?_cons_succ, List.getElem?_cons_zero, Option.some.injEq] at hoL
          subst hoL
          have hv38 : isJ wr.heap.size (mixS X Y n) (vals 38) w3 := hv 38 64 (by decide) (by kernel_rfl)
          have hv39 : vals 39 = .pointer (some ⟨sg, A, none⟩) := hv 39 65 (by decide) (by kernel_rfl)
          clear hv
          generalize hact : putAll _ vals 0 _ = act
          obtain ⟨au, cu, hu⟩ := own_form' hv38
          rw [hu] at hv38
          obtain ⟨p1, p2, k1, k2⟩ := HP.out w3 au cu ho3 hv38
          have HP1 := hide p1
          have HP2 := hide p2
          clear p1 p2 HP ho3 hv38
          subst hact
          simp only [List.dropLast, putAll, Act.put, List.setIfInBounds_toArray, List.set_cons_zero, List.set_cons_succ, hu, hv39]
          refine gives_of_skip rfl (w' := w3.setCell ⟨sg, A, none⟩ (.slice au 256 cu)) (by go_simp) ?_
          clear hu hv39 k1 k2
          go_wp2
          go_roundg g
          case measure => omega
          case rel =>
            obtain ⟨svs2, hr2⟩ := HP1.out
            exact ⟨k + 1, svs2, by omega, by go_num, hr2, HP2.out⟩

      · have hkpi : ¬ (k : Int) < (pk.length : Int) := by omega
        have hn0 : n = 0 := by rw [hn, getD_ge pk (by omega)]; rfl
        have hz : Value.int .i64 0 = Value.int .i64 (n : Int) := by rw [hn0]; rfl
        clear hn hSr hn0
        have HZ := hide hz
        clear hz
        go_wp2
        rw [HZ.out]
        refine wp_region_only (fun _ => False) [isV (.pointer (some ⟨r, 0, none⟩)), isV (.pointer (some ⟨r, 0, none⟩)), isV (.pointer (some ⟨r, 0, none⟩)), isV (.slice (some ⟨sg, 0, none⟩) d.st.length csv), isV (.pointer (some ⟨r, 0, none⟩)), isV (.pointer (some ⟨r, 0, none⟩)), isV (.pointer (some ⟨r, 1, none⟩)), isV (.slice (some ⟨wg, 0, none⟩) d.ws.length cw), isV (.int .i64 (k : Int)), isV (.pointer (some ⟨wg, k * 2, none⟩)), isV (.pointer (some ⟨wg, k * 2, none⟩)), isV (.int .i64 (A : Int)), isV (.pointer (some ⟨r, 0, none⟩)), isV (.pointer (some ⟨r, 0, none⟩)), isV (.pointer (some ⟨r, 1, none⟩)), isV (.slice (some ⟨wg, 0, none⟩) d.ws.length cw), isV (.int .i64 (k : Int)), isV (.pointer (some ⟨wg, k * 2, none⟩)), isV (.pointer (some ⟨wg, k * 2 + 1, none⟩)), isV (.slice (some ⟨vg, 0, none⟩) 256 vc), isV (.int .i64 (n : Int)), isV (.slice a1 n1 k1), isV (.pointer (some ⟨r, 0, none⟩)), isV (.pointer (some ⟨r, 0, none⟩)), isV (.pointer (some ⟨r, 0, none⟩)), isV (.slice (some ⟨sg, 0, none⟩) d.st.length csv), isV (.pointer (some ⟨r, 0, none⟩)), isV (.pointer (some ⟨r, 0, none⟩)), isV (.pointer (some ⟨r, 1, none⟩)), isV (.slice (some ⟨wg, 0, none⟩) d.ws.length cw), isV (.int .i64 (k : Int)), isV (.pointer (some ⟨wg, k * 2, none⟩)), isV (.pointer (some ⟨wg, k * 2, none⟩)), isV (.int .i64 (A : Int)), isV (.pointer (some ⟨sg, A, none⟩)), isV (.slice (some ⟨ug, 0, none⟩) 256 uc), isV (.int .i64 (n : Int)), isV (.slice a2 n2 k2), isJ wr.heap.size (mixS X Y n), isV (.pointer (some ⟨sg, A, none⟩))] 99 75 40 (by kernel_rfl) (by kernel_rfl) (by kernel_rfl) (by kernel_rfl) rfl ?_ ?_ ?_
        · repeat (first | exact trivial | refine allStL_isV ?_ | refine ⟨stS_isJ _ _ _ (fun _ h => h.elim), fun _ => stS_isJ _ _ _ (fun _ h => h.elim), ?_⟩)
        · refine ⟨?_, ?_, ?_, ?_, ?_, ?_, ?_, ?_, ?_, ?_, ?_, ?_, ?_, ?_, ?_, ?_, ?_, ?_, ?_, ?_, ?_, ?_, ?_, ?_, ?_, ?_, ?_, ?_, ?_, ?_, ?_, ?_, ?_, ?_, ?_, ?_, ?_, ?_, ?_, ?_, trivial⟩
          · intro a wx h
            have e0 : a.eval (.tmp 0) = .pointer (some ⟨r, 0, none⟩) := h.old 0 (by kernel_rfl)
            have hrel := h.rel
            clear h
            refine gives_by rfl a.eval rfl ?_
            generalize a.eval = ρ at *
            intro hf hc
            go_simp
            exact ⟨relM_quiet (by decide) (Only.refl _ _), rfl⟩
          · intro a wx h
            obtain ⟨v26, e26, f26⟩ := h.val 0 26 (by kernel_rfl)
            obtain rfl : v26 = .pointer (some ⟨r, 0, none⟩) := f26
            have hrel := h.rel
            clear h
            refine gives_by rfl a.eval rfl ?_
            generalize a.eval = ρ at *
            intro hf hc
            go_simp
            exact ⟨relM_quiet (by decide) (Only.refl _ _), rfl⟩
          · intro a wx h
            obtain ⟨v27, e27, f27⟩ := h.val 1 27 (by kernel_rfl)
            obtain rfl : v27 = .pointer (some ⟨r, 0, none⟩) := f27
            have hrel := h.rel
            clear h
            refine gives_by rfl a.eval rfl ?_
            generalize a.eval = ρ at *
            intro hf hc
            go_simp
            exact ⟨relM_quiet (by decide) (Only.refl _ _), rfl⟩
          · intro a wx h
            obtain ⟨v28, e28, f28⟩ := h.val 2 28 (by kernel_rfl)
            obtain rfl : v28 = .pointer (some ⟨r, 0, none⟩) := f28
            have hrel := h.rel
            clear h
            have cx := (HC.out wx hrel).1
            refine gives_by rfl a.eval rfl ?_
            generalize a.eval = ρ at *
            intro hf hc
            go_simp
            exact ⟨relM_quiet (by decide) (Only.refl _ _), rfl⟩
          · intro a wx h
            have e0 : a.eval (.tmp 0) = .pointer (some ⟨r, 0, none⟩) := h.old 0 (by kernel_rfl)
            have hrel := h.rel
            clear h
            refine gives_by rfl a.eval rfl ?_
            generalize a.eval = ρ at *
            intro hf hc
            go_simp
            exact ⟨relM_quiet (by decide) (Only.refl _ _), rfl⟩
          · intro a wx h
            obtain ⟨v30, e30, f30⟩ := h.val 4 30 (by kernel_rfl)
            obtain rfl : v30 = .pointer (some ⟨r, 0, none⟩) := f30
            have hrel := h.rel
            clear h
            refine gives_by rfl a.eval rfl ?_
            generalize a.eval = ρ at *
            intro hf hc
            go_simp
            exact ⟨relM_quiet (by decide) (Only.refl _ _), rfl⟩
          · intro a wx h
            obtain ⟨v31, e31, f31⟩ := h.val 5 31 (by kernel_rfl)
            obtain rfl : v31 = .pointer (some ⟨r, 0, none⟩) := f31
            have hrel := h.rel
            clear h
            refine gives_by rfl a.eval rfl ?_
            generalize a.eval = ρ at *
            intro hf hc
            go_simp
            exact ⟨relM_quiet (by decide) (Only.refl _ _), rfl⟩
          · intro a wx h
            obtain ⟨v32, e32, f32⟩ := h.val 6 32 (by kernel_rfl)
            obtain rfl : v32 = .pointer (some ⟨r, 1, none⟩) := f32
            have hrel := h.rel
            clear h
            have cx := (HC.out wx hrel).2.1
            refine gives_by rfl a.eval rfl ?_
            generalize a.eval = ρ at *
            intro hf hc
            go_simp
            exact ⟨relM_quiet (by decide) (Only.refl _ _), rfl⟩
          · intro a wx h
            have e4 : a.eval (.tmp 4) = .int .i64 (k : Int) := h.old 4 (by kernel_rfl)
            have hrel := h.rel
            clear h
            refine gives_by rfl a.eval rfl ?_
            generalize a.eval = ρ at *
            intro hf hc
            go_simp
            exact ⟨relM_quiet (by decide) (Only.refl _ _), rfl⟩
          · intro a wx h
            obtain ⟨v33, e33, f33⟩ := h.val 7 33 (by kernel_rfl)
            obtain rfl : v33 = .slice (some ⟨wg, 0, none⟩) d.ws.length cw := f33
            obtain ⟨v34, e34, f34⟩ := h.val 8 34 (by kernel_rfl)
            obtain rfl : v34 = .int .i64 (k : Int) := f34
            have hrel := h.rel
            clear h
            refine gives_by rfl a.eval rfl ?_
            generalize a.eval = ρ at *
            intro hf hc
            go_simp
            exact ⟨relM_quiet (by decide) (Only.refl _ _), rfl⟩
          · intro a wx h
            obtain ⟨v35, e35, f35⟩ := h.val 9 35 (by kernel_rfl)
            obtain rfl : v35 = .pointer (some ⟨wg, k * 2, none⟩) := f35
            have hrel := h.rel
            clear h
            refine gives_by rfl a.eval rfl ?_
            generalize a.eval = ρ at *
            intro hf hc
            go_simp
            exact ⟨relM_quiet (by decide) (Only.refl _ _), rfl⟩
          · intro a wx h
            obtain ⟨v36, e36, f36⟩ := h.val 10 36 (by kernel_rfl)
            obtain rfl : v36 = .pointer (some ⟨wg, k * 2, none⟩) := f36
            have hrel := h.rel
            clear h
            have cx := (HC.out wx hrel).2.2.1
            refine gives_by rfl a.eval rfl ?_
            generalize a.eval = ρ at *
            intro hf hc
            go_simp
            exact ⟨relM_quiet (by decide) (Only.refl _ _), rfl⟩
          · intro a wx h
            have e0 : a.eval (.tmp 0) = .pointer (some ⟨r, 0, none⟩) := h.old 0 (by kernel_rfl)
            have hrel := h.rel
            clear h
            refine gives_by rfl a.eval rfl ?_
            generalize a.eval = ρ at *
            intro hf hc
            go_simp
            exact ⟨relM_quiet (by decide) (Only.refl _ _), rfl⟩
          · intro a wx h
            obtain ⟨v38, e38, f38⟩ := h.val 12 38 (by kernel_rfl)
            obtain rfl : v38 = .pointer (some ⟨r, 0, none⟩) := f38
            have hrel := h.rel
            clear h
            refine gives_by rfl a.eval rfl ?_
            generalize a.eval = ρ at *
            intro hf hc
            go_simp
            exact ⟨relM_quiet (by decide) (Only.refl _ _), rfl⟩
          · intro a wx h
            obtain ⟨v39, e39, f39⟩ := h.val 13 39 (by kernel_rfl)
            obtain rfl : v39 = .pointer (some ⟨r, 0, none⟩) := f39
            have hrel := h.rel
            clear h
            refine gives_by rfl a.eval rfl ?_
            generalize a.eval = ρ at *
            intro hf hc
            go_simp
            exact ⟨relM_quiet (by decide) (Only.refl _ _), rfl⟩
          · intro a wx h
            obtain ⟨v40, e40, f40⟩ := h.val 14 40 (by kernel_rfl)
            obtain rfl : v40 = .pointer (some ⟨r, 1, none⟩) := f40
            have hrel := h.rel
            clear h
            have cx := (HC.out wx hrel).2.1
            refine gives_by rfl a.eval rfl ?_
            generalize a.eval = ρ at *
            intro hf hc
            go_simp
            exact ⟨relM_quiet (by decide) (Only.refl _ _), rfl⟩
          · intro a wx h
            have e4 : a.eval (.tmp 4) = .int .i64 (k : Int) := h.old 4 (by kernel_rfl)
            have hrel := h.rel
            clear h
            refine gives_by rfl a.eval rfl ?_
            generalize a.eval = ρ at *
            intro hf hc
            go_simp
            exact ⟨relM_quiet (by decide) (Only.refl _ _), rfl⟩
          · intro a wx h
            obtain ⟨v41, e41, f41⟩ := h.val 15 41 (by kernel_rfl)
            obtain rfl : v41 = .slice (some ⟨wg, 0, none⟩) d.ws.length cw := f41
            obtain ⟨v42, e42, f42⟩ := h.val 16 42 (by kernel_rfl)
            obtain rfl : v42 = .int .i64 (k : Int) := f42
            have hrel := h.rel
            clear h
            refine gives_by rfl a.eval rfl ?_
            generalize a.eval = ρ at *
            intro hf hc
            go_simp
            exact ⟨relM_quiet (by decide) (Only.refl _ _), rfl⟩
          · intro a wx h
            obtain ⟨v43, e43, f43⟩ := h.val 17 43 (by kernel_rfl)
            obtain rfl : v43 = .pointer (some ⟨wg, k * 2, none⟩) := f43
            have hrel := h.rel
            clear h
            refine gives_by rfl a.eval rfl ?_
            generalize a.eval = ρ at *
            intro hf hc
            go_simp
            exact ⟨relM_quiet (by decide) (Only.refl _ _), rfl⟩
          · intro a wx h
            obtain ⟨v44, e44, f44⟩ := h.val 18 44 (by kernel_rfl)
            obtain rfl : v44 = .pointer (some ⟨wg, k * 2 + 1, none⟩) := f44
            have hrel := h.rel
            clear h
            have cx := (HC.out wx hrel).2.2.2.1
            refine gives_by rfl a.eval rfl ?_
            generalize a.eval = ρ at *
            intro hf hc
            go_simp
            exact ⟨relM_quiet (by decide) (Only.refl _ _), rfl⟩
          · intro a wx h
            have e5 : a.eval (.tmp 5) = .int .i64 (n : Int) := h.old 5 (by kernel_rfl)
            have hrel := h.rel
            clear h
            refine gives_by rfl a.eval rfl ?_
            generalize a.eval = ρ at *
            intro hf hc
            go_simp
            exact ⟨relM_quiet (by decide) (Only.refl _ _), rfl⟩
          · intro a wx h
            obtain ⟨v45, e45, f45⟩ := h.val 19 45 (by kernel_rfl)
            obtain rfl : v45 = .slice (some ⟨vg, 0, none⟩) 256 vc := f45
            obtain ⟨v46, e46, f46⟩ := h.val 20 46 (by kernel_rfl)
            obtain rfl : v46 = .int .i64 (n : Int) := f46
            have hrel := h.rel
            clear h
            exact gives_of_run rfl (exec_slice_hi 46 tySl (.tmp 45) (.tmp 46) rfl _ _ _ e45 e46 (HCX.out wx)) ⟨relM_quiet (by decide) (Only.refl _ _), rfl⟩
          · intro a wx h
            have e0 : a.eval (.tmp 0) = .pointer (some ⟨r, 0, none⟩) := h.old 0 (by kernel_rfl)
            have hrel := h.rel
            clear h
            refine gives_by rfl a.eval rfl ?_
            generalize a.eval = ρ at *
            intro hf hc
            go_simp
            exact ⟨relM_quiet (by decide) (Only.refl _ _), rfl⟩
          · intro a wx h
            obtain ⟨v48, e48, f48⟩ := h.val 22 48 (by kernel_rfl)
            obtain rfl : v48 = .pointer (some ⟨r, 0, none⟩) := f48
            have hrel := h.rel
            clear h
            refine gives_by rfl a.eval rfl ?_
            generalize a.eval = ρ at *
            intro hf hc
            go_simp
            exact ⟨relM_quiet (by decide) (Only.refl _ _), rfl⟩
          · intro a wx h
            obtain ⟨v49, e49, f49⟩ := h.val 23 49 (by kernel_rfl)
            obtain rfl : v49 = .pointer (some ⟨r, 0, none⟩) := f49
            have hrel := h.rel
            clear h
            refine gives_by rfl a.eval rfl ?_
            generalize a.eval = ρ at *
            intro hf hc
            go_simp
            exact ⟨relM_quiet (by decide) (Only.refl _ _), rfl⟩
          · intro a wx h
            obtain ⟨v50, e50, f50⟩ := h.val 24 50 (by kernel_rfl)
            obtain rfl : v50 = .pointer (some ⟨r, 0, none⟩) := f50
            have hrel := h.rel
            clear h
            have cx := (HC.out wx hrel).1
            refine gives_by rfl a.eval rfl ?_
            generalize a.eval = ρ at *
            intro hf hc
            go_simp
            exact ⟨relM_quiet (by decide) (Only.refl _ _), rfl⟩
          · intro a wx h
            have e0 : a.eval (.tmp 0) = .pointer (some ⟨r, 0, none⟩) := h.old 0 (by kernel_rfl)
            have hrel := h.rel
            clear h
            refine gives_by rfl a.eval rfl ?_
            generalize a.eval = ρ at *
            intro hf hc
            go_simp
            exact ⟨relM_quiet (by decide) (Only.refl _ _), rfl⟩
          · intro a wx h
            obtain ⟨v52, e52, f52⟩ := h.val 26 52 (by kernel_rfl)
            obtain rfl : v52 = .pointer (some ⟨r, 0, none⟩) := f52
            have hrel := h.rel
            clear h
            refine gives_by rfl a.eval rfl ?_
            generalize a.eval = ρ at *
            intro hf hc
            go_simp
            exact ⟨relM_quiet (by decide) (Only.refl _ _), rfl⟩
          · intro a wx h
            obtain ⟨v53, e53, f53⟩ := h.val 27 53 (by kernel_rfl)
            obtain rfl : v53 = .pointer (some ⟨r, 0, none⟩) := f53
            have hrel := h.rel
            clear h
            refine gives_by rfl a.eval rfl ?_
            generalize a.eval = ρ at *
            intro hf hc
            go_simp
            exact ⟨relM_quiet (by decide) (Only.refl _ _), rfl⟩
          · intro a wx h
            obtain ⟨v54, e54, f54⟩ := h.val 28 54 (by kernel_rfl)
            obtain rfl : v54 = .pointer (some ⟨r, 1, none⟩) := f54
            have hrel := h.rel
            clear h
            have cx := (HC.out wx hrel).2.1
            refine gives_by rfl a.eval rfl ?_
            generalize a.eval = ρ at *
            intro hf hc
            go_simp
            exact ⟨relM_quiet (by decide) (Only.refl _ _), rfl⟩
          · intro a wx h
            have e4 : a.eval (.tmp 4) = .int .i64 (k : Int) := h.old 4 (by kernel_rfl)
            have hrel := h.rel
            clear h
            refine gives_by rfl a.eval rfl ?_
            generalize a.eval = ρ at *
            intro hf hc
            go_simp
            exact ⟨relM_quiet (by decide) (Only.refl _ _), rfl⟩
          · intro a wx h
            obtain ⟨v55, e55, f55⟩ := h.val 29 55 (by kernel_rfl)
            obtain rfl : v55 = .slice (some ⟨wg, 0, none⟩) d.ws.length cw := f55
            obtain ⟨v56, e56, f56⟩ := h.val 30 56 (by kernel_rfl)
            obtain rfl : v56 = .int .i64 (k : Int) := f56
            have hrel := h.rel
            clear h
            refine gives_by rfl a.eval rfl ?_
            generalize a.eval = ρ at *
            intro hf hc
            go_simp
            exact ⟨relM_quiet (by decide) (Only.refl _ _), rfl⟩
          · intro a wx h
            obtain ⟨v57, e57, f57⟩ := h.val 31 57 (by kernel_rfl)
            obtain rfl : v57 = .pointer (some ⟨wg, k * 2, none⟩) := f57
            have hrel := h.rel
            clear h
            refine gives_by rfl a.eval rfl ?_
            generalize a.eval = ρ at *
            intro hf hc
            go_simp
            exact ⟨relM_quiet (by decide) (Only.refl _ _), rfl⟩
          · intro a wx h
            obtain ⟨v58, e58, f58⟩ := h.val 32 58 (by kernel_rfl)
            obtain rfl : v58 = .pointer (some ⟨wg, k * 2, none⟩) := f58
            have hrel := h.rel
            clear h
            have cx := (HC.out wx hrel).2.2.1
            refine gives_by rfl a.eval rfl ?_
            generalize a.eval = ρ at *
            intro hf hc
            go_simp
            exact ⟨relM_quiet (by decide) (Only.refl _ _), rfl⟩
          · intro a wx h
            obtain ⟨v51, e51, f51⟩ := h.val 25 51 (by kernel_rfl)
            obtain rfl : v51 = .slice (some ⟨sg, 0, none⟩) d.st.length csv := f51
            obtain ⟨v59, e59, f59⟩ := h.val 33 59 (by kernel_rfl)
            obtain rfl : v59 = .int .i64 (A : Int) := f59
            have hrel := h.rel
            clear h
            refine gives_by rfl a.eval rfl ?_
            generalize a.eval = ρ at *
            intro hf hc
            go_simp
            exact ⟨relM_quiet (by decide) (Only.refl _ _), rfl⟩
          · intro a wx h
            obtain ⟨v60, e60, f60⟩ := h.val 34 60 (by kernel_rfl)
            obtain rfl : v60 = .pointer (some ⟨sg, A, none⟩) := f60
            have hrel := h.rel
            clear h
            have cx := (HC.out wx hrel).2.2.2.2
            refine gives_by rfl a.eval rfl ?_
            generalize a.eval = ρ at *
            intro hf hc
            go_simp
            exact ⟨relM_quiet (by decide) (Only.refl _ _), rfl⟩
          · intro a wx h
            have e5 : a.eval (.tmp 5) = .int .i64 (n : Int) := h.old 5 (by kernel_rfl)
            have hrel := h.rel
            clear h
            refine gives_by rfl a.eval rfl ?_
            generalize a.eval = ρ at *
            intro hf hc
            go_simp
            exact ⟨relM_quiet (by decide) (Only.refl _ _), rfl⟩
          · intro a wx h
            obtain ⟨v61, e61, f61⟩ := h.val 35 61 (by kernel_rfl)
            obtain rfl : v61 = .slice (some ⟨ug, 0, none⟩) 256 uc := f61
            obtain ⟨v62, e62, f62⟩ := h.val 36 62 (by kernel_rfl)
            obtain rfl : v62 = .int .i64 (n : Int) := f62
            have hrel := h.rel
            clear h
            exact gives_of_run rfl (exec_slice_lo 46 tySl (.tmp 61) (.tmp 62) rfl _ _ _ e61 e62 (HCY.out wx)) ⟨relM_quiet (by decide) (Only.refl _ _), rfl⟩
          · intro a wx h
            obtain ⟨v47, e47, f47⟩ := h.val 21 47 (by kernel_rfl)
            obtain rfl : v47 = .slice a1 n1 k1 := f47
            obtain ⟨v63, e63, f63⟩ := h.val 37 63 (by kernel_rfl)
            obtain rfl : v63 = .slice a2 n2 k2 := f63
            have hrel := h.rel
            clear h
            refine gives_by rfl a.eval rfl ?_
            generalize a.eval = ρ at *
            intro hf hc
            go_simp
            refine (HJ.out wx hrel).mono ?_
            rintro e wy ⟨u, rfl, hj, hb⟩
            exact ⟨u, rfl, relM_quiet (by decide) (Only.of_below _ hb), hj⟩
          · intro a wx h
            obtain ⟨v29, e29, f29⟩ := h.val 3 29 (by kernel_rfl)
            obtain rfl : v29 = .slice (some ⟨sg, 0, none⟩) d.st.length csv := f29
            obtain ⟨v37, e37, f37⟩ := h.val 11 37 (by kernel_rfl)
            obtain rfl : v37 = .int .i64 (A : Int) := f37
            have hrel := h.rel
            clear h
            refine gives_by rfl a.eval rfl ?_
            generalize a.eval = ρ at *
            intro hf hc
            go_simp
            exact ⟨relM_quiet (by decide) (Only.refl _ _), rfl⟩
        · intro oL hoL vals w3 ho3 hv
          simp only [List.getElem?_toArray, List.getElem?_cons_succ, List.getElem?_cons_zero, Option.some.injEq] at hoL
          subst hoL
          have hv38 : isJ wr.heap.size (mixS X Y n) (vals 38) w3 := hv 38 64 (by decide) (by kernel_rfl)
          have hv39 : vals 39 = .pointer (some ⟨sg, A, none⟩) := hv 39 65 (by decide) (by kernel_rfl)
          clear hv
          generalize hact : putAll _ vals 0 _ = act
          obtain ⟨au, cu, hu⟩ := own_form' hv38
          rw [hu] at hv38
          obtain ⟨p1, p2, k1, k2⟩ := HP.out w3 au cu ho3 hv38
          have HP1 := hide p1
          have HP2 := hide p2
          clear p1 p2 HP ho3 hv38
          subst hact
          simp only [List.dropLast, putAll, Act.put, List.setIfInBounds_toArray, List.set_cons_zero, List.set_cons_succ, hu, hv39]
          refine gives_of_skip rfl (w' := w3.setCell ⟨sg, A, none⟩ (.slice au 256 cu)) (by go_simp) ?_
          clear hu hv39 k1 k2
          go_wp2
          go_roundg g
          case measure => omega
          case rel =>
            obtain ⟨svs2, hr2⟩ := HP1.out
            exact ⟨k + 1, svs2, by omega, by go_num, hr2, HP2.out⟩


end Go.Proofs.YtoplhehcjgldeaaGreat
