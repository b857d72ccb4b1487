/- Contract: acts are played on a calm device (incipitlaw03.plays). -/
import Derived.Test.YtofpngmabjpfhaaDOps
namespace Go.Proofs.Ytofpngmabjpfhaa
open Go.RowKit
set_option linter.unusedVariables false

/-- a device of the call's own: all its blocks are new since w0, which is as it was -/
structure DevL (w0 w : World) (b : Nat) (d : Dv) : Prop where
  dev : Dev w b (fun k => w0.heap.size ≤ k) d
  bel : Below w0.heap.size w0 w
theorem DevL.below {w0 w w' : World} {b : Nat} {d : Dv} (h : DevL w0 w b d) (hb : Below w.heap.size w w') : DevL w0 w' b d := ⟨h.dev.below hb, below_then h.bel hb (Nat.le_refl _)⟩
theorem DevL.only {w0 w w' : World} {b : Nat} {d d' : Dv} {F : Nat → Prop} (h : DevL w0 w b d) (hd : Dev w' b F d') (ho : Only (fun k => w0.heap.size ≤ k) w w') (hF : ∀ k, F k → w0.heap.size ≤ k) : DevL w0 w' b d' :=
  ⟨hd.mono (fun k _ hk => hF k hk), h.bel.trans (ho.below h.bel.size (fun k hk => by omega))⟩

def writeD (d : Dv) (p : Nat) (zs : List Int) : Dv := spendD { d with ws := d.ws ++ [(p, zs)] }
def play1 (pages : Nat) (d : Dv) (o : OpA) : Dv := if o.dO = 2 then syncD d else if 0 ≤ o.p ∧ o.p < pages then writeD d o.p.toNat (pageS o.b) else d
def playK (pages : Nat) (d : Dv) (os : List OpA) : Nat → Dv
  | 0 => d
  | k + 1 => play1 pages (playK pages d os k) (opAt os k)
structure Calm (pages k : Nat) (d : Dv) : Prop where
  left : d.left = none
  off : d.off = false
  st : d.st.length = pages
  ws : d.ws.length ≤ k
  done : d.done ≤ k
theorem calm_spendE {d : Dv} (h : d.left = none) : spendE d = 0 := by simp [spendE, h]
theorem calm_write {pages k : Nat} {d : Dv} (h : Calm pages k d) (p : Nat) (zs : List Int) : Calm pages (k + 1) (writeD d p zs) := by
  have e : writeD d p zs = ⟨d.st, d.ws ++ [(p, zs)], d.off, none, d.done + 1⟩ := by unfold writeD spendD; simp [h.left]
  rw [e]
  exact ⟨rfl, h.off, h.st, by simp; exact h.ws, by have := h.done; show d.done + 1 ≤ k + 1; omega⟩
theorem calm_sync {pages k : Nat} {d : Dv} (h : Calm pages k d) : Calm pages (k + 1) (syncD d) := by
  have e : syncD d = ⟨syncK d.st d.ws d.ws.length, [], d.off, none, d.done + 1⟩ := by unfold syncD; simp [h.left]
  rw [e]
  refine ⟨rfl, h.off, ?_, by simp, by have := h.done; show d.done + 1 ≤ k + 1; omega⟩
  show (syncK _ _ _).length = pages
  rw [syncK_len]; exact h.st
theorem Calm.mono {pages k k' : Nat} {d : Dv} (h : Calm pages k d) (hk : k ≤ k') : Calm pages k' d := ⟨h.left, h.off, h.st, Nat.le_trans h.ws hk, Nat.le_trans h.done hk⟩
theorem calm_play1 {pages k : Nat} {d : Dv} (h : Calm pages k d) (o : OpA) : Calm pages (k + 1) (play1 pages d o) := by
  unfold play1
  split
  · exact calm_sync h
  · split
    · exact calm_write h _ _
    · exact h.mono (by omega)
theorem calm_playK {pages c : Nat} {d : Dv} (h : Calm pages c d) (os : List OpA) : ∀ k, Calm pages (c + k) (playK pages d os k)
  | 0 => h
  | k + 1 => calm_play1 (calm_playK h os k) _
theorem calm_new (n : Nat) : Calm n 0 (newD n) := ⟨rfl, rfl, List.length_replicate, Nat.le_refl _, Nat.le_refl _⟩

theorem DevL.write {w0 w : World} {b : Nat} {d : Dv} (h : DevL w0 w b d) (p : Nat) (v : Value) (zs : List Int) (hp : p < d.st.length) (hon : d.off = false) (hS : Sl w v zs) (hzl : zs.length = 256) (hwl : d.ws.length < 1000000) (hdl : d.done < 1000000000) :
    Calls Try.prog 15 #[dp b, .int .i64 p, v] w fun e w' => e = .returned (.int .i64 (spendE d)) ∧ DevL w0 w' b (writeD d p zs) ∧ Only (fun k => w0.heap.size ≤ k ∧ k < w.heap.size) w w' := by
  have hs := h.bel.size
  refine (write_ok w b _ d p v zs h.dev.bound hp hon hS hzl hwl hdl).mono ?_
  rintro e w' ⟨rfl, hd, ho⟩
  exact ⟨rfl, h.only hd (ho.mono (fun k _ hk => hk.1)) (fun k hk => by rcases hk with hk | hk; exact hk.1; omega), ho⟩
theorem DevL.sync {w0 w : World} {b : Nat} {d : Dv} (h : DevL w0 w b d) (hon : d.off = false) (hl : d.left = none) (hdl : d.done < 1000000000) :
    Calls Try.prog 22 #[dp b] w fun e w' => e = .returned (.int .i64 0) ∧ DevL w0 w' b (syncD d) := by
  refine (sync_live w b _ d h.dev hon (by rw [hl]; simp) hdl).mono ?_
  rintro e w' ⟨rfl, hd, ho⟩
  exact ⟨rfl, h.only hd ho (fun k hk => hk)⟩

def isPg (base : Nat) (zs : List Int) : Value → World → Prop := fun v w => ∃ g, v = .slice (some ⟨g, 0, none⟩) 256 256 ∧ Blk w g 5 (pc zs) ∧ base ≤ g
theorem stS_isPg (S : Nat → Prop) (base : Nat) (zs : List Int) (hS : ∀ k, S k → k < base) : StS S (isPg base zs) := by
  rintro v w w' ho ⟨g, hv, hB, hg⟩
  exact ⟨g, hv, hB.only ho (fun hs => by have := hS g hs; omega), hg⟩
def isWr (w0 : World) (b : Nat) (d : Dv) : Value → World → Prop := fun v w => v = .int .i64 0 ∧ DevL w0 w b d
theorem stS_isWr (w0 : World) (b : Nat) (d : Dv) : StS (fun _ => False) (isWr w0 b d) := by
  rintro v w w' ho ⟨h1, h2⟩
  exact ⟨h1, h2.below (ho.below (Nat.le_refl _) (fun _ _ h => h))⟩

set_option maxHeartbeats 2000000 in
theorem plays_any (w0 w : World) (b : Nat) (d : Dv) (v : Value) (os : List OpA) (pages c : Nat) (h : DevL w0 w b d) (hs : Script w0 v os) (hc : Calm pages c d) (hcl : c + os.length ≤ 1000) (hpg : pages ≤ 2048) :
    Calls Try.prog 21 #[dp b, v, .int .i64 pages] w fun e w' => e = .returned (.bool true) ∧ DevL w0 w' b (playK pages d os os.length) := by
  have HS := hide hs
  have HC := hide hc
  obtain ⟨ao, cap, rfl, hl, hcap⟩ := hs.form
  have hza := zeroOpRun
  clear hs hc
  go_enter Try.func21, Try.ntmps21
  go_wp2
  go_loopg [12] os.length (fun g i wr => ∃ k : Nat, g + k = os.length ∧ i = .int .i64 k ∧ DevL w0 wr b (playK pages d os k))
  case atStart => exact ⟨0, by omega, rfl, h⟩
  case round =>
    obtain ⟨k, hk, rfl, hd⟩ := hrel
    have HD := hide hd
    cases gk with
    | zero =>
      obtain rfl : k = os.length := by omega
      clear hd h
      go_wp2
      go_ret
      exact ⟨rfl, HD.out⟩
    | succ g =>
      have hko : k < os.length := by omega
      have hki : (k : Int) < (os.length : Int) := by omega
      have hSr := HS.out.below hd.bel
      have hop := hSr.op hko
      have hcal := calm_playK HC.out os k
      have e1 : playK pages d os (k + 1) = play1 pages (playK pages d os k) (opAt os k) := rfl
      obtain ⟨_, ao', cap', he, _, _, h4⟩ := hSr
      simp only [Value.slice.injEq, true_and] at he
      obtain ⟨rfl, rfl⟩ := he
      obtain ⟨gb, off, rfl, hgb, hrg⟩ := h4 (by intro h; simp [h] at hko)
      have hR := hrg k hko
      obtain ⟨o, ho⟩ : ∃ o, o = opAt os k := ⟨_, rfl⟩
      rw [← ho] at hop hR e1
      obtain ⟨dk, hdk⟩ : ∃ dk, dk = playK pages d os k := ⟨_, rfl⟩
      rw [← hdk] at hd hcal e1
      obtain ⟨z1, z2, z3, z4⟩ := op_facts hop
      have HOO := hide ho
      have HDW := hide hd.dev
      have HR := hide hR
      have HZ1 := hide z1
      have HZ2 := hide z2
      have HZ3 := hide z3
      have HZ4 := hide z4
      have HE1 := hide e1
      have HCal := hide hcal
      have hN := Blk.new wr 35 (opc o)
      have q0 : (wr.alloc (.cells (opc o).toArray 35)).cell? ⟨wr.heap.size, 0, none⟩ = some (.int .i64 o.dO) := Blk.cell hN 0
      have q1 : (wr.alloc (.cells (opc o).toArray 35)).cell? ⟨wr.heap.size, 1, none⟩ = some (.int .i64 o.p) := Blk.cell hN 1
      have q3 : (wr.alloc (.cells (opc o).toArray 35)).cell? ⟨wr.heap.size, 3, none⟩ = some o.bv := Blk.cell hN 3
      have hdA : DevL w0 (wr.alloc (.cells (opc o).toArray 35)) b dk := hd.below ((Below.refl _ wr).alloc (Nat.le_refl _) _)
      have HDA := hide hdA
      have HN := hide hN
      have HOp := hide (hop.below ((Below.refl _ wr).alloc (Nat.le_refl _) (.cells (opc o).toArray 35)))
      have hc1 := hcal.ws
      have hc2 := hcal.done
      clear z1 z2 z3 z4 hR hrg h4 ho hdk hN hd e1 HD h
      by_cases h2 : o.dO = 2
      · have HSy := hide (hdA.sync hcal.off hcal.left (by omega))
        have HE : Hid (playK pages d os (k + 1) = syncD dk) := by show _ = _; rw [HE1.out]; unfold play1; rw [if_pos h2]
        rw [h2] at q0
        clear hop hdA hcal h2
        go_wp2_with (first
          | ((with_reducible refine wpList_load_mid rfl 35 (.tmp 14) rfl gb (off + k * 5) ?_ (opc o) _ HR.out Try.underlying35 rfl HZ1.out ?_); exact rfl)
          | ((with_reducible refine wpList_store_new rfl 35 (.tmp 8) (.tmp 15) rfl opZero (opc o).toArray 35 ?_ ?_ HZ3.out HZ2.out HZ4.out ?_); exact rfl; exact rfl)
          | (go_at_call 22; refine HSy.out.mono ?_; rintro e w2 ⟨rfl, hd2⟩; clear HSy))
        go_roundg g
        case measure => omega
        case rel => exact ⟨k + 1, by omega, by go_num, by rw [HE.out]; exact hd2⟩
      · have h2b : (o.dO == 2) = false := by simpa using h2
        by_cases hp0 : 0 ≤ o.p
        · by_cases hp1 : o.p < (pages : Int)
          · have HE : Hid (playK pages d os (k + 1) = writeD dk o.p.toNat (pageS o.b)) := by show _ = _; rw [HE1.out]; unfold play1; rw [if_neg h2, if_pos ⟨hp0, hp1⟩]
            obtain ⟨P, hP⟩ : ∃ P : Nat, P = o.p.toNat := ⟨_, rfl⟩
            have hpP : o.p = (P : Int) := by omega
            rw [← hP] at HE
            rw [hpP] at q1 hp1 hp0
            have hpn : P < pages := by omega
            have hw0 := hdA.bel.size
            have hS0 := (HS.out.op hko).sb
            rw [← HOO.out] at hS0
            have HDS : Hid (Dev (wr.alloc (.cells (opc o).toArray 35)) b (fun k => w0.heap.size ≤ k ∧ k < wr.heap.size) dk) := (HDW.out.bound).below ((Below.refl _ wr).alloc (Nat.le_refl _) _)
            have HBE : Hid (∀ wx, Only (fun k => w0.heap.size ≤ k ∧ k < wr.heap.size) (wr.alloc (.cells (opc o).toArray 35)) wx → Below w0.heap.size w0 wx) := fun wx hh => HDA.out.bel.trans (hh.below HDA.out.bel.size (fun k hk h => by omega))
            have HSL : Hid (∀ wx, Only (fun k => w0.heap.size ≤ k ∧ k < wr.heap.size) (wr.alloc (.cells (opc o).toArray 35)) wx → Sl wx o.bv o.b) := fun wx hh => hS0.below (HBE.out wx hh)
            have HPO : Hid (PageOk (pageS o.b)) := pageS_ok hS0.bytes
            have HC1 : Hid (∀ wx, Only (fun k => w0.heap.size ≤ k ∧ k < wr.heap.size) (wr.alloc (.cells (opc o).toArray 35)) wx → wx.cell? ⟨wr.heap.size, 1, none⟩ = some (.int .i64 (P : Int)) ∧ wx.cell? ⟨wr.heap.size, 3, none⟩ = some o.bv) := fun wx hh => ⟨((HN.out.only hh (fun h => by omega)).cell 1).trans (by rw [← hpP]; rfl), (HN.out.only hh (fun h => by omega)).cell 3⟩
            have hst : dk.st.length = pages := HCal.out.st
            have HPn : Hid (P < dk.st.length) := by show _ < _; rw [hst]; exact hpn
            clear hst hS0 hcal
            clear hop hdA h2 hP hpP
            go_wp2_with (first
              | ((with_reducible refine wpList_load_mid rfl 35 (.tmp 14) rfl gb (off + k * 5) ?_ (opc o) _ HR.out Try.underlying35 rfl HZ1.out ?_); exact rfl)
              | ((with_reducible refine wpList_store_new rfl 35 (.tmp 8) (.tmp 15) rfl opZero (opc o).toArray 35 ?_ ?_ HZ3.out HZ2.out HZ4.out ?_); exact rfl; exact rfl))
            refine wp_region_only (fun k => w0.heap.size ≤ k ∧ k < wr.heap.size) [isV (.pointer (some ⟨b, 0, none⟩)), isV (.pointer (some ⟨wr.heap.size, 1, none⟩)), isV (.int .i64 (P : Int)), isV (.pointer (some ⟨wr.heap.size, 3, none⟩)), isV (o.bv), isPg (wr.heap.size + 1) (pageS o.b), isWr w0 b (writeD dk P (pageS o.b))] 6 41 7 (by kernel_rfl) (by kernel_rfl) (by kernel_rfl) (by kernel_rfl) rfl ?_ ?_ ?_
            · repeat (first | exact trivial | refine allStL_isV ?_ | refine ⟨stS_isPg _ _ _ (fun _ h => h.elim), fun _ => stS_isPg _ _ _ (fun k hk => by omega), ?_⟩ | refine ⟨stS_isWr _ _ _, fun h => absurd rfl h, ?_⟩)
            · refine ⟨?_, ?_, ?_, ?_, ?_, ?_, ?_, trivial⟩
              · intro a wx h
                have e0 : a.eval (.tmp 0) = .pointer (some ⟨b, 0, none⟩) := h.old 0 (by kernel_rfl)
                have hrel := h.rel
                clear h
                refine gives_by rfl a.eval rfl ?_
                generalize a.eval = ρ at *
                intro hf hc
                go_simp
                exact ⟨relM_quiet (by decide) (Only.refl _ _), rfl⟩
              · intro a wx h
                have e8 : a.eval (.tmp 8) = .pointer (some ⟨wr.heap.size, 0, none⟩) := h.old 8 (by kernel_rfl)
                have hrel := h.rel
                clear h
                refine gives_by rfl a.eval rfl ?_
                generalize a.eval = ρ at *
                intro hf hc
                go_simp
                exact ⟨relM_quiet (by decide) (Only.refl _ _), rfl⟩
              · intro a wx h
                obtain ⟨v28, e28, f28⟩ := h.val 1 28 (by kernel_rfl)
                obtain rfl : v28 = .pointer (some ⟨wr.heap.size, 1, none⟩) := f28
                have hrel := h.rel
                clear h
                have c1x := (HC1.out wx hrel).1
                refine gives_by rfl a.eval rfl ?_
                generalize a.eval = ρ at *
                intro hf hc
                go_simp
                exact ⟨relM_quiet (by decide) (Only.refl _ _), rfl⟩
              · intro a wx h
                have e8 : a.eval (.tmp 8) = .pointer (some ⟨wr.heap.size, 0, none⟩) := h.old 8 (by kernel_rfl)
                have hrel := h.rel
                clear h
                refine gives_by rfl a.eval rfl ?_
                generalize a.eval = ρ at *
                intro hf hc
                go_simp
                exact ⟨relM_quiet (by decide) (Only.refl _ _), rfl⟩
              · intro a wx h
                obtain ⟨v30, e30, f30⟩ := h.val 3 30 (by kernel_rfl)
                obtain rfl : v30 = .pointer (some ⟨wr.heap.size, 3, none⟩) := f30
                have hrel := h.rel
                clear h
                have c3x := (HC1.out wx hrel).2
                refine gives_by rfl a.eval rfl ?_
                generalize a.eval = ρ at *
                intro hf hc
                go_simp
                exact ⟨relM_quiet (by decide) (Only.refl _ _), rfl⟩
              · intro a wx h
                obtain ⟨v31, e31, f31⟩ := h.val 4 31 (by kernel_rfl)
                obtain rfl : v31 = o.bv := f31
                have hrel := h.rel
                clear h
                refine gives_by rfl a.eval rfl ?_
                generalize a.eval = ρ at *
                intro hf hc
                go_simp
                refine (page_any wx o.bv o.b (HSL.out wx hrel)).mono ?_
                rintro e wy ⟨rfl, hp, hb⟩
                have hsz := hrel.size
                simp only [World.size_alloc] at hsz
                exact ⟨_, rfl, relM_quiet (by decide) (Only.of_below _ hb), ⟨_, rfl, hp, hsz⟩⟩
              · intro a wx h
                obtain ⟨v27, e27, f27⟩ := h.val 0 27 (by kernel_rfl)
                obtain rfl : v27 = .pointer (some ⟨b, 0, none⟩) := f27
                obtain ⟨v29, e29, f29⟩ := h.val 2 29 (by kernel_rfl)
                obtain rfl : v29 = .int .i64 (P : Int) := f29
                obtain ⟨v32, e32, f32⟩ := h.val 5 32 (by kernel_rfl)
                obtain ⟨g, rfl, hB, hg⟩ := f32
                have hrel := h.rel
                have hq := h.relq rfl
                clear h
                refine gives_by rfl a.eval rfl ?_
                generalize a.eval = ρ at *
                intro hf hc
                go_simp
                refine (write_ok wx b _ dk P _ (pageS o.b) (HDS.out.keep hq (fun _ _ h => h)) HPn.out HCal.out.off (sl_page hB HPO.out) HPO.out.1 (by omega) (by omega)).mono ?_
                rintro e wy ⟨rfl, hd, ho⟩
                refine ⟨_, rfl, relM_turn ho, by rw [calm_spendE HCal.out.left], hd.mono (fun k _ hk => ?_), (HBE.out wx hrel).trans (ho.below (HBE.out wx hrel).size (fun k hk h => by omega))⟩
                have hsz := (HBE.out wx hrel).size
                rcases hk with hk | hk
                · exact hk.1
                · show w0.heap.size ≤ k; omega
            · intro oL hoL vals w3 ho3 hv
              simp only [List.getElem?_toArray, List.getElem?_cons_succ, List.getElem?_cons_zero, Option.some.injEq] at hoL
              subst hoL
              have hv6 : isWr w0 b (writeD dk P (pageS o.b)) (vals 6) w3 := hv 6 33 (by decide) (by kernel_rfl)
              clear hv
              generalize hact : putAll _ vals 0 _ = act
              obtain ⟨hv6, hd6⟩ := hv6
              have HD6 := hide hd6
              clear hd6 ho3
              subst hact
              simp only [List.dropLast, putAll, Act.put, List.setIfInBounds_toArray, List.set_cons_zero, List.set_cons_succ, hv6, Nat.zero_add, Nat.reduceAdd]
              refine gives_of_run rfl (exec_assign (.tmp 33) rfl (.int .i64 0) rfl) ?_
              go_wp2
              go_roundg g
              case measure => omega
              case rel => exact ⟨k + 1, by omega, by go_num, by rw [HE.out]; exact HD6.out⟩
          · have hp1' : ¬ o.p < (pages : Int) := hp1
            have HE : Hid (playK pages d os (k + 1) = dk) := by show _ = _; rw [HE1.out]; unfold play1; rw [if_neg h2, if_neg (fun h => hp1 h.2)]
            clear hop hdA hcal h2
            go_wp2_with (first
              | ((with_reducible refine wpList_load_mid rfl 35 (.tmp 14) rfl gb (off + k * 5) ?_ (opc o) _ HR.out Try.underlying35 rfl HZ1.out ?_); exact rfl)
              | ((with_reducible refine wpList_store_new rfl 35 (.tmp 8) (.tmp 15) rfl opZero (opc o).toArray 35 ?_ ?_ HZ3.out HZ2.out HZ4.out ?_); exact rfl; exact rfl))
            go_roundg g
            case measure => omega
            case rel => exact ⟨k + 1, by omega, by go_num, by rw [HE.out]; exact HDA.out⟩
        · have HE : Hid (playK pages d os (k + 1) = dk) := by show _ = _; rw [HE1.out]; unfold play1; rw [if_neg h2, if_neg (fun h => hp0 h.1)]
          clear hop hdA hcal h2
          go_wp2_with (first
            | ((with_reducible refine wpList_load_mid rfl 35 (.tmp 14) rfl gb (off + k * 5) ?_ (opc o) _ HR.out Try.underlying35 rfl HZ1.out ?_); exact rfl)
            | ((with_reducible refine wpList_store_new rfl 35 (.tmp 8) (.tmp 15) rfl opZero (opc o).toArray 35 ?_ ?_ HZ3.out HZ2.out HZ4.out ?_); exact rfl; exact rfl))
          go_roundg g
          case measure => omega
          case rel => exact ⟨k + 1, by omega, by go_num, by rw [HE.out]; exact HDA.out⟩

end Go.Proofs.Ytofpngmabjpfhaa
