/- Contracts of the document's own device that read: shows, Read, Image. -/
import Derived.Test.YtofpngmabjpfhaaDRef
import Derived.Test.YtofpngmabjpfhaaRJoin
namespace Go.Proofs.Ytofpngmabjpfhaa
open Go.RowKit
set_option linter.unusedVariables false

theorem lastIx_none : ∀ (ws : List (Nat × List Int)) (p : Nat), (∀ j, j < ws.length → (wAt ws j).1 ≠ p) → lastIx ws p = none
  | [], _, _ => rfl
  | x :: r, p, h => by
    rw [lastIx, lastIx_none r p (fun j hj => by have := h (j + 1) (by simpa using hj); simpa [wAt] using this)]
    have h0 := h 0 (by simp)
    rw [show (wAt (x :: r) 0) = x from rfl] at h0
    simp [h0]
theorem lastIx_some : ∀ (ws : List (Nat × List Int)) (p i : Nat), i < ws.length → (wAt ws i).1 = p → (∀ j, i < j → j < ws.length → (wAt ws j).1 ≠ p) → lastIx ws p = some i
  | [], _, i, hi, _, _ => by simp at hi
  | x :: r, p, 0, _, h0, h => by
    rw [lastIx, lastIx_none r p (fun j hj => by have := h (j + 1) (by omega) (by simpa using hj); simpa [wAt] using this)]
    rw [show (wAt (x :: r) 0) = x from rfl] at h0
    simp [h0]
  | x :: r, p, i + 1, hi, h0, h => by
    rw [lastIx, lastIx_some r p i (by simpa using hi) (by simpa [wAt] using h0) (fun j hj hl => by have := h (j + 1) (by omega) (by simpa using hl); simpa [wAt] using this)]

section
variable {w : World} {r : Nat} {G : Nat → Prop} {d : Dv} {aw asv : Option Addr} {cw csv : Nat} {sv wv : Value} {svs wvs : List Value}
theorem RefAt.wcell (h : RefAt w r G d sv (.slice aw d.ws.length cw) svs wvs) {i : Nat} (hi : i < d.ws.length) : ∃ wg v, aw = some ⟨wg, 0, none⟩ ∧ w.cell? ⟨wg, i * 2, none⟩ = some (.int .i64 (wAt d.ws i).1) ∧ w.cell? ⟨wg, i * 2 + 1, none⟩ = some v ∧ wvs[i]? = some v := by
  rcases own_form h.ws with ⟨_, h0⟩ | ⟨g, c, hg⟩
  · omega
  obtain ⟨rfl, rfl⟩ : aw = some ⟨g, 0, none⟩ ∧ cw = c := by simpa using hg
  have hv : wvs[i]? = some (wvs[i]'(by rw [h.wl]; exact hi)) := List.getElem?_eq_getElem _
  refine ⟨g, _, rfl, ?_, ?_, hv⟩
  · have := h.ws.cells (g := g) rfl (i * 2) _ (flatR_p d.ws wvs i h.wl hi)
    rwa [Addr.add_mid, Nat.zero_add] at this
  · have := h.ws.cells (g := g) rfl (i * 2 + 1) _ ((flatR_b d.ws wvs i h.wl hi).trans hv)
    rwa [Addr.add_mid, Nat.zero_add] at this
theorem RefAt.scell (h : RefAt w r G d (.slice asv d.st.length csv) wv svs wvs) {i : Nat} (hi : i < d.st.length) : ∃ sg v, asv = some ⟨sg, 0, none⟩ ∧ w.cell? ⟨sg, i, none⟩ = some v ∧ svs[i]? = some v := by
  rcases own_form h.st with ⟨_, h0⟩ | ⟨g, c, hg⟩
  · omega
  obtain ⟨rfl, rfl⟩ : asv = some ⟨g, 0, none⟩ ∧ csv = c := by simpa using hg
  have hv : svs[i]? = some (svs[i]'(by rw [h.sl]; exact hi)) := List.getElem?_eq_getElem _
  refine ⟨g, _, rfl, ?_, hv⟩
  have := h.st.cells (g := g) rfl i _ hv
  rwa [Addr.add_mid, Nat.zero_add] at this
end

set_option maxHeartbeats 1000000 in
theorem refShows_any (w : World) (r : Nat) (G : Nat → Prop) (d : Dv) (p : Nat) (h : Ref w r G d) (hp : p < d.st.length) :
    Calls Try.prog 52 #[dp r, .int .i64 p] w fun e w' => (∃ v, e = .returned v ∧ RowR w G v (showsD d p)) ∧ w' = w := by
  obtain ⟨sv, wv, svs, wvs, h⟩ := h
  obtain ⟨asv, csv, rfl⟩ := own_form' h.st
  obtain ⟨aw, cw, rfl⟩ := own_form' h.ws
  have c0 := h.blk.c0
  have c1 := h.blk.c1
  have hcw : d.ws.length ≤ cw ∧ cw ≤ 9223372036854775807 := own_len h.ws
  have hcs : d.st.length ≤ csv ∧ csv ≤ 9223372036854775807 := own_len h.st
  have hpi : (p : Int) < (d.st.length : Int) := by omega
  have HX := hide h
  clear h
  go_enter Try.func52, Try.ntmps52
  go_wp2
  go_loopg [5] d.ws.length (fun g i wr => i = .int .i64 ((g : Int) - 1) ∧ g ≤ d.ws.length ∧ (∀ j, g ≤ j → j < d.ws.length → (wAt d.ws j).1 ≠ p) ∧ w = wr)
  case atStart => exact ⟨rfl, Nat.le_refl _, fun j h1 h2 => by omega, rfl⟩
  case round =>
    obtain ⟨rfl, hg, hno, rfl⟩ := hrel
    cases gk with
    | zero =>
      obtain ⟨sg, v, rfl, hc, hv⟩ := HX.out.scell hp
      have hrow := HX.out.rows _ _ hv
      obtain ⟨vg, vc, rfl, _, _⟩ := hrow.form
      have HR : Hid (RowR w G (.slice (some ⟨vg, 0, none⟩) 256 vc) (showsD d p)) := by
        show RowR _ _ _ _
        unfold showsD
        rw [lastIx_none d.ws p (fun j hj => hno j (Nat.zero_le _) hj)]
        exact hrow
      clear hv hrow hno
      go_wp2
      go_ret
      exact ⟨⟨_, rfl, HR.out⟩, rfl⟩
    | succ g =>
      have hgl : g < d.ws.length := by omega
      have hgi : (g : Int) < (d.ws.length : Int) := by omega
      rw [show ((g + 1 : Nat) : Int) - 1 = (g : Int) by omega]
      obtain ⟨wg, v, rfl, hc1, hc2, hv⟩ := HX.out.wcell hgl
      have hrow := HX.out.wrs _ _ hv
      obtain ⟨vg, vc, rfl, _, _⟩ := hrow.form
      obtain ⟨P, hP⟩ : ∃ P, P = (wAt d.ws g).1 := ⟨_, rfl⟩
      rw [← hP] at hc1
      by_cases hPp : P = p
      · have HR : Hid (RowR w G (.slice (some ⟨vg, 0, none⟩) 256 vc) (showsD d p)) := by
          show RowR _ _ _ _
          unfold showsD
          rw [lastIx_some d.ws p g hgl (hP.symm.trans hPp) (fun j hj hl => hno j (by omega) hl)]
          exact hrow
        subst hPp
        clear hv hrow hno hP
        go_wp2
        go_ret
        exact ⟨⟨_, rfl, HR.out⟩, rfl⟩
      · have hne : ((P : Int) == (p : Int)) = false := by simp; omega
        have HN : Hid (∀ j, g ≤ j → j < d.ws.length → (wAt d.ws j).1 ≠ p) := fun j hj hl => by
          by_cases e : j = g
          · subst e; rw [← hP]; exact hPp
          · exact hno j (by omega) hl
        clear hv hrow hno hP
        go_wp2
        go_roundg g
        case measure => omega
        case rel => exact ⟨by go_num, by omega, HN.out, rfl⟩

/-- Read -/
theorem refRead_arg (w : World) (r : Nat) (G : Nat → Prop) (d : Dv) (p : Int) (h : Ref w r G d) (hp : ¬ (0 ≤ p ∧ p < d.st.length)) :
    Calls Try.prog 38 #[dp r, .int .i64 p] w fun e w' => e = .returned (.tuple #[.slice none 0 0, .int .i64 1]) ∧ w' = w := by
  have hI := refIs_any w r G d p h
  rw [decide_eq_false hp] at hI
  have HI := hide hI
  clear hI h hp
  go_enter Try.func38, Try.ntmps38
  go_wp2_with (go_at_call 50; refine HI.out.mono ?_; rintro e w1 ⟨rfl, hw⟩; subst w1; clear HI)
  go_ret2
  exact ⟨rfl, rfl⟩
theorem refRead_off (w : World) (r : Nat) (G : Nat → Prop) (d : Dv) (p : Int) (h : Ref w r G d) (hp : 0 ≤ p ∧ p < d.st.length) (hoff : d.off = true) :
    Calls Try.prog 38 #[dp r, .int .i64 p] w fun e w' => e = .returned (.tuple #[.slice none 0 0, .int .i64 5]) ∧ w' = w := by
  have hI := refIs_any w r G d p h
  rw [decide_eq_true hp] at hI
  have HI := hide hI
  obtain ⟨sv, wv, svs, wvs, h⟩ := h
  have c3 := h.blk.c3
  rw [hoff] at c3
  clear hI h hp hoff
  go_enter Try.func38, Try.ntmps38
  go_wp2_with (go_at_call 50; refine HI.out.mono ?_; rintro e w1 ⟨rfl, hw⟩; subst w1; clear HI)
  go_ret2
  exact ⟨rfl, rfl⟩
theorem refRead_ok (w : World) (r : Nat) (G : Nat → Prop) (d : Dv) (p : Nat) (h : Ref w r G d) (hp : p < d.st.length) (hon : d.off = false) :
    Calls Try.prog 38 #[dp r, .int .i64 p] w fun e w' => (∃ ao cap, e = .returned (.tuple #[.slice ao 256 cap, .int .i64 0]) ∧ Sl w' (.slice ao 256 cap) (showsD d p) ∧ ∀ k, (Value.slice ao 256 cap).ownBlock = some k → w.heap.size ≤ k) ∧ Below w.heap.size w w' := by
  have hI := refIs_any w r G d p h
  rw [decide_eq_true ⟨by omega, by omega⟩] at hI
  have HI := hide hI
  have HS := hide (refShows_any w r G d p h hp)
  have hok := h.ok.shows hp
  have HJ : Hid (∀ v, RowR w G v (showsD d p) → Calls Try.prog 36 #[.slice none 0 0, v] w fun e w' => (∃ ao cap, e = .returned (.slice ao 256 cap) ∧ Sl w' (.slice ao 256 cap) (showsD d p) ∧ ∀ k, (Value.slice ao 256 cap).ownBlock = some k → w.heap.size ≤ k) ∧ Below w.heap.size w w') := fun v hv => by
    refine (refJoin_any w _ v [] (showsD d p) (Sl.nil w) (hv.sl hok) (by rw [hok.1]; simp)).mono ?_
    rintro e w' ⟨u, rfl, ho, _, hb, _⟩
    rw [List.nil_append, hok.1] at ho
    obtain ⟨ao, cap, rfl⟩ := own_form' ho
    exact ⟨⟨ao, cap, rfl, sl_of_own ho hok.2 rfl, fun k hk => (ho.lt k hk).1⟩, hb⟩
  obtain ⟨sv, wv, svs, wvs, h⟩ := h
  have c3 := h.blk.c3
  rw [hon] at c3
  clear hI h hp hon hok
  go_enter Try.func38, Try.ntmps38
  go_wp2_with (first
    | (go_at_call 50; refine HI.out.mono ?_; rintro e w1 ⟨rfl, hw⟩; subst w1; clear HI)
    | (go_at_call 52; refine HS.out.mono ?_; rintro e w1 ⟨⟨v, rfl, hv⟩, hw⟩; subst w1; have HV := hide hv; clear HS hv)
    | (go_at_call 36; refine (HJ.out v HV.out).mono ?_; rintro e w2 ⟨⟨ao, cap, rfl, hs, hk⟩, hb⟩; clear HJ HV))
  go_ret2
  exact ⟨⟨ao, cap, rfl, hs, hk⟩, hb⟩

set_option maxHeartbeats 1000000 in
theorem refImage_any (w : World) (r : Nat) (G : Nat → Prop) (d : Dv) (h : Ref w r G d) :
    Calls Try.prog 20 #[dp r] w fun e w' => ∃ u, e = .returned u ∧ w'.ownsRow w.heap.size 5 1 u (d.st.length * 256) (pc (imgS d.st)) ∧ Below w.heap.size w w' := by
  obtain ⟨i0, hi, hz0, hz1, hz2⟩ := info_parts infoU8
  obtain ⟨sv, wv, svs, wvs, h⟩ := h
  obtain ⟨asv, csv, rfl⟩ := own_form' h.st
  have hfew := h.ok.few
  have hcs : d.st.length ≤ csv ∧ csv ≤ 9223372036854775807 := own_len h.st
  have HX := hide h
  have HN : Hid ((w.alloc (.cells #[] 5)).ownsRow w.heap.size 5 1 (.slice (some ⟨w.heap.size, 0, none⟩) 0 0) 0 []) := World.ownsRow_made w #[] 0 (Nat.le_refl _) (Nat.zero_le _) rfl
  clear h
  go_enter Try.func20, Try.ntmps20
  go_wp2
  go_loopg [3, 4] d.st.length (fun g im i wr => ∃ k : Nat, g + k = d.st.length ∧ i = .int .i64 k ∧ wr.ownsRow w.heap.size 5 1 im (k * 256) (pc (imgS (d.st.take k))) ∧ Below w.heap.size w wr)
  case atStart =>
    refine ⟨0, by omega, rfl, ?_, (Below.refl _ w).alloc (Nat.le_refl _) _⟩
    rw [Nat.zero_mul]
    exact HN.out
  case round =>
    obtain ⟨k, hk, rfl, hown, hb⟩ := hrel
    have hbs := hb.size
    have c0r := (hb.cell (p := ⟨r, 0, none⟩) (Blk.lt HX.out.blk)).trans HX.out.blk.c0
    cases gk with
    | zero =>
      obtain rfl : k = d.st.length := by omega
      rw [List.take_length] at hown
      have HOW := hide hown
      clear hown
      go_wp2
      go_ret
      exact ⟨_, rfl, HOW.out, hb⟩
    | succ g =>
      have hkl : k < d.st.length := by omega
      have hki : (k : Int) < (d.st.length : Int) := by omega
      obtain ⟨sg, v, rfl, hc, hv⟩ := HX.out.scell hkl
      have hrr := (HX.out.rows _ _ hv).only (Only.of_below (fun _ => False) hb) (fun _ _ h => h)
      obtain ⟨vg, vc, rfl, _, _⟩ := hrr.form
      have hcr := (hb.cell (World.block_lt_of_cell? w _ hc)).trans hc
      have hrow := HX.out.ok.row hkl
      have hS := hrr.sl hrow
      obtain ⟨im, cim, rfl⟩ := own_form' hown
      obtain ⟨v1, w1, hr1, ho1, hg1, _⟩ := run_append_sl (P := Try.prog) wr w.heap.size 33 33 5 i0 Try.underlying33 hi hz0 hz1 hz2 _ _ _ hown _ _ _ _ hS (by rw [hrow.1]; omega) hbs
      have hb1 : Below w.heap.size w w1 := hb.grown hg1 hbs (fun j hj => (hown.lt j hj).1)
      have e1 : pc (imgS (d.st.take k)) ++ (sAt d.st k).map (Value.int .u8) = pc (imgS (d.st.take (k + 1))) := by
        rw [imgS_take d.st hkl]; simp [pc]
      rw [e1, hrow.1, show k * 256 + 256 = (k + 1) * 256 by omega] at ho1
      have HR1 := hide hr1
      have HO1 := hide ho1
      have HB1 := hide hb1
      clear hrr hrow hS hr1 ho1 hb1 e1 hg1 hown hb hc hv
      go_wp2_with (at_builtin; refine wpList_append_run _ rfl (.tmp 15) (.tmp 22) 33 rfl _ _ rfl rfl _ _ HR1.out ?_)
      go_roundg g
      case measure => omega
      case rel => exact ⟨k + 1, by omega, by go_num, HO1.out, HB1.out⟩

end Go.Proofs.Ytofpngmabjpfhaa
