/- Contract: room is made (makeRoom). -/
import Derived.Test.YtoplhehcjgldeaaCPart3
namespace Go.Proofs.Ytoplhehcjgldeaa
open Go.RowKit
set_option linter.unusedVariables false
set_option maxRecDepth 100000

/-- the order of use: the page that was used longest ago first -/
def ordC (l : List Hd) : List Int := (l.map (fun h => (h.p : Int))).reverse
theorem ordC_len (l : List Hd) : (ordC l).length = l.length := by simp [ordC]
theorem ordC_rev (l : List Hd) : ordC l = l.reverse.map (fun h => (h.p : Int)) := by simp [ordC]
theorem ordC_get (l : List Hd) (k : Nat) (hk : k < l.reverse.length) : (ordC l).getD k 0 = (l.reverse[k].p : Int) := by
  rw [ordC_rev]
  simp only [List.getD, List.getElem?_map, List.getElem?_eq_getElem hk]
  rfl
theorem nodup_int {l : List Hd} (h : (l.map (·.p)).Nodup) : (l.map (fun h => (h.p : Int))).Nodup := by
  have : l.map (fun h => (h.p : Int)) = (l.map (·.p)).map (fun n : Nat => (n : Int)) := by simp
  rw [this]
  exact List.Pairwise.map _ (fun a b h e => h (Int.ofNat_inj.1 e)) h
theorem ordC_erase {l : List Hd} (h : (l.map (·.p)).Nodup) (p : Nat) : (ordC l).erase p = ordC (lessC l p) := by
  have hn : (ordC l).Nodup := List.pairwise_reverse.2 ((nodup_int h).imp (fun h => Ne.symm h))
  rw [hn.erase_eq_filter]
  unfold ordC lessC
  rw [List.filter_reverse, List.filter_map]
  congr 2
  apply List.filter_congr
  intro x _
  by_cases hx : x.p = p
  · simp [hx]
  · have h1 : ((x.p : Int) != (p : Int)) = true := by simp; omega
    have h2 : decide (x.p ≠ p) = true := by simpa using hx
    rw [h2]; exact h1
theorem ordC_use {l : List Hd} (h : (l.map (·.p)).Nodup) (x : Hd) : (ordC l).erase x.p ++ [(x.p : Int)] = ordC (useC l x) := by
  rw [ordC_erase h]
  simp [ordC, useC]
theorem lessC_updC (l : List Hd) (p : Nat) (f : Hd → Hd) (hf : ∀ x, (f x).p = x.p) : lessC (updC l p f) p = lessC l p := by
  induction l with
  | nil => rfl
  | cons x l ih =>
    unfold lessC updC at ih ⊢
    rw [List.map_cons, List.filter_cons, List.filter_cons]
    by_cases hx : x.p = p
    · rw [if_pos hx, hf x]
      have : decide (x.p ≠ p) = false := by simpa using hx
      rw [this]
      exact ih
    · rw [if_neg hx]
      have : decide (x.p ≠ p) = true := by simpa using hx
      rw [this, if_pos rfl, if_pos rfl, ih]

theorem goesC_at {l : List Hd} {k : Nat} (hk : k < l.reverse.length) (h0 : ∀ j (hj : j < k), (l.reverse[j]'(by omega)).pins ≠ 0) (h1 : (l.reverse[k]).pins = 0) : goesC l = some l.reverse[k] := by
  unfold goesC
  rw [List.find?_eq_some_iff_getElem]
  refine ⟨by simpa using h1, k, hk, rfl, fun j hj => ?_⟩
  simpa using h0 j hj
theorem goesC_end {l : List Hd} (h0 : ∀ j (hj : j < l.reverse.length), (l.reverse[j]).pins ≠ 0) : goesC l = none := by
  apply List.find?_eq_none.2
  intro x hx
  obtain ⟨j, hj, rfl⟩ := List.mem_iff_getElem.1 hx
  simpa using h0 j hj

section
variable (w : World) (c b : Nat) (H G : Nat → Prop) (size : Nat) (l : List Hd) (hits misses : Nat) (mb : Nat) (vo : Value) (D : DataW Unit) (sl : Nat → Nat) (d : Dv)

theorem room_free (h : CachAt w c b H size (ordC l) l hits misses mb vo D sl) (hl : l.length < size) (hs : size ≤ 64) :
    Calls Try.prog 51 #[dp c] w fun e w' => e = .returned (.int .i64 0) ∧ Only (fun _ => False) w w' := by
  have c1 := h.blk.c1
  have c2 := h.blk.c2
  have hlen : ∀ n, (Builtin.len_ #[51] 3 #[.map (some mb)]).run Try.prog (w.drewN n) = .ok (.int .i64 l.length) (w.drewN n) := fun n => by
    have := h.slots.map.len (w := w.drewN n) Try.underlying51 3
    rw [h.slots.len] at this
    exact this
  have hlt : (l.length : Int) < size := by omega
  clear h
  go_enter Try.func51, Try.ntmps51
  go_wp2
  go_step3
  go_wp2
  go_quiet (fail)
  go_wp2
  rw [Exit.noGoto_ret]
  go_ret
  exact ⟨rfl, (Only.refl _ w).drewN _⟩

set_option maxHeartbeats 1000000 in
theorem room_full (h : CachAt w c b H size (ordC l) l hits misses mb vo D sl) (hd : Dev w b G d) (hap : ∀ k, H k → G k → False) (hl : ¬ l.length < size) (hs : size ≤ 64) (hbd : ∀ k, H k → k < w.heap.size) (hpn : ∀ x ∈ l, x.p < d.st.length ∧ x.pins < 1000000000) (hwl : d.ws.length < 1000000) (hdl : d.done < 1000000000) :
    Calls Try.prog 51 #[dp c] w fun e w' => e = .returned (.int .i64 (roomC ⟨size, l, hits, misses⟩ d).1) ∧ CachH w' c b H size (ordC (roomC ⟨size, l, hits, misses⟩ d).2.1.l) (roomC ⟨size, l, hits, misses⟩ d).2.1.l hits misses ∧ Dev w' b (fun k => G k ∨ w.heap.size ≤ k) (roomC ⟨size, l, hits, misses⟩ d).2.2 ∧ Only (fun k => H k ∨ G k) w w' := by
  have c1 := h.blk.c1
  have c2 := h.blk.c2
  have hlen : ∀ n, (Builtin.len_ #[51] 3 #[.map (some mb)]).run Try.prog (w.drewN n) = .ok (.int .i64 l.length) (w.drewN n) := fun n => by
    have := h.slots.map.len (w := w.drewN n) Try.underlying51 3
    rw [h.slots.len] at this
    exact this
  have hlt : ¬ (l.length : Int) < size := by omega
  have HRM : Hid (roomC ⟨size, l, hits, misses⟩ d = match goesC l with
    | none => (6, ⟨size, l, hits, misses⟩, d)
    | some h => if h.ch = true then (if (writeQ d h.p h.bs).1 = 0 then (0, ⟨size, lessC l h.p, hits, misses⟩, (writeQ d h.p h.bs).2) else ((writeQ d h.p h.bs).1, ⟨size, l, hits, misses⟩, (writeQ d h.p h.bs).2)) else (0, ⟨size, lessC l h.p, hits, misses⟩, d)) := by
    show _ = _
    unfold roomC
    rw [if_neg hl]
    rfl
  generalize roomC ⟨size, l, hits, misses⟩ d = R at HRM ⊢
  have HH := hide h
  have HD := hide hd
  have HAP := hide hap
  have HPN := hide hpn
  have hll := h.few
  rw [ordC_len] at hll
  have HHB := hide hbd
  clear h hd hap hpn hl hbd
  go_enter Try.func51, Try.ntmps51
  go_wp2
  go_step3
  go_wp2
  go_quiet (fail)
  obtain ⟨w0, hw0⟩ : ∃ w0, w.drewN nq = w0 := ⟨_, rfl⟩
  have HO0 : Hid (Only (fun _ => False) w w0) := hw0 ▸ (Only.refl (fun _ => False) w).drewN nq
  have HH0 := hide (HH.out.keep HO0.out (fun _ _ h => h))
  have HD0 := hide (HD.out.keep HO0.out (fun _ _ h => h))
  rw [hw0]
  have HSZ : Hid (w.heap.size = w0.heap.size) := by show _ = _; rw [← hw0]; rfl
  clear c1 c2 hlen hw0 HH HD
  have c2 := HH0.out.blk.c2
  have c3 := HH0.out.blk.c3
  obtain ⟨ao, cap, hvo⟩ := HH0.out.order.shape
  rw [ordC_len] at hvo
  subst hvo
  go_wp2
  go_step3
  go_wp2
  have hcap : l.length ≤ cap ∧ cap ≤ 9223372036854775807 := by
    rcases HH0.out.order.form with ⟨e, e2⟩ | ⟨g, cap', sp, e, _, h1, h2, _⟩
    · simp only [Value.slice.injEq] at e
      omega
    · simp only [Value.slice.injEq] at e
      rw [ordC_len] at h1
      unfold maxLen at h2
      omega
  obtain ⟨hcap1, hcap2⟩ := hcap
  go_loopg [4, 5, 6, 22] l.length (fun g pp ss ee i wr => ∃ k : Nat, g + k = l.length ∧ i = .int .i64 k ∧ wr = w0 ∧ ∀ j (hj : j < k) (hk : j < l.reverse.length), (l.reverse[j]).pins ≠ 0)
  case atStart => exact ⟨0, by omega, rfl, rfl, fun j hj => absurd hj (by omega)⟩
  case round =>
    obtain ⟨k, hgk, rfl, rfl, hpin⟩ := hrel
    have HPI := hide hpin
    clear hpin
    by_cases hk : k < l.length
    · obtain ⟨x, hxe⟩ : ∃ x, l.reverse[k]'(by simpa using hk) = x := ⟨_, rfl⟩
      have hx : x ∈ l := List.mem_reverse.1 (hxe ▸ List.getElem_mem _)
      have hkk : k < l.reverse.length := by simpa using hk
      obtain ⟨og, rfl, hcell⟩ : ∃ g, ao = some ⟨g, 0, none⟩ ∧ wr.cell? ⟨g, k, none⟩ = some (.int .i64 x.p) := by
        rcases HH0.out.order.form with ⟨e, e2⟩ | ⟨g, cap', sp, e, _, h1, h2, hB, _⟩
        · simp only [Value.slice.injEq] at e
          omega
        · simp only [Value.slice.injEq] at e
          refine ⟨g, e.1, ?_⟩
          have := iv_cell hB k (by rw [ordC_len]; exact hk)
          rw [Nat.zero_add, ordC_get l k hkk, hxe] at this
          exact this
      have hlk := HH0.out.slots.look hx
      have hB := HH0.out.slots.slot x hx
      have hok := (HH0.out.slots.ok x hx).2
      have hpins := (HPN.out x hx).2
      have hpg := (HPN.out x hx).1
      have c256 : wr.cell? ⟨sl x.p, 256, none⟩ = some (.bool x.ch) := (hB.cell 256).trans (sc_ch hok)
      have c257 : wr.cell? ⟨sl x.p, 257, none⟩ = some (.int .i64 x.pins) := (hB.cell 257).trans (sc_pins hok)
      have HX := hide hx
      have HXE := hide hxe
      clear hB hok hx hxe
      by_cases hp0 : x.pins = 0
      · have HG : Hid (goesC l = some x) := by
          show _ = _
          rw [← HXE.out]
          exact goesC_at hkk (fun j hj => HPI.out j hj (by omega)) (by rw [HXE.out]; exact hp0)
        rw [HG.out] at HRM
        rw [hp0] at c257
        cases hch : x.ch with
        | false =>
          rw [hch] at c256
          have HE : Hid (R = (0, ⟨size, lessC l x.p, hits, misses⟩, d)) := by
            have := HRM.out
            simp only [hch, Bool.false_eq_true, if_false] at this
            exact this
          have HRL := hide (release_at wr c b H size (ordC l) l hits misses mb _ D sl HH0.out x HX.out)
          clear HRM HG hch hp0
          go_wp2_with (go_at_call 47; refine HRL.out.mono ?_; rintro e w2 ⟨rfl, h2, ho2⟩; have HC2 := hide h2; have HO2 := hide ho2; clear HRL h2 ho2)
          rw [Exit.noGoto_ret]
          go_ret
          rw [HE.out]
          refine ⟨rfl, ?_, ?_, ?_⟩
          · rw [← ordC_erase HH0.out.slots.nodup]; exact HC2.out
          · exact (HD0.out.keep HO2.out (fun k hg hh => HAP.out k hh hg)).mono (fun _ _ h => .inl h)
          · exact (HO0.out.mono (fun _ _ h => h.elim)).trans HO2.out (fun _ _ h => .inl h)
        | true =>
          rw [hch] at c256
          have HWR := hide (write_at wr c b H G size (ordC l) l hits misses mb _ D sl d HH0.out HD0.out HAP.out x HX.out hpg hwl hdl)
          have HRM2 : Hid (R = if (writeQ d x.p x.bs).1 = 0 then (0, ⟨size, lessC l x.p, hits, misses⟩, (writeQ d x.p x.bs).2) else ((writeQ d x.p x.bs).1, ⟨size, l, hits, misses⟩, (writeQ d x.p x.bs).2)) := by
            have := HRM.out
            simp only [hch, if_true] at this
            exact this
          obtain ⟨E, hE⟩ : ∃ E, (writeQ d x.p x.bs).1 = E := ⟨_, rfl⟩
          obtain ⟨d', hd'⟩ : ∃ d', (writeQ d x.p x.bs).2 = d' := ⟨_, rfl⟩
          rw [hE, hd'] at HWR HRM2
          clear HRM HG hch hp0 hE hd'
          by_cases hE0 : E = 0
          · subst hE0
            go_wp2_with (first
              | (go_at_call 36; refine HWR.out.mono ?_; rintro e w2 ⟨rfl, h2, hd2, ho2⟩; rw [if_pos rfl] at h2; have HC2 := hide h2; have HD2 := hide hd2; have HO2 := hide ho2; clear HWR h2 ho2 hd2)
              | (go_at_call 47; refine (release_at w2 c b H size (ordC l) _ hits misses mb _ D sl HC2.out { x with ch := false } (List.mem_map.2 ⟨x, HX.out, if_pos rfl⟩)).mono ?_; rintro e w3 ⟨rfl, h3, ho3⟩; have HC3 := hide h3; have HO3 := hide ho3; clear HC2 h3 ho3))
            rw [Exit.noGoto_ret]
            go_ret
            rw [HRM2.out, if_pos trivial]
            refine ⟨rfl, ?_, ?_, ?_⟩
            · have h3 : CachH w3 c b H size ((ordC l).erase x.p) (lessC (updC l x.p (fun y => { y with ch := false })) x.p) hits misses := HC3.out
              rw [lessC_updC l x.p (fun y => { y with ch := false }) (fun _ => rfl), ordC_erase HH0.out.slots.nodup] at h3
              exact h3
            · exact (HD2.out.keep HO3.out (fun k hg hh => by
                rcases hg with hg | hg
                · exact HAP.out k hh hg
                · have := HHB.out k hh; have := HSZ.out; omega)).mono (fun _ _ h => h.imp_right (fun h => by have := HSZ.out; omega))
            · exact ((HO0.out.mono (fun _ _ h => h.elim)).trans HO2.out (fun _ _ h => h)).trans HO3.out (fun _ _ h => .inl h)
          · go_wp2_with (go_at_call 36; refine HWR.out.mono ?_; rintro e w2 ⟨rfl, h2, hd2, ho2⟩; rw [if_neg hE0] at h2; have HC2 := hide h2; have HD2 := hide hd2; have HO2 := hide ho2; clear HWR h2 ho2 hd2)
            rw [Exit.noGoto_ret]
            go_ret
            rw [HRM2.out, if_neg hE0]
            exact ⟨rfl, ⟨_, _, _, _, HC2.out⟩, HD2.out.mono (fun _ _ h => h.imp_right (fun h => by have := HSZ.out; omega)), (HO0.out.mono (fun _ _ h => h.elim)).trans HO2.out (fun _ _ h => h)⟩
      · have hpp : (0 : Int) < x.pins := by omega
        go_wp2
        go_roundg (gk - 1)
        case measure => omega
        case rel => exact ⟨k + 1, by omega, by go_num, rfl, fun j hj hjl => by
          by_cases hjk : j = k
          · subst hjk
            rw [HXE.out]; exact hp0
          · exact HPI.out j (by omega) hjl⟩
    · have HN : Hid (goesC l = none) := goesC_end (fun j hj => HPI.out j (by simp at hj; omega) hj)
      rw [HN.out] at HRM
      go_wp2
      go_ret
      rw [HRM.out]
      exact ⟨rfl, ⟨_, _, _, _, HH0.out⟩, HD0.out.mono (fun _ _ h => .inl h), HO0.out.mono (fun _ _ h => h.elim)⟩
end

end Go.Proofs.Ytoplhehcjgldeaa
