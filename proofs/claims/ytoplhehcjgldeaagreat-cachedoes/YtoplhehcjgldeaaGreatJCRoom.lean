/- Contract: room is made (makeRoom). -/
import Derived.Test.YtoplhehcjgldeaaGreatJCPart3
namespace Go.Proofs.YtoplhehcjgldeaaGreat
open Go.RowKit
set_option linter.unusedVariables false
set_option maxRecDepth 100000

/-- the order of use: the page that was used longest ago first -/
def ordC (l : List Hd) : List Int := (l.map (fun h => (h.p : Int))).reverse
theorem ordC_len (l : List Hd) : (ordC l).length = l.length := by simp [ordC]
theorem ordC_rev (l : List Hd) : ordC l = l.reverse.map (fun h => (h.p : Int)) := by simp [ordC]
theorem ordC_get (l : List Hd) (k : Nat) (hk : k < l.reverse.length) : (ordC l).getD k 0 = (l.reverse[k].p : Int) := by
  rw [ordC_rev]
  simp only [List.getD, List.getElem?_map, List.getElem?_eq_getElem hk]
  rfl
theorem nodup_int {l : List Hd} (h : (l.map (·.p)).Nodup) : (l.map (fun h => (h.p : Int))).Nodup := by
  have : l.map (fun h => (h.p : Int)) = (l.map (·.p)).map (fun n : Nat => (n : Int)) := by simp
  rw [this]
  exact List.Pairwise.map _ (fun a b h e => h (Int.ofNat_inj.1 e)) h
theorem ordC_erase {l : List Hd} (h : (l.map (·.p)).Nodup) (p : Nat) : (ordC l).erase p = ordC (lessC l p) := by
  have hn : (ordC l).Nodup := List.pairwise_reverse.2 ((nodup_int h).imp (fun h => Ne.symm h))
  rw [hn.erase_eq_filter]
  unfold ordC lessC
  rw [List.filter_reverse, List.filter_map]
  congr 2
  apply List.filter_congr
  intro x _
  by_cases hx : x.p = p
  · simp [hx]
  · have h1 : ((x.p : Int) != (p : Int)) = true := by simp; omega
    have h2 : decide (x.p ≠ p) = true := by simpa using hx
    rw [h2]; exact h1
theorem ordC_use {l : List Hd} (h : (l.map (·.p)).Nodup) (x : Hd) : (ordC l).erase x.p ++ [(x.p : Int)] = ordC (useC l x) := by
  rw [ordC_erase h]
  simp [ordC, useC]
theorem lessC_updC (l : List Hd) (p : Nat) (f : Hd → Hd) (hf : ∀ x, (f x).p = x.p) : lessC (updC l p f) p = lessC l p := by
  induction l with
  | nil => rfl
  | cons x l ih =>
    unfold lessC updC at ih ⊢
    rw [List.map_cons, List.filter_cons, List.filter_cons]
    by_cases hx : x.p = p
    · rw [if_pos hx, hf x]
      have : decide (x.p ≠ p) = false := by simpa using hx
      rw [this]
      exact ih
    · rw [if_neg hx]
      have : decide (x.p ≠ p) = true := by simpa using hx
      rw [this, if_pos rfl, if_pos rfl, ih]

theorem goesC_at {l : List Hd} {k : Nat} (hk : k < l.reverse.length) (h0 : ∀ j (hj : j < k), (l.reverse[j]'(by omega)).pins ≠ 0) (h1 : (l.reverse[k]).pins = 0) : goesC l = some l.reverse[k] := by
  unfold goesC
  rw [List.find?_eq_some_iff_getElem]
  refine ⟨by simpa using h1, k, hk, rfl, fun j hj => ?_⟩
  simpa using h0 j hj
theorem goesC_end {l : List Hd} (h0 : ∀ j (hj : j < l.reverse.length), (l.reverse[j]).pins ≠ 0) : goesC l = none := by
  apply List.find?_eq_none.2
  intro x hx
  obtain ⟨j, hj, rfl⟩ := List.mem_iff_getElem.1 hx
  simpa using h0 j hj

section
variable (w : World) (c b : Nat) (H G : Nat → Prop) (size : Nat) (l : List Hd) (hits misses : Nat) (mb : Nat) (vo : Value) (D : DataW Unit) (sl : Nat → Nat) (d : Dv)

theorem room_free (h : CachAt w c b H size (ordC l) l hits misses mb vo D sl) (hl : l.length < size) (hs : size ≤ 64) :
    Calls Tryz.prog 79 #[dp c] w fun e w' => e = .returned (.int .i64 0) ∧ Only (fun _ => False) w w' := by
  have c1 := h.blk.c1
  have c2 := h.blk.c2
  have hlen : ∀ n, (Builtin.len_ #[61] 3 #[.map (some mb)]).run Tryz.prog (w.drewN n) = .ok (.int .i64 l.length) (w.drewN n) := fun n => by
    have := h.slots.map.len (w := w.drewN n) Tryz.underlying61 3
    rw [h.slots.len] at this
    exact this
  have hlt : (l.length : Int) < size := by omega
  clear h
  go_enter Tryz.func79, Tryz.ntmps79
  go_wp2
  go_step3
  go_wp2
  go_quiet (fail)
  go_wp2
  rw [Exit.noGoto_ret]
  go_ret
  exact ⟨rfl, (Only.refl _ w).drewN _⟩

set_option maxHeartbeats 1000000 in
theorem room_full (h : CachAt w c b H size (ordC l) l hits misses mb vo D sl) (hd : Dev w b G d) (hap : ∀ k, H k → G k → False) (hl : ¬ l.length < size) (hs : size ≤ 64) (hbd : ∀ k, H k → k < w.heap.size) (hpn : ∀ x ∈ l, x.p < d.st.length ∧ x.pins < 1000000000) (hwl : d.ws.length < 1000000) (hdl : d.done < 1000000000) :
    Calls Tryz.prog 79 #[dp c] w fun e w' => e = .returned (.int .i64 (roomC ⟨size, l, hits, misses⟩ d).1) ∧ CachH w' c b H size (ordC (roomC ⟨size, l, hits, misses⟩ d).2.1.l) (roomC ⟨size, l, hits, misses⟩ d).2.1.l hits misses ∧ Dev w' b (fun k => G k ∨ w.heap.size ≤ k) (roomC ⟨size, l, hits, misses⟩ d).2.2 ∧ Only (fun k => H k ∨ G k) w w' := by
  have c1 := h.blk.c1
  have c2 := h.blk.c2
  have hlen : ∀ n, (Builtin.len_ #[61] 3 #[.map (some mb)]).run Tryz.prog (w.drewN n) = .ok (.int .i64 l.length) (w.drewN n) := fun n => by
    have := h.slots.map.len (w := w.drewN n) Tryz.underlying61 3
    rw [h.slots.len] at this
    exact this
  have hlt : ¬ (l.length : Int) < size := by omega
  have HRM : Hid (roomC ⟨size, l, hits, misses⟩ d = match goesC l with
    | none => (6, ⟨size, l, hits, misses⟩, d)
    | some h => if h.ch = true then (if (writeQ d h.p h.bs).1 = 0 then (0, ⟨size, lessC l h.p, hits, misses⟩, (writeQ d h.p h.bs).2) else ((writeQ d h.p h.bs).1, ⟨size, l, hits, misses⟩, (writeQ d h.p h.bs).2)) else (0, ⟨size, lessC l h.p, hits, misses⟩, d)) := by
    show _ = _
    unfold roomC
    rw [if_neg hl]
    rfl
  generalize roomC ⟨size, l, hits, misses⟩ d = R at HRM ⊢
  have HH := hide h
  have HD := hide hd
  have HAP := hide hap
  have HPN := hide hpn
  have hll := h.few
  rw [ordC_len] at hll
  have HHB := hide hbd
  clear h hd hap hpn hl hbd
  go_enter Tryz.func79, Tryz.ntmps79
  go_wp2
  go_step3
  go_wp2
  go_quiet (fail)
  obtain ⟨w0, hw0⟩ : ∃ w0, w.drewN nq = w0 := ⟨_, rfl⟩
  have HO0 : Hid (Only (fun _ => False) w w0) := hw0 ▸ (Only.refl (fun _ => False) w).drewN nq
  have HH0 := hide (HH.out.keep HO0.out (fun _ _ h => h))
  have HD0 := hide (HD.out.keep HO0.out (fun _ _ h => h))
  rw [hw0]
  have HSZ : Hid (w.heap.size = w0.heap.size) := by show _ = _; rw [← hw0]; rfl
  clear c1 c2 hlen hw0 HH HD
  have c2 := HH0.out.blk.c2
  have c3 := HH0.out.blk.c3
  obtain ⟨ao, cap, hvo⟩ := HH0.out.order.shape
  rw [ordC_len] at hvo
  subst hvo
  go_wp2
  go_step3
  go_wp2
  have hcap : l.length ≤ cap ∧ cap ≤ 9223372036854775807 := by
    rcases HH0.out.order.form with ⟨e, e2⟩ | ⟨g, cap', sp, e, _, h1, h2, _⟩
    · simp only [Value.slice.injEq] at e
      omega
    · simp only [Value.slice.injEq] at e
      rw [ordC_len] at h1
      unfold maxLen at h2
      omega
  obtain ⟨hcap1, hcap2⟩ := hcap
  go_loopg [4, 5, 6, 22] l.length (fun g pp ss ee i wr => ∃ k : Nat, g + k = l.length ∧ i = .int .i64 k ∧ wr = w0 ∧ ∀ j (hj : j < k) (hk : j < l.reverse.length), (l.reverse[j]).pins ≠ 0)
  case atStart => exact ⟨0, by omega, rfl, rfl, fun j hj => absurd hj (by omega)⟩
  case round =>
    obtain ⟨k, hgk, rfl, rfl, hpin⟩ := hrel
    have HPI := hide hpin
    clear hpin
    by_cases hk : k < l.length
    · obtain ⟨x, hxe⟩ : ∃ x, l.reverse[k]'(by simpa using hk) = x := ⟨_, rfl⟩
      have hx : x ∈ l := List.mem_reverse.1 (hxe ▸ List.getElem_mem _)
      have hkk : k < l.reverse.length := by simpa using hk
      obtain ⟨og, rfl, hcell⟩ : ∃ g, ao = some ⟨g, 0, none⟩ ∧ wr.cell? ⟨g, k, none⟩ = some (.int .i64 x.p) := by
        rcases HH0.out.order.form with ⟨e, e2⟩ | ⟨g, cap', sp, e, _, h1, h2, hB, _⟩
        · simp only [Value.slice.injEq] at e
          omega
        · simp only [Value.slice.injEq] at e
          refine ⟨g, e.1, ?_⟩
          have := iv_cell hB k (by rw [ordC_len]; exact hk)
          rw [Nat.zero_add, ordC_get l k hkk, hxe] at this
          exact this
      have hlk := HH0.out.slots.look hx
      have hB := HH0.out.slots.slot x hx
      have hok := (HH0.out.slots.ok x hx).2
      have hpins := (HPN.out x hx).2
      have hpg := (HPN.out x hx).1
      have c256 : wr.cell? ⟨sl x.p, 256, none⟩ = some (.bool x.ch) := (hB.cell 256).trans (sc_ch hok)
      have c257 : wr.cell? ⟨sl x.p, 257, none⟩ = some (.int .i64 x.pins) := (hB.cell 257).trans (sc_pins hok)
      have HX := hide hx
      have HXE := hide hxe
      clear hB hok hx hxe
      by_cases hp0 : x.pins = 0
      · have HG : Hid (goesC l = some x) := by
          show _ = _
          rw [← HXE.out]
          exact goesC_at hkk (fun j hj => HPI.out j hj (by omega)) (by rw [HXE.out]; exact hp0)
        rw [HG.out] at HRM
        rw [hp0] at c257
        cases hch : x.ch with
        | false =>
          rw [hch] at c256
          have HE : Hid (R = (0, ⟨size, lessC l x.p, hits, misses⟩, d)) := by
            have := HRM.out
            simp only [hch, Bool.false_eq_true, if_false] at this
            exact this
          have HRL := hide (release_at wr c b H size (ordC l) l hits misses mb _ D sl HH0.out x HX.out)
          clear HRM HG hch hp0
          go_wp2_with (go_at_call 64; refine HRL.out.mono ?_; rintro e w2 ⟨rfl, h2, ho2⟩; have HC2 := hide h2; have HO2 := hide ho2; clear HRL h2 ho2)
          rw [Exit.noGoto_ret]
          go_ret
          rw [HE.out]
          refine ⟨rfl, ?_, ?_, ?_⟩
          · rw [← ordC_erase HH0.out.slots.nodup]; exact HC2.out
          · exact (HD0.out.keep HO2.out (fun k hg hh => HAP.out k hh hg)).mono (fun _ _ h => .inl h)
          · exact (HO0.out.mono (fun _ _ h => h.elim)).trans HO2.out (fun _ _ h => .inl h)
        | true =>
          rw [hch] at c256
          have HWR := hide (write_at wr c b H G size (ordC l) l hits misses mb _ D sl d HH0.out HD0.out HAP.out x HX.out hpg hwl hdl)
          have HRM2 : Hid (R = if (writeQ d x.p x.bs).1 = 0 then (0, ⟨size, lessC l x.p, hits, misses⟩, (writeQ d x.p x.bs).2) else ((writeQ d x.p x.bs).1, ⟨size, l, hits, misses⟩, (writeQ d x.p x.bs).2)) := by
            have := HRM.out
            simp only [hch, if_true] at this
            exact this
          obtain ⟨E, hE⟩ : ∃ E, (writeQ d x.p x.bs).1 = E := ⟨_, rfl⟩
          obtain ⟨d', hd'⟩ : ∃ d', (writeQ d x.p x.bs).2 = d' := ⟨_, rfl⟩
          rw [hE, hd'] at HWR HRM2
          clear HRM HG hch hp0 hE hd'
          by_cases hE0 : E = 0
          · subst hE0
            go_wp2_with (first
              | (go_at_call 67; refine HWR.out.mono ?_; rintro e w2 ⟨rfl, h2, hd2, ho2⟩; rw [if_pos rfl] at h2; have HC2 := hide h2; have HD2 := hide hd2; have HO2 := hide ho2; clear HWR h2 ho2 hd2)
              | (go_at_call 64; refine (release_at w2 c b H size (ordC l) _ hits misses mb _ D sl HC2.out { x with ch := false } (List.mem_map.2 ⟨x, HX.out, if_pos rfl⟩)).mono ?_; rintro e w3 ⟨rfl, h3, ho3⟩; have HC3 := hide h3; have HO3 := hide ho3; clear HC2 h3 ho3))
            rw [Exit.noGoto_ret]
            go_ret
            rw [HRM2.out, if_pos trivial]
            refine ⟨rfl, ?_, ?_, ?_⟩
            · have h3 : CachH w3 c b H size ((ordC l).erase x.p) (lessC (updC l x.p (fun y => { y with ch := false })) x.p) hits misses := HC3.out
              rw [lessC_updC l x.p (fun y => { y with ch := false }) (fun _ => rfl), ordC_erase HH0.out.slots.nodup] at h3
              exact h3
            · exact (HD2.out.keep HO3.out (fun k hg hh => by
                rcases hg with hg | hg
                · exact HAP.out k hh hg
                · have := HHB.out k hh; have := HSZ.out; omega)).mono (fun _ _ h => h.imp_right (fun h => by have := HSZ.out; omega))
            · exact ((HO0.out.mono (fun _ _ h => h.elim)).trans HO2.out (fun _ _ h => h)).trans HO3.out (fun _ _ h => .inl h)
          · go_wp2_with (go_at_call 67; refine HWR.out.mono ?_; rintro e w2 ⟨rfl, h2, hd2, ho2⟩; rw [if_neg hE0] at h2; have HC2 := hide h2; have HD2 := hide hd2; have HO2 := hide ho2; clear HWR h2 ho2 hd2)
            rw [Exit.noGoto_ret]
            go_ret
            rw [HRM2.out, if_neg hE0]
            exact ⟨rfl, ⟨_, _, _, _, HC2.out⟩, HD2.out.mono (fun _ _ h => h.imp_right (fun h => by have := HSZ.out; omega)), (HO0.out.mono (fun _ _ h => h.elim)).trans HO2.out (fun _ _ h => h)⟩
      · have hpp : (0 : Int) < x.pins := by omega
        go_wp2
        go_roundg (gk - 1)
        case measure => omega
        case rel => exact ⟨k + 1, by omega, by go_num, rfl, fun j hj hjl => by
          by_cases hjk : j = k
          · subst hjk
            rw [HXE.out]; exact hp0
          · exact HPI.out j (by omega) hjl⟩
    · have HN : Hid (goesC l = none) := goesC_end (fun j hj => HPI.out j (by simp at hj; omega) hj)
      rw [HN.out] at HRM
      go_wp2
      go_ret
      rw [HRM.out]
      exact ⟨rfl, ⟨_, _, _, _, HH0.out⟩, HD0.out.mono (fun _ _ h => .inl h), HO0.out.mono (fun _ _ h => h.elim)⟩
end

end Go.Proofs.YtoplhehcjgldeaaGreat
/- Contracts: a cache and its device together, from a base world: meet, Get, Put. -/
namespace Go.Proofs.YtoplhehcjgldeaaGreat
open Go.RowKit
set_option linter.unusedVariables false
set_option maxRecDepth 100000

/-- a cache at block c over the device at block b: their blocks lie in S or were made since w0, and are none of X -/
def Duos (w0 : World) (S X : Nat → Prop) (w : World) (c b : Nat) (ch : Ch) (d : Dv) : Prop :=
  ∃ H G, CachH w c b H ch.size (ordC ch.l) ch.l ch.hits ch.misses ∧ Dev w b G d ∧ (∀ k, H k → G k → False) ∧ (∀ k, H k ∨ G k → (S k ∨ w0.heap.size ≤ k) ∧ ¬ X k ∧ k < w.heap.size) ∧ (∀ k, X k → k < w.heap.size) ∧ Only S w0 w ∧ ChOk d.st.length ch

/-- none of X turns -/
def Turn (w0 : World) (S X : Nat → Prop) (w w' : World) : Prop := Only (fun k => (S k ∨ w0.heap.size ≤ k) ∧ ¬ X k) w w'
theorem Turn.refl (w0 : World) (S X : Nat → Prop) (w : World) : Turn w0 S X w w := Only.refl _ _
theorem Turn.trans {w0 : World} {S X : Nat → Prop} {w w1 w2 : World} (h : Turn w0 S X w w1) (k : Turn w0 S X w1 w2) : Turn w0 S X w w2 := Only.trans h k (fun _ _ h => h)
theorem Turn.of_below {w0 : World} {S X : Nat → Prop} {w w' : World} (h : Below w.heap.size w w') : Turn w0 S X w w' := Only.of_below _ h

section
variable {w0 w w' : World} {S X X' T : Nat → Prop} {c b : Nat} {ch ch' : Ch} {d d' : Dv} {H G H' G' : Nat → Prop}
theorem duos_step (hap : ∀ k, H k → G k → False) (hin : ∀ k, H k ∨ G k → (S k ∨ w0.heap.size ≤ k) ∧ ¬ X k ∧ k < w.heap.size) (hX : ∀ k, X k → k < w.heap.size) (hS : Only S w0 w)
    (hC : CachH w' c b H' ch'.size (ordC ch'.l) ch'.l ch'.hits ch'.misses) (hD : Dev w' b G' d') (ho : Only (fun k => H k ∨ G k) w w') (hH : ∀ k, H' k → H k ∨ w.heap.size ≤ k) (hG : ∀ k, G' k → G k ∨ w.heap.size ≤ k) (hap' : ∀ k, k < w'.heap.size → H' k → G' k → False) (ok : ChOk d'.st.length ch') : Duos w0 S X w' c b ch' d' := by
  have hs := ho.size
  have hs0 := hS.size
  refine ⟨fun k => H' k ∧ k < w'.heap.size, fun k => G' k ∧ k < w'.heap.size, hC.bound, hD.bound, fun k h1 h2 => hap' k h1.2 h1.1 h2.1, fun k hk => ?_, fun k hk => Nat.lt_of_lt_of_le (hX k hk) hs, hS.trans ho (fun k hk h => ?_), ok⟩
  · have hk2 : k < w'.heap.size := hk.elim (fun h => h.2) (fun h => h.2)
    have hk3 : (H k ∨ G k) ∨ w.heap.size ≤ k := by
      rcases hk with h | h
      · rcases hH k h.1 with h | h
        · exact .inl (.inl h)
        · exact .inr h
      · rcases hG k h.1 with h | h
        · exact .inl (.inr h)
        · exact .inr h
    rcases hk3 with h | h
    · exact ⟨(hin k h).1, (hin k h).2.1, hk2⟩
    · exact ⟨.inr (by omega), fun hx => by have := hX k hx; omega, hk2⟩
  · rcases (hin k h).1 with h | h
    · exact h
    · omega
theorem turn_step (hin : ∀ k, H k ∨ G k → (S k ∨ w0.heap.size ≤ k) ∧ ¬ X k ∧ k < w.heap.size) (ho : Only (fun k => H k ∨ G k) w w') : Turn w0 S X w w' := ho.mono (fun k _ hk => ⟨(hin k hk).1, (hin k hk).2.1⟩)
theorem Duos.ok (h : Duos w0 S X w c b ch d) : ChOk d.st.length ch := by obtain ⟨_, _, _, _, _, _, _, _, h⟩ := h; exact h
theorem Duos.dvok (h : Duos w0 S X w c b ch d) : DvOk d := by obtain ⟨_, _, _, h, _⟩ := h; exact h.ok
theorem Duos.only (h : Duos w0 S X w c b ch d) : Only S w0 w := by obtain ⟨_, _, _, _, _, _, _, h, _⟩ := h; exact h
/-- other blocks turn, new ones are made -/
theorem Duos.keep (h : Duos w0 S X w c b ch d) (ho : Only T w w') (hT : ∀ k, T k → X k ∨ w.heap.size ≤ k) (hTS : ∀ k, k < w0.heap.size → T k → S k) : Duos w0 S X w' c b ch d := by
  obtain ⟨H, G, h1, h2, h3, h4, h5, h6, h7⟩ := h
  have hs := ho.size
  have hn : ∀ k, H k ∨ G k → ¬ T k := fun k hk ht => by
    rcases hT k ht with h | h
    · exact (h4 k hk).2.1 h
    · have := (h4 k hk).2.2; omega
  exact ⟨H, G, h1.keep ho (fun k hk => hn k (.inl hk)), h2.keep ho (fun k hk => hn k (.inr hk)), h3, fun k hk => ⟨(h4 k hk).1, (h4 k hk).2.1, Nat.lt_of_lt_of_le (h4 k hk).2.2 hs⟩, fun k hk => Nat.lt_of_lt_of_le (h5 k hk) hs, h6.trans ho hTS, h7⟩
theorem Duos.below (h : Duos w0 S X w c b ch d) (hb : Below w.heap.size w w') : Duos w0 S X w' c b ch d := h.keep (Only.of_below (fun _ => False) hb) (fun _ h => h.elim) (fun _ _ h => h.elim)
/-- what was made just now is none of theirs -/
theorem Duos.grow (h : Duos w0 S X w c b ch d) (hb : Below w.heap.size w w') : Duos w0 S (fun k => X k ∨ (w.heap.size ≤ k ∧ k < w'.heap.size)) w' c b ch d := by
  obtain ⟨H, G, h1, h2, h3, h4, h5, h6, h7⟩ := h
  have ho := Only.of_below (fun _ => False) hb
  have hs := hb.size
  exact ⟨H, G, h1.keep ho (fun _ _ h => h), h2.keep ho (fun _ _ h => h), h3, fun k hk => ⟨(h4 k hk).1, fun hx => hx.elim (h4 k hk).2.1 (fun hx => by have := (h4 k hk).2.2; omega), Nat.lt_of_lt_of_le (h4 k hk).2.2 hs⟩, fun k hk => hk.elim (fun hk => Nat.lt_of_lt_of_le (h5 k hk) hs) (fun hk => hk.2), h6.trans ho (fun _ _ h => h.elim), h7⟩
theorem Duos.less (h : Duos w0 S X w c b ch d) (hx : ∀ k, X' k → X k) : Duos w0 S X' w c b ch d := by
  obtain ⟨H, G, h1, h2, h3, h4, h5, h6, h7⟩ := h
  exact ⟨H, G, h1, h2, h3, fun k hk => ⟨(h4 k hk).1, fun h => (h4 k hk).2.1 (hx k h), (h4 k hk).2.2⟩, fun k hk => h5 k (hx k hk), h6, h7⟩
end

theorem writeQ_st (d : Dv) (p : Nat) (zs : List Int) : (writeQ d p zs).2.st = d.st := by
  unfold writeQ
  split
  · rfl
  · unfold spendD
    split <;> rfl
theorem roomC_st (c : Ch) (d : Dv) : (roomC c d).2.2.st = d.st := by
  unfold roomC
  split
  · rfl
  · split
    · rfl
    · split
      · split
        · exact writeQ_st _ _ _
        · exact writeQ_st _ _ _
      · rfl
theorem roomC_size (c : Ch) (d : Dv) : (roomC c d).2.1.size = c.size ∧ (roomC c d).2.1.hits = c.hits ∧ (roomC c d).2.1.misses = c.misses := by
  unfold roomC
  split
  · exact ⟨rfl, rfl, rfl⟩
  · split
    · exact ⟨rfl, rfl, rfl⟩
    · split
      · split <;> exact ⟨rfl, rfl, rfl⟩
      · exact ⟨rfl, rfl, rfl⟩
/-- room leaves the list, or takes one out -/
theorem roomC_l (c : Ch) (d : Dv) : (roomC c d).2.1.l = c.l ∨ ∃ x ∈ c.l, x.pins = 0 ∧ (roomC c d).2.1.l = lessC c.l x.p := by
  unfold roomC
  split
  · exact .inl rfl
  · split
    · exact .inl rfl
    · rename_i x hx
      obtain ⟨h1, h2⟩ := goesC_some hx
      split
      · split
        · exact .inr ⟨x, h1, h2, rfl⟩
        · exact .inl rfl
      · exact .inr ⟨x, h1, h2, rfl⟩
theorem roomC_mem {c : Ch} {d : Dv} {h : Hd} (hh : h ∈ (roomC c d).2.1.l) : h ∈ c.l := by
  rcases roomC_l c d with e | ⟨x, _, _, e⟩
  · rw [e] at hh; exact hh
  · rw [e] at hh; exact (mem_lessC.1 hh).1
theorem roomC_find {c : Ch} {d : Dv} {p : Int} (hp : findC c.l p = none) : findC (roomC c d).2.1.l p = none := by
  apply List.find?_eq_none.2
  intro x hx
  simpa using findC_none hp x (roomC_mem hx)
theorem roomC_ok {n : Nat} {c : Ch} {d : Dv} (h : ChOk n c) : ChOk n (roomC c d).2.1 := by
  obtain ⟨e1, _, _⟩ := roomC_size c d
  refine ⟨e1 ▸ h.lo, e1 ▸ h.hi, ?_, ?_, fun x hx => h.pages x (roomC_mem hx)⟩
  · rw [e1]
    rcases roomC_l c d with e | ⟨x, _, _, e⟩
    · rw [e]; exact h.few
    · rw [e]; exact Nat.le_trans (lessC_sub _ _).length_le h.few
  · rcases roomC_l c d with e | ⟨x, _, _, e⟩
    · rw [e]; exact h.nodup
    · rw [e]; exact lessC_nodup h.nodup _
/-- where room was made there is room -/
theorem roomC_room {n : Nat} {c : Ch} {d : Dv} (h : ChOk n c) (h0 : (roomC c d).1 = 0) : (roomC c d).2.1.l.length < c.size := by
  unfold roomC at h0 ⊢
  split at h0
  · rename_i hl
    rw [if_pos hl]; exact hl
  · rename_i hl
    rw [if_neg hl]
    have hf := h.few
    split at h0
    · simp at h0
    · rename_i x hx
      have := lessC_len h.nodup (goesC_some hx).1
      split at h0
      · rename_i hc
        rw [if_pos hc]
        split at h0
        · rename_i hw
          rw [if_pos hw]
          show (lessC c.l x.p).length < c.size
          omega
        · rename_i hw
          exact absurd h0 hw
      · rename_i hc
        rw [if_neg hc]
        show (lessC c.l x.p).length < c.size
        omega

section
variable (w0 w : World) (S X : Nat → Prop) (c b : Nat) (ch : Ch) (d : Dv)

theorem room_any (k : Nat) (hk : k < 1000000) (h : Duos w0 S X w c b ch d) (hf : Few k ch d) :
    Calls Tryz.prog 79 #[dp c] w fun e w' => e = .returned (.int .i64 (roomC ch d).1) ∧ Duos w0 S X w' c b (roomC ch d).2.1 (roomC ch d).2.2 ∧ Turn w0 S X w w' := by
  obtain ⟨H, G, ⟨mb, vo, D, sl, h1⟩, h2, h3, h4, h5, h6, h7⟩ := h
  obtain ⟨e1, e2, e3⟩ := roomC_size ch d
  have ok : ChOk (roomC ch d).2.2.st.length (roomC ch d).2.1 := by rw [roomC_st]; exact roomC_ok h7
  by_cases hl : ch.l.length < ch.size
  · have er : roomC ch d = (0, ch, d) := by unfold roomC; rw [if_pos hl]
    rw [er]
    refine (room_free w c b H ch.size ch.l ch.hits ch.misses mb vo D sl h1 hl h7.hi).mono ?_
    rintro e w' ⟨rfl, ho⟩
    exact ⟨rfl, duos_step h3 h4 h5 h6 ⟨mb, vo, D, sl, h1.keep ho (fun _ _ h => h)⟩ (h2.keep ho (fun _ _ h => h)) (ho.mono (fun _ _ h => h.elim)) (fun _ h => .inl h) (fun _ h => .inl h) (fun k _ => h3 k) h7, ho.mono (fun _ _ h => h.elim)⟩
  · refine (room_full w c b H G ch.size ch.l ch.hits ch.misses mb vo D sl d h1 h2 h3 hl h7.hi (fun k hk => (h4 k (.inl hk)).2.2) (fun x hx => ⟨(h7.pages x hx).1, by have := hf.pins x hx; omega⟩) (by have := hf.ws; omega) (by have := hf.done; omega)).mono ?_
    rintro e w' ⟨rfl, h8, h9, h10⟩
    refine ⟨rfl, duos_step h3 h4 h5 h6 (H' := H) (G' := fun k => G k ∨ w.heap.size ≤ k) ?_ h9 h10 (fun _ h => .inl h) (fun _ h => h) (fun k _ hh hg => ?_) ok, turn_step h4 h10⟩
    · rw [e1, e2, e3]; exact h8
    · rcases hg with hg | hg
      · exact h3 k hh hg
      · have := (h4 k (.inl hh)).2.2; omega
end

end Go.Proofs.YtoplhehcjgldeaaGreat
/- Contracts: meet, exists, Get. -/
namespace Go.Proofs.YtoplhehcjgldeaaGreat
open Go.RowKit
set_option linter.unusedVariables false
set_option maxRecDepth 100000

theorem meetC_st (c : Ch) (d : Dv) (p : Nat) : (meetC c d p).2.2.st = d.st := by
  unfold meetC
  split
  · rfl
  · exact roomC_st _ _

section
variable (w0 w : World) (S X : Nat → Prop) (c b : Nat) (ch : Ch) (d : Dv)

theorem exists_any (h : Duos w0 S X w c b ch d) (p : Int) :
    Calls Tryz.prog 54 #[dp c, .int .i64 p] w fun e w' => e = .returned (.bool (decide (0 ≤ p ∧ p < d.st.length))) ∧ w' = w := by
  obtain ⟨H, G, ⟨mb, vo, D, sl, h1⟩, h2, h3, h4, h5, h6, h7⟩ := h
  have c0 := h1.blk.c0
  have HP := hide (pages_any w b G d h2)
  clear h1 h2 h3 h4 h5 h6 h7
  by_cases h0 : 0 ≤ p
  · go_enter Tryz.func54, Tryz.ntmps54
    go_wp2_with (go_at_call 21; refine HP.out.mono ?_; rintro e w1 ⟨rfl, hw⟩; subst w1; clear HP)
    go_ret
    exact ⟨ret_bool (by simp [h0]), rfl⟩
  · go_enter Tryz.func54, Tryz.ntmps54
    go_wp2_with (go_at_call 21; refine HP.out.mono ?_; rintro e w1 ⟨rfl, hw⟩; subst w1; clear HP)
    go_ret
    exact ⟨ret_bool (by rw [decide_eq_false (show ¬ 0 ≤ p by omega)]; rfl), rfl⟩

theorem duos_hit (h : Duos w0 S X w c b ch d) : Duos w0 S X (w.setCell ⟨c, 4, none⟩ (.int .i64 ((ch.hits : Int) + 1))) c b { ch with hits := ch.hits + 1 } d ∧ Turn w0 S X w (w.setCell ⟨c, 4, none⟩ (.int .i64 ((ch.hits : Int) + 1))) := by
  obtain ⟨H, G, ⟨mb, vo, D, sl, h1⟩, h2, h3, h4, h5, h6, h7⟩ := h
  have ho : Only (· = c) w (w.setCell ⟨c, 4, none⟩ (.int .i64 ((ch.hits : Int) + 1))) := (Only.refl _ w).setCell ⟨c, 4, none⟩ _ (fun _ => rfl)
  have hc : ∀ k, k = c → H k := fun k e => e ▸ h1.fc
  refine ⟨duos_step (H' := H) (G' := G) h3 h4 h5 h6 ⟨mb, vo, D, sl, h1.turn ho (Blk.set h1.blk 4 (.int .i64 ((ch.hits : Int) + 1)))⟩ (h2.keep ho (fun k hg e => h3 k (hc k e) hg)) (ho.mono (fun k _ e => .inl (hc k e))) (fun _ h => .inl h) (fun _ h => .inl h) (fun k _ => h3 k) ⟨h7.lo, h7.hi, h7.few, h7.nodup, h7.pages⟩, turn_step h4 (ho.mono (fun k _ e => .inl (hc k e)))⟩
theorem duos_miss (h : Duos w0 S X w c b ch d) : Duos w0 S X (w.setCell ⟨c, 5, none⟩ (.int .i64 ((ch.misses : Int) + 1))) c b { ch with misses := ch.misses + 1 } d ∧ Turn w0 S X w (w.setCell ⟨c, 5, none⟩ (.int .i64 ((ch.misses : Int) + 1))) := by
  obtain ⟨H, G, ⟨mb, vo, D, sl, h1⟩, h2, h3, h4, h5, h6, h7⟩ := h
  have ho : Only (· = c) w (w.setCell ⟨c, 5, none⟩ (.int .i64 ((ch.misses : Int) + 1))) := (Only.refl _ w).setCell ⟨c, 5, none⟩ _ (fun _ => rfl)
  have hc : ∀ k, k = c → H k := fun k e => e ▸ h1.fc
  refine ⟨duos_step (H' := H) (G' := G) h3 h4 h5 h6 ⟨mb, vo, D, sl, h1.turn ho (Blk.set h1.blk 5 (.int .i64 ((ch.misses : Int) + 1)))⟩ (h2.keep ho (fun k hg e => h3 k (hc k e) hg)) (ho.mono (fun k _ e => .inl (hc k e))) (fun _ h => .inl h) (fun _ h => .inl h) (fun k _ => h3 k) ⟨h7.lo, h7.hi, h7.few, h7.nodup, h7.pages⟩, turn_step h4 (ho.mono (fun k _ e => .inl (hc k e)))⟩

theorem Few.miss {k : Nat} {ch : Ch} {d : Dv} (hf : Few k ch d) : Few (k + 1) { ch with misses := ch.misses + 1 } d := ⟨Nat.le_succ_of_le hf.hits, Nat.succ_le_succ hf.misses, fun x hx => Nat.le_succ_of_le (hf.pins x hx), Nat.le_succ_of_le hf.ws, Nat.le_succ_of_le hf.done⟩

theorem meet_any (k : Nat) (hk : k < 900000) (h : Duos w0 S X w c b ch d) (hf : Few k ch d) (p : Nat) (hp : p < d.st.length) :
    Calls Tryz.prog 55 #[dp c, .int .i64 p] w fun e w' => e = .returned (.int .i64 (meetC ch d p).1) ∧ Duos w0 S X w' c b (meetC ch d p).2.1 (meetC ch d p).2.2 ∧ Turn w0 S X w w' := by
  have hst := h.dvok.few
  obtain ⟨H, G, ⟨mb, vo, D, sl, h1⟩, _⟩ := id h
  have c4 := h1.blk.c4
  have f4 := Blk.frozen h1.blk 4
  have c5 := h1.blk.c5
  have f5 := Blk.frozen h1.blk 5
  have hh := hf.hits
  have hm := hf.misses
  cases hfi : findC ch.l p with
  | some x =>
    have HE : Hid (meetC ch d p = (0, { ch with hits := ch.hits + 1 }, d)) := by show _ = _; unfold meetC; rw [hfi]
    obtain ⟨hx, hxp⟩ := findC_some hfi
    have HA := hide (chas_yes w c b H ch.size (ordC ch.l) ch.l ch.hits ch.misses mb vo D sl h1 x hx)
    rw [hxp] at HA
    have HD := hide (duos_hit w0 w S X c b ch d h)
    clear h h1 hf hx hxp hfi
    go_enter Tryz.func55, Tryz.ntmps55
    go_wp2_with (go_at_call 46; refine HA.out.mono ?_; rintro e w1 ⟨rfl, hw⟩; subst w1; clear HA)
    go_ret
    rw [HE.out]
    exact ⟨rfl, HD.out.1, HD.out.2⟩
  | none =>
    have HE : Hid (meetC ch d p = roomC { ch with misses := ch.misses + 1 } d) := by show _ = _; unfold meetC; rw [hfi]
    have HA := hide (chas_no w c b H ch.size (ordC ch.l) ch.l ch.hits ch.misses mb vo D sl h1 p (wf_nat (by omega)) hfi)
    have HT := hide (duos_miss w0 w S X c b ch d h).2
    have HR := hide (room_any w0 _ S X c b _ d (k + 1) (by omega) (duos_miss w0 w S X c b ch d h).1 hf.miss)
    clear h h1 hf hfi
    go_enter Tryz.func55, Tryz.ntmps55
    go_wp2_with (first
      | (go_at_call 46; refine HA.out.mono ?_; rintro e w1 ⟨rfl, hw⟩; subst w1; clear HA)
      | (go_at_call 79; refine HR.out.mono ?_; rintro e w2 ⟨rfl, h2, ht2⟩; have HD := hide h2; have HT2 := hide ht2; clear HR h2 ht2))
    go_ret
    rw [HE.out]
    exact ⟨rfl, HD.out, HT.out.trans HT2.out⟩
end

end Go.Proofs.YtoplhehcjgldeaaGreat
/- Contract: Get. -/
namespace Go.Proofs.YtoplhehcjgldeaaGreat
open Go.RowKit
set_option linter.unusedVariables false
set_option maxRecDepth 100000

def getC (c : Ch) (d : Dv) (p : Int) : Int × List Int × Ch × Dv :=
  if 0 ≤ p ∧ p < d.st.length then match findC c.l p with
    | some h => (0, h.bs, { c with l := useC c.l h, hits := c.hits + 1 }, d)
    | none => if (roomC { c with misses := c.misses + 1 } d).1 = 0 then
        (if (roomC { c with misses := c.misses + 1 } d).2.2.off = true then (5, [], (roomC { c with misses := c.misses + 1 } d).2.1, (roomC { c with misses := c.misses + 1 } d).2.2)
          else (0, showsD (roomC { c with misses := c.misses + 1 } d).2.2 p.toNat, { (roomC { c with misses := c.misses + 1 } d).2.1 with l := ⟨p.toNat, showsD (roomC { c with misses := c.misses + 1 } d).2.2 p.toNat, false, 0⟩ :: (roomC { c with misses := c.misses + 1 } d).2.1.l }, (roomC { c with misses := c.misses + 1 } d).2.2))
        else ((roomC { c with misses := c.misses + 1 } d).1, [], (roomC { c with misses := c.misses + 1 } d).2.1, (roomC { c with misses := c.misses + 1 } d).2.2)
  else (1, [], c, d)

theorem sizeArr : (Tryz.prog.info? 84).map (·.size) = some 256 := by kernel_rfl
theorem zeroArrRun (w : World) : (zeroValue 84).run Tryz.prog w = .ok (.agg pageZero) w := by kernel_rfl
theorem arr_facts {r : List Int} (h : PageOk r) : ((Tryz.prog.info? 84).map (·.size) = some (pc r).length) ∧ ((Tryz.prog.info? 84).map (·.size) = some (pc r).toArray.size) ∧ pageZero.size = (pc r).toArray.size ∧ (pc r).toArray.all (·.oneCell') = true := by
  have hl : (pc r).length = 256 := by rw [pc_len]; exact h.1
  exact ⟨by rw [hl]; exact sizeArr, by rw [List.size_toArray, hl]; exact sizeArr, pageZero_size.trans (by rw [List.size_toArray, hl]), all_oneCell_toArray (pc_one r)⟩
theorem slot_range {w : World} {g : Nat} {x : Hd} (h : Blk w g 94 (sc x)) : w.rangeAt g 0 (pc x.bs) := h.range 0 _ (fun j hj => by rw [Nat.zero_add]; unfold sc; rw [List.getElem?_append_left hj])

/-- what Get hands out: bytes of its own, which are none of the cache's -/
def Handed (w0 : World) (S X : Nat → Prop) (w : World) (c b : Nat) (v : Value) (e : Int) (zs : List Int) (ch : Ch) (d : Dv) : Prop :=
  (e = 0 ∧ ∃ g, v = .slice (some ⟨g, 0, none⟩) 256 256 ∧ PageOk zs ∧ Blk w g 84 (pc zs) ∧ ¬ X g ∧ Duos w0 S (fun k => X k ∨ k = g) w c b ch d) ∨ (e ≠ 0 ∧ v = .slice none 0 0 ∧ Duos w0 S X w c b ch d)

section
variable (w0 w : World) (S X : Nat → Prop) (c b : Nat) (ch : Ch) (d : Dv)

theorem get_arg (h : Duos w0 S X w c b ch d) (p : Int) (hp : ¬ (0 ≤ p ∧ p < d.st.length)) :
    Calls Tryz.prog 18 #[dp c, .int .i64 p] w fun e w' => e = .returned (.tuple #[.slice none 0 0, .int .i64 1]) ∧ w' = w := by
  have HX := hide (exists_any w0 w S X c b ch d h p)
  rw [decide_eq_false hp] at HX
  obtain ⟨H, G, ⟨mb, vo, D, sl, h1⟩, _⟩ := id h
  have HM := hide (cmade_any w c b h1.blk.c0)
  clear h h1 hp
  go_enter Tryz.func18, Tryz.ntmps18
  go_wp2_with (first
    | (go_at_call 53; refine HM.out.mono ?_; rintro e w1 ⟨rfl, hw⟩; subst w1; clear HM)
    | (go_at_call 54; refine HX.out.mono ?_; rintro e w1 ⟨rfl, hw⟩; subst w1; clear HX))
  go_ret2
  exact ⟨rfl, rfl⟩

theorem get_no (k : Nat) (hk : k < 900000) (h : Duos w0 S X w c b ch d) (hf : Few k ch d) (p : Nat) (hp : p < d.st.length) (he : (meetC ch d p).1 ≠ 0) :
    Calls Tryz.prog 18 #[dp c, .int .i64 p] w fun e w' => e = .returned (.tuple #[.slice none 0 0, .int .i64 (meetC ch d p).1]) ∧ Duos w0 S X w' c b (meetC ch d p).2.1 (meetC ch d p).2.2 ∧ Turn w0 S X w w' := by
  have HX := hide (exists_any w0 w S X c b ch d h p)
  rw [decide_eq_true (by omega)] at HX
  have HE := hide (meet_any w0 w S X c b ch d k hk h hf p hp)
  obtain ⟨H, G, ⟨mb, vo, D, sl, h1⟩, _⟩ := id h
  have HM := hide (cmade_any w c b h1.blk.c0)
  clear h h1 hp hf
  generalize meetC ch d p = R at he HE ⊢
  go_enter Tryz.func18, Tryz.ntmps18
  go_wp2_with (first
    | (go_at_call 53; refine HM.out.mono ?_; rintro e w1 ⟨rfl, hw⟩; subst w1; clear HM)
    | (go_at_call 54; refine HX.out.mono ?_; rintro e w1 ⟨rfl, hw⟩; subst w1; clear HX)
    | (go_at_call 55; refine HE.out.mono ?_; rintro e w1 ⟨rfl, hd1, ht1⟩; have HD1 := hide hd1; have HT1 := hide ht1; clear HE hd1 ht1))
  go_ret2
  exact ⟨rfl, HD1.out, HT1.out⟩

theorem use_any (H G : Nat → Prop) (os : List Int) (l : List Hd) (hits misses : Nat) (mb : Nat) (vo : Value) (D : DataW Unit) (sl : Nat → Nat) (size : Nat) (h1 : CachAt w c b H size os l hits misses mb vo D sl) (p : Nat) (l' : List Hd) (he : os.erase p ++ [(p : Int)] = ordC l') (hl : l'.length ≤ 64) (hm : ∀ x, x ∈ l' ↔ x ∈ l) (hll : l'.length = l.length) (hn : (l'.map (·.p)).Nodup) :
    Calls Tryz.prog 57 #[dp c, .int .i64 p] w fun e w' => e = .returned (.tuple #[]) ∧ (∃ vo', CachAt w' c b (fun k => H k ∨ w.heap.size ≤ k) size (ordC l') l' hits misses mb vo' D sl) ∧ Only H w w' := by
  have hs : (os.erase p).length < 1000 := by
    have := congrArg List.length he
    rw [ordC_len] at this
    simp only [List.length_append, List.length_cons, List.length_nil] at this
    omega
  refine (use_at w c b H size os l hits misses mb vo D sl h1 p hs).mono ?_
  rintro e w' ⟨rfl, ⟨vo', h2⟩, ho⟩
  rw [he] at h2
  exact ⟨rfl, ⟨vo', ⟨h2.blk, h2.order, h2.slots.relist hm hll hn, h2.fc, h2.fo, h2.few⟩⟩, ho⟩

/-- a page that is held is used -/
theorem ok_use {n : Nat} {ch : Ch} (ok : ChOk n ch) (hits : Nat) {x : Hd} (hx : x ∈ ch.l) : ChOk n { ch with l := useC ch.l x, hits := hits } ∧ (useC ch.l x).length = ch.l.length ∧ ∀ y, y ∈ useC ch.l x ↔ y ∈ ch.l := by
  have hl := useC_len ok.nodup x (findC_mem ok.nodup hx)
  have hm : ∀ y, y ∈ useC ch.l x ↔ y ∈ ch.l := fun y => by
    rw [mem_useC]
    constructor
    · rintro (rfl | h)
      · exact hx
      · exact h.1
    · intro hy
      by_cases e : y.p = x.p
      · exact .inl (nodup_inj ok.nodup hy hx e)
      · exact .inr ⟨hy, e⟩
  exact ⟨⟨ok.lo, ok.hi, by show (useC ch.l x).length ≤ ch.size; rw [hl]; exact ok.few, useC_nodup ok.nodup x, fun y hy => ok.pages y ((hm y).1 hy)⟩, hl, hm⟩

/-- the cache's use, at the level of the pair -/
theorem use_duos (h : Duos w0 S X w c b ch d) (x : Hd) (hx : x ∈ ch.l) :
    Calls Tryz.prog 57 #[dp c, .int .i64 x.p] w fun e w' => e = .returned (.tuple #[]) ∧ Duos w0 S X w' c b { ch with l := useC ch.l x } d ∧ Turn w0 S X w w' := by
  obtain ⟨H, G, ⟨mb, vo, D, sl, h1⟩, h2, h3, h4, h5, h6, h7⟩ := h
  obtain ⟨o1, o2, o3⟩ := ok_use h7 ch.hits hx
  have := h7.hi
  have := h7.few
  refine (use_any w c b H G (ordC ch.l) ch.l ch.hits ch.misses mb vo D sl ch.size h1 x.p (useC ch.l x) (ordC_use h7.nodup x) (by omega) o3 o2 o1.nodup).mono ?_
  rintro e w' ⟨rfl, ⟨vo', k1⟩, ho⟩
  have ho' : Only (fun k => H k ∨ G k) w w' := ho.mono (fun _ _ h => .inl h)
  refine ⟨rfl, duos_step h3 h4 h5 h6 ⟨mb, vo', D, sl, k1⟩ (h2.keep ho (fun k hg hh => h3 k hh hg)) ho' (fun _ h => h) (fun _ h => .inl h) (fun k _ hh hg => ?_) o1, turn_step h4 ho'⟩
  rcases hh with hh | hh
  · exact h3 k hh hg
  · have := (h4 k (.inr hg)).2.2; omega

/-- a page's bytes, as the cache holds them -/
theorem duos_look (h : Duos w0 S X w c b ch d) (x : Hd) (hx : x ∈ ch.l) : ∃ mb s, w.cell? ⟨c, 2, none⟩ = some (.map (some mb)) ∧ (Instr.lookup 61 (.map (some mb)) (.int .i64 x.p) false).run Tryz.prog w = .ok (dp s) w ∧ w.rangeAt s 0 (pc x.bs) := by
  obtain ⟨H, G, ⟨mb, vo, D, sl, h1⟩, _⟩ := h
  exact ⟨mb, sl x.p, h1.blk.c2, h1.slots.look hx, slot_range (h1.slots.slot x hx)⟩
theorem duos_has (h : Duos w0 S X w c b ch d) (x : Hd) (hx : x ∈ ch.l) : Calls Tryz.prog 46 #[dp c, .int .i64 x.p] w fun e w' => e = .returned (.bool true) ∧ w' = w := by
  obtain ⟨H, G, ⟨mb, vo, D, sl, h1⟩, _⟩ := h
  exact chas_yes w c b H ch.size (ordC ch.l) ch.l ch.hits ch.misses mb vo D sl h1 x hx
theorem duos_hasnt (h : Duos w0 S X w c b ch d) (p : Int) (hp : Wf p) (hn : findC ch.l p = none) : Calls Tryz.prog 46 #[dp c, .int .i64 p] w fun e w' => e = .returned (.bool false) ∧ w' = w := by
  obtain ⟨H, G, ⟨mb, vo, D, sl, h1⟩, _⟩ := h
  exact chas_no w c b H ch.size (ordC ch.l) ch.l ch.hits ch.misses mb vo D sl h1 p hp hn
theorem handed_new (h : Duos w0 S X w c b ch d) (zs : List Int) (hz : PageOk zs) : Handed w0 S X (w.alloc (.cells (pc zs).toArray 84)) c b (.slice (some ⟨w.heap.size, 0, none⟩) 256 256) 0 zs ch d ∧ Turn w0 S X w (w.alloc (.cells (pc zs).toArray 84)) := by
  have hb : Below w.heap.size w (w.alloc (.cells (pc zs).toArray 84)) := (Below.refl _ w).alloc (Nat.le_refl _) _
  have hX : ∀ k, X k → k < w.heap.size := by obtain ⟨_, _, _, _, _, _, h, _⟩ := h; exact h
  exact ⟨.inl ⟨rfl, _, rfl, hz, Blk.new w _ _, fun hx => Nat.lt_irrefl _ (hX _ hx), (h.grow hb).less (fun k hk => hk.imp_right (fun e => by subst e; exact ⟨Nat.le_refl _, by simp⟩))⟩, Turn.of_below hb⟩

set_option maxHeartbeats 1000000 in
theorem get_hit (k : Nat) (hk : k < 900000) (h : Duos w0 S X w c b ch d) (hf : Few k ch d) (p : Nat) (hp : p < d.st.length) (x : Hd) (hx : findC ch.l p = some x) :
    Calls Tryz.prog 18 #[dp c, .int .i64 p] w fun e w' => ∃ v, e = .returned (.tuple #[v, .int .i64 0]) ∧ Handed w0 S X w' c b v 0 x.bs { ch with l := useC ch.l x, hits := ch.hits + 1 } d ∧ Turn w0 S X w w' := by
  have HX := hide (exists_any w0 w S X c b ch d h p)
  rw [decide_eq_true (by omega)] at HX
  have HE := hide (meet_any w0 w S X c b ch d k hk h hf p hp)
  have em : meetC ch d p = (0, { ch with hits := ch.hits + 1 }, d) := by unfold meetC; rw [hx]
  rw [em] at HE
  obtain ⟨H, G, ⟨mb, vo, D, sl, h1⟩, _⟩ := id h
  have HM := hide (cmade_any w c b h1.blk.c0)
  obtain ⟨hxm, hxp⟩ := findC_some hx
  have hxp' : x.p = p := by omega
  subst hxp'
  have HXM := hide hxm
  have HUM := hide (ok_use h.ok ch.hits hxm).2.2
  have HPO := hide (h.ok.pages x hxm).2
  obtain ⟨z1, z2, z3, z4⟩ := arr_facts (h.ok.pages x hxm).2
  have HZ1 := hide z1
  have HZ2 := hide z2
  have HZ3 := hide z3
  have HZ4 := hide z4
  have hza := zeroArrRun
  clear h h1 hp hf hx hxm hxp em z1 z2 z3 z4
  go_enter Tryz.func18, Tryz.ntmps18
  go_wp2_with (first
    | ((with_reducible refine wpList_load_mid rfl 84 (.tmp 55) rfl s2 0 ?_ (pc x.bs) _ HR.out Tryz.underlying84 rfl HZ1.out ?_); exact rfl)
    | ((with_reducible refine wpList_store_new rfl 84 (.tmp 9) (.tmp 56) rfl pageZero (pc x.bs).toArray 84 ?_ ?_ HZ3.out HZ2.out HZ4.out ?_); exact rfl; exact rfl)
    | (go_at_call 53; refine HM.out.mono ?_; rintro e w1 ⟨rfl, hw⟩; subst w1; clear HM)
    | (go_at_call 54; refine HX.out.mono ?_; rintro e w1 ⟨rfl, hw⟩; subst w1; clear HX)
    | (go_at_call 55; refine HE.out.mono ?_; rintro e w1 ⟨rfl, hd1, ht1⟩; have HD1 := hide hd1; have HT1 := hide ht1; clear HE hd1 ht1)
    | (go_at_call 46; refine (duos_has w0 w1 S X c b _ d HD1.out x HXM.out).mono ?_; rintro e w2 ⟨rfl, hw⟩; subst w2)
    | (go_at_call 57; refine (use_duos w0 w1 S X c b _ d HD1.out x HXM.out).mono ?_; rintro e w2 ⟨rfl, hd2, ht2⟩; obtain ⟨mb2, s2, c22, hlk2, hr2⟩ := duos_look w0 w2 S X c b _ d hd2 x ((HUM.out x).2 HXM.out); have HR := hide hr2; have HD2 := hide hd2; have HT2 := hide ht2; clear hr2 hd2 ht2 HD1))
  go_ret2
  obtain ⟨q1, q2⟩ := handed_new w0 w2 S X c b _ d HD2.out x.bs HPO.out
  exact ⟨_, rfl, q1, (HT1.out.trans HT2.out).trans q2⟩
end

end Go.Proofs.YtoplhehcjgldeaaGreat
