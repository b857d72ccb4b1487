/- Contracts: meet, exists, Get. -/
import Derived.Test.YtoplhehcjgldeaaCAct
namespace Go.Proofs.Ytoplhehcjgldeaa
open Go.RowKit
set_option linter.unusedVariables false
set_option maxRecDepth 100000

theorem meetC_st (c : Ch) (d : Dv) (p : Nat) : (meetC c d p).2.2.st = d.st := by
  unfold meetC
  split
  · rfl
  · exact roomC_st _ _

section
variable (w0 w : World) (S X : Nat → Prop) (c b : Nat) (ch : Ch) (d : Dv)

theorem exists_any (h : Duos w0 S X w c b ch d) (p : Int) :
    Calls Try.prog 30 #[dp c, .int .i64 p] w fun e w' => e = .returned (.bool (decide (0 ≤ p ∧ p < d.st.length))) ∧ w' = w := by
  obtain ⟨H, G, ⟨mb, vo, D, sl, h1⟩, h2, h3, h4, h5, h6, h7⟩ := h
  have c0 := h1.blk.c0
  have HP := hide (pages_any w b G d h2)
  clear h1 h2 h3 h4 h5 h6 h7
  by_cases h0 : 0 ≤ p
  · go_enter Try.func30, Try.ntmps30
    go_wp2_with (go_at_call 27; refine HP.out.mono ?_; rintro e w1 ⟨rfl, hw⟩; subst w1; clear HP)
    go_ret
    exact ⟨ret_bool (by simp [h0]), rfl⟩
  · go_enter Try.func30, Try.ntmps30
    go_wp2_with (go_at_call 27; refine HP.out.mono ?_; rintro e w1 ⟨rfl, hw⟩; subst w1; clear HP)
    go_ret
    exact ⟨ret_bool (by rw [decide_eq_false (show ¬ 0 ≤ p by omega)]; rfl), rfl⟩

theorem duos_hit (h : Duos w0 S X w c b ch d) : Duos w0 S X (w.setCell ⟨c, 4, none⟩ (.int .i64 ((ch.hits : Int) + 1))) c b { ch with hits := ch.hits + 1 } d ∧ Turn w0 S X w (w.setCell ⟨c, 4, none⟩ (.int .i64 ((ch.hits : Int) + 1))) := by
  obtain ⟨H, G, ⟨mb, vo, D, sl, h1⟩, h2, h3, h4, h5, h6, h7⟩ := h
  have ho : Only (· = c) w (w.setCell ⟨c, 4, none⟩ (.int .i64 ((ch.hits : Int) + 1))) := (Only.refl _ w).setCell ⟨c, 4, none⟩ _ (fun _ => rfl)
  have hc : ∀ k, k = c → H k := fun k e => e ▸ h1.fc
  refine ⟨duos_step (H' := H) (G' := G) h3 h4 h5 h6 ⟨mb, vo, D, sl, h1.turn ho (Blk.set h1.blk 4 (.int .i64 ((ch.hits : Int) + 1)))⟩ (h2.keep ho (fun k hg e => h3 k (hc k e) hg)) (ho.mono (fun k _ e => .inl (hc k e))) (fun _ h => .inl h) (fun _ h => .inl h) (fun k _ => h3 k) ⟨h7.lo, h7.hi, h7.few, h7.nodup, h7.pages⟩, turn_step h4 (ho.mono (fun k _ e => .inl (hc k e)))⟩
theorem duos_miss (h : Duos w0 S X w c b ch d) : Duos w0 S X (w.setCell ⟨c, 5, none⟩ (.int .i64 ((ch.misses : Int) + 1))) c b { ch with misses := ch.misses + 1 } d ∧ Turn w0 S X w (w.setCell ⟨c, 5, none⟩ (.int .i64 ((ch.misses : Int) + 1))) := by
  obtain ⟨H, G, ⟨mb, vo, D, sl, h1⟩, h2, h3, h4, h5, h6, h7⟩ := h
  have ho : Only (· = c) w (w.setCell ⟨c, 5, none⟩ (.int .i64 ((ch.misses : Int) + 1))) := (Only.refl _ w).setCell ⟨c, 5, none⟩ _ (fun _ => rfl)
  have hc : ∀ k, k = c → H k := fun k e => e ▸ h1.fc
  refine ⟨duos_step (H' := H) (G' := G) h3 h4 h5 h6 ⟨mb, vo, D, sl, h1.turn ho (Blk.set h1.blk 5 (.int .i64 ((ch.misses : Int) + 1)))⟩ (h2.keep ho (fun k hg e => h3 k (hc k e) hg)) (ho.mono (fun k _ e => .inl (hc k e))) (fun _ h => .inl h) (fun _ h => .inl h) (fun k _ => h3 k) ⟨h7.lo, h7.hi, h7.few, h7.nodup, h7.pages⟩, turn_step h4 (ho.mono (fun k _ e => .inl (hc k e)))⟩

theorem Few.miss {k : Nat} {ch : Ch} {d : Dv} (hf : Few k ch d) : Few (k + 1) { ch with misses := ch.misses + 1 } d := ⟨Nat.le_succ_of_le hf.hits, Nat.succ_le_succ hf.misses, fun x hx => Nat.le_succ_of_le (hf.pins x hx), Nat.le_succ_of_le hf.ws, Nat.le_succ_of_le hf.done⟩

theorem meet_any (k : Nat) (hk : k < 900000) (h : Duos w0 S X w c b ch d) (hf : Few k ch d) (p : Nat) (hp : p < d.st.length) :
    Calls Try.prog 31 #[dp c, .int .i64 p] w fun e w' => e = .returned (.int .i64 (meetC ch d p).1) ∧ Duos w0 S X w' c b (meetC ch d p).2.1 (meetC ch d p).2.2 ∧ Turn w0 S X w w' := by
  have hst := h.dvok.few
  obtain ⟨H, G, ⟨mb, vo, D, sl, h1⟩, _⟩ := id h
  have c4 := h1.blk.c4
  have f4 := Blk.frozen h1.blk 4
  have c5 := h1.blk.c5
  have f5 := Blk.frozen h1.blk 5
  have hh := hf.hits
  have hm := hf.misses
  cases hfi : findC ch.l p with
  | some x =>
    have HE : Hid (meetC ch d p = (0, { ch with hits := ch.hits + 1 }, d)) := by show _ = _; unfold meetC; rw [hfi]
    obtain ⟨hx, hxp⟩ := findC_some hfi
    have HA := hide (chas_yes w c b H ch.size (ordC ch.l) ch.l ch.hits ch.misses mb vo D sl h1 x hx)
    rw [hxp] at HA
    have HD := hide (duos_hit w0 w S X c b ch d h)
    clear h h1 hf hx hxp hfi
    go_enter Try.func31, Try.ntmps31
    go_wp2_with (go_at_call 19; refine HA.out.mono ?_; rintro e w1 ⟨rfl, hw⟩; subst w1; clear HA)
    go_ret
    rw [HE.out]
    exact ⟨rfl, HD.out.1, HD.out.2⟩
  | none =>
    have HE : Hid (meetC ch d p = roomC { ch with misses := ch.misses + 1 } d) := by show _ = _; unfold meetC; rw [hfi]
    have HA := hide (chas_no w c b H ch.size (ordC ch.l) ch.l ch.hits ch.misses mb vo D sl h1 p (wf_nat (by omega)) hfi)
    have HT := hide (duos_miss w0 w S X c b ch d h).2
    have HR := hide (room_any w0 _ S X c b _ d (k + 1) (by omega) (duos_miss w0 w S X c b ch d h).1 hf.miss)
    clear h h1 hf hfi
    go_enter Try.func31, Try.ntmps31
    go_wp2_with (first
      | (go_at_call 19; refine HA.out.mono ?_; rintro e w1 ⟨rfl, hw⟩; subst w1; clear HA)
      | (go_at_call 51; refine HR.out.mono ?_; rintro e w2 ⟨rfl, h2, ht2⟩; have HD := hide h2; have HT2 := hide ht2; clear HR h2 ht2))
    go_ret
    rw [HE.out]
    exact ⟨rfl, HD.out, HT.out.trans HT2.out⟩
end

end Go.Proofs.Ytoplhehcjgldeaa
