/- Contracts: Pin, Unpin, Forget, Held; cache.New. -/
import Derived.Test.YtoplhehcjgldeaaCPut
namespace Go.Proofs.Ytoplhehcjgldeaa
open Go.RowKit
set_option linter.unusedVariables false
set_option maxRecDepth 100000

def pinC (c : Ch) (p : Int) : Int × Ch := match findC c.l p with
  | none => (4, c)
  | some x => (0, { c with l := updC c.l x.p (fun y => { y with pins := x.pins + 1 }) })
def unpinC (c : Ch) (p : Int) : Int × Ch := match findC c.l p with
  | none => (4, c)
  | some x => if x.pins = 0 then (4, c) else (0, { c with l := updC c.l x.p (fun y => { y with pins := x.pins - 1 }) })
def forgetC (c : Ch) (p : Int) : Int × Ch := match findC c.l p with
  | none => (4, c)
  | some x => if x.pins = 0 then (0, { c with l := lessC c.l x.p }) else (7, c)

theorem ok_upd {n : Nat} {ch : Ch} (ok : ChOk n ch) (p : Nat) (f : Hd → Hd) (hf : ∀ x, (f x).p = x.p) (hb : ∀ x ∈ ch.l, PageOk (f x).bs) : ChOk n { ch with l := updC ch.l p f } := by
  refine ⟨ok.lo, ok.hi, by show (updC _ _ _).length ≤ _; rw [updC_len]; exact ok.few, by show ((updC _ _ _).map _).Nodup; rw [updC_pages _ _ _ hf]; exact ok.nodup, fun y hy => ?_⟩
  obtain ⟨x, hx, rfl⟩ := mem_updC hy
  split
  · rw [hf]; exact ⟨(ok.pages x hx).1, hb x hx⟩
  · exact ok.pages x hx
theorem ok_less {n : Nat} {ch : Ch} (ok : ChOk n ch) (p : Nat) : ChOk n { ch with l := lessC ch.l p } :=
  ⟨ok.lo, ok.hi, Nat.le_trans (lessC_sub _ _).length_le ok.few, lessC_nodup ok.nodup _, fun y hy => ok.pages y (mem_lessC.1 hy).1⟩

section
variable (w0 w : World) (S X : Nat → Prop) (c b : Nat) (ch : Ch) (d : Dv)

theorem duos_find (h : Duos w0 S X w c b ch d) (x : Hd) (hx : x ∈ ch.l) : ∃ s, (Calls Try.prog 44 #[dp c, .int .i64 x.p] w fun e w' => e = .returned (.tuple #[dp s, .int .i64 0]) ∧ w' = w) ∧ w.cell? ⟨s, 257, none⟩ = some (.int .i64 x.pins) ∧ w.frozen? ⟨s, 257, none⟩ = false ∧
    ∀ n : Nat, Duos w0 S X (w.setCell ⟨s, 257, none⟩ (.int .i64 n)) c b { ch with l := updC ch.l x.p (fun y => { y with pins := n }) } d ∧ Turn w0 S X w (w.setCell ⟨s, 257, none⟩ (.int .i64 n)) := by
  obtain ⟨H, G, ⟨mb, vo, D, sl, h1⟩, h2, h3, h4, h5, h6, h7⟩ := h
  have hB := h1.slots.slot x hx
  have hok := (h1.slots.ok x hx).2
  refine ⟨sl x.p, find_yes w c b H ch.size (ordC ch.l) ch.l ch.hits ch.misses mb vo D sl h1 x hx, (hB.cell 257).trans (sc_pins hok), hB.frozen _, fun n => ?_⟩
  have ho : Only (· = sl x.p) w (w.setCell ⟨sl x.p, 257, none⟩ (.int .i64 n)) := (Only.refl (· = sl x.p) w).setCell ⟨sl x.p, 257, none⟩ _ (fun _ => rfl)
  have hs : ∀ k, k = sl x.p → H k := fun k e => e ▸ h1.slots.fs x hx
  have hB4 := hB.set 257 (.int .i64 n)
  rw [sc_set_pins hok] at hB4
  have ho' : Only (fun k => H k ∨ G k) w (w.setCell ⟨sl x.p, 257, none⟩ (.int .i64 n)) := ho.mono (fun k _ e => .inl (hs k e))
  refine ⟨duos_step h3 h4 h5 h6 (ch' := { ch with l := updC ch.l x.p (fun y => { y with pins := n }) }) ?_ (h2.keep ho (fun k hg e => h3 k (hs k e) hg)) ho' (fun _ h => .inl h) (fun _ h => .inl h) (fun k _ => h3 k) (ok_upd h7 x.p _ (fun _ => rfl) (fun y hy => (h7.pages y hy).2)), turn_step h4 ho'⟩
  show CachH _ c b H ch.size (ordC (updC _ _ _)) _ _ _
  rw [ordC_updC _ _ (fun y => { y with pins := n }) (fun _ => rfl)]
  exact ⟨mb, vo, D, sl, h1.reslot x.p (fun y => { y with pins := n }) (fun _ => rfl) hx rfl ho hB4 hok⟩
theorem duos_find_no (h : Duos w0 S X w c b ch d) (p : Int) (hp : Wf p) (hn : findC ch.l p = none) : Calls Try.prog 44 #[dp c, .int .i64 p] w fun e w' => e = .returned (.tuple #[.pointer none, .int .i64 4]) ∧ w' = w := by
  obtain ⟨H, G, ⟨mb, vo, D, sl, h1⟩, _⟩ := h
  exact find_no w c b H ch.size (ordC ch.l) ch.l ch.hits ch.misses mb vo D sl h1 p hp hn
theorem duos_release (h : Duos w0 S X w c b ch d) (x : Hd) (hx : x ∈ ch.l) : Calls Try.prog 47 #[dp c, .int .i64 x.p] w fun e w' => e = .returned (.tuple #[]) ∧ Duos w0 S X w' c b { ch with l := lessC ch.l x.p } d ∧ Turn w0 S X w w' := by
  obtain ⟨H, G, ⟨mb, vo, D, sl, h1⟩, h2, h3, h4, h5, h6, h7⟩ := h
  refine (release_at w c b H ch.size (ordC ch.l) ch.l ch.hits ch.misses mb vo D sl h1 x hx).mono ?_
  rintro e w' ⟨rfl, k1, ho⟩
  rw [ordC_erase h7.nodup] at k1
  have ho' : Only (fun k => H k ∨ G k) w w' := ho.mono (fun _ _ h => .inl h)
  exact ⟨rfl, duos_step h3 h4 h5 h6 (ch' := { ch with l := lessC ch.l x.p }) k1 (h2.keep ho (fun k hg hh => h3 k hh hg)) ho' (fun _ h => .inl h) (fun _ h => .inl h) (fun k _ => h3 k) (ok_less h7 _), turn_step h4 ho'⟩

theorem pin_any (k : Nat) (hk : k < 900000) (h : Duos w0 S X w c b ch d) (hf : Few k ch d) (p : Int) (hp : Wf p) :
    Calls Try.prog 18 #[dp c, .int .i64 p] w fun e w' => e = .returned (.int .i64 (pinC ch p).1) ∧ Duos w0 S X w' c b (pinC ch p).2 d ∧ Turn w0 S X w w' := by
  unfold pinC
  cases hx : findC ch.l p with
  | none =>
    have HF := hide (duos_find_no w0 w S X c b ch d h p hp hx)
    have HD := hide h
    clear h hx hf hp
    go_enter Try.func18, Try.ntmps18
    go_wp2_with (go_at_call 44; refine HF.out.mono ?_; rintro e w1 ⟨rfl, hw⟩; subst w1; clear HF)
    go_ret
    exact ⟨rfl, HD.out, Turn.refl _ _ _ _⟩
  | some x =>
    obtain ⟨hxm, rfl⟩ := findC_some hx
    obtain ⟨s, h1, c257, f257, h4⟩ := duos_find w0 w S X c b ch d h x hxm
    have HF := hide h1
    have hpn := hf.pins x hxm
    have hq := h4 (x.pins + 1)
    rw [show ((x.pins + 1 : Nat) : Int) = (x.pins : Int) + 1 by omega] at hq
    have HQ := hide hq
    clear h h1 h4 hf hx hxm hp hq
    go_enter Try.func18, Try.ntmps18
    go_wp2_with (go_at_call 44; refine HF.out.mono ?_; rintro e w1 ⟨rfl, hw⟩; subst w1; clear HF)
    go_ret
    exact ⟨rfl, HQ.out.1, HQ.out.2⟩

theorem unpin_any (k : Nat) (hk : k < 900000) (h : Duos w0 S X w c b ch d) (hf : Few k ch d) (p : Int) (hp : Wf p) :
    Calls Try.prog 22 #[dp c, .int .i64 p] w fun e w' => e = .returned (.int .i64 (unpinC ch p).1) ∧ Duos w0 S X w' c b (unpinC ch p).2 d ∧ Turn w0 S X w w' := by
  unfold unpinC
  cases hx : findC ch.l p with
  | none =>
    have HF := hide (duos_find_no w0 w S X c b ch d h p hp hx)
    have HD := hide h
    clear h hx hf hp
    go_enter Try.func22, Try.ntmps22
    go_wp2_with (go_at_call 44; refine HF.out.mono ?_; rintro e w1 ⟨rfl, hw⟩; subst w1; clear HF)
    go_ret
    exact ⟨rfl, HD.out, Turn.refl _ _ _ _⟩
  | some x =>
    obtain ⟨hxm, rfl⟩ := findC_some hx
    obtain ⟨s, h1, c257, f257, h4⟩ := duos_find w0 w S X c b ch d h x hxm
    have HF := hide h1
    have hpn := hf.pins x hxm
    have HD := hide h
    by_cases h0 : x.pins = 0
    · rw [h0] at c257
      clear h h1 h4 hf hx hxm hp hpn
      simp only [if_pos h0]
      go_enter Try.func22, Try.ntmps22
      go_wp2_with (go_at_call 44; refine HF.out.mono ?_; rintro e w1 ⟨rfl, hw⟩; subst w1; clear HF)
      go_ret
      exact ⟨rfl, HD.out, Turn.refl _ _ _ _⟩
    · have hq := h4 (x.pins - 1)
      rw [show ((x.pins - 1 : Nat) : Int) = (x.pins : Int) - 1 by omega] at hq
      have HQ := hide hq
      have h0' : (x.pins : Int) ≠ 0 := by omega
      clear h h1 h4 hf hx hxm hp hq
      simp only [if_neg h0]
      go_enter Try.func22, Try.ntmps22
      go_wp2_with (go_at_call 44; refine HF.out.mono ?_; rintro e w1 ⟨rfl, hw⟩; subst w1; clear HF)
      go_ret
      exact ⟨rfl, HQ.out.1, HQ.out.2⟩

theorem forget_any (h : Duos w0 S X w c b ch d) (p : Int) (hp : Wf p) :
    Calls Try.prog 21 #[dp c, .int .i64 p] w fun e w' => e = .returned (.int .i64 (forgetC ch p).1) ∧ Duos w0 S X w' c b (forgetC ch p).2 d ∧ Turn w0 S X w w' := by
  unfold forgetC
  cases hx : findC ch.l p with
  | none =>
    have HF := hide (duos_find_no w0 w S X c b ch d h p hp hx)
    have HD := hide h
    clear h hx hp
    go_enter Try.func21, Try.ntmps21
    go_wp2_with (go_at_call 44; refine HF.out.mono ?_; rintro e w1 ⟨rfl, hw⟩; subst w1; clear HF)
    go_ret
    exact ⟨rfl, HD.out, Turn.refl _ _ _ _⟩
  | some x =>
    obtain ⟨hxm, rfl⟩ := findC_some hx
    obtain ⟨s, h1, c257, f257, h4⟩ := duos_find w0 w S X c b ch d h x hxm
    have HF := hide h1
    have HD := hide h
    have HR := hide (duos_release w0 w S X c b ch d h x hxm)
    by_cases h0 : x.pins = 0
    · rw [h0] at c257
      clear h h1 h4 hx hxm hp
      simp only [if_pos h0]
      go_enter Try.func21, Try.ntmps21
      go_wp2_with (first
        | (go_at_call 44; refine HF.out.mono ?_; rintro e w1 ⟨rfl, hw⟩; subst w1; clear HF)
        | (go_at_call 47; refine HR.out.mono ?_; rintro e w1 ⟨rfl, hd1, ht1⟩; have HD1 := hide hd1; have HT1 := hide ht1; clear HR hd1 ht1))
      go_ret
      exact ⟨rfl, HD1.out, HT1.out⟩
    · have h0' : (0 : Int) < (x.pins : Int) := by omega
      clear h h1 h4 hx hxm hp
      simp only [if_neg h0]
      go_enter Try.func21, Try.ntmps21
      go_wp2_with (go_at_call 44; refine HF.out.mono ?_; rintro e w1 ⟨rfl, hw⟩; subst w1; clear HF)
      go_ret
      exact ⟨rfl, HD.out, Turn.refl _ _ _ _⟩

theorem held_any (h : Duos w0 S X w c b ch d) :
    Calls Try.prog 20 #[dp c] w fun e w' => ∃ v, e = .returned v ∧ Ints w' w.heap.size v (ch.l.map (fun h => (h.p : Int))) ∧ Below w.heap.size w w' := by
  obtain ⟨H, G, ⟨mb, vo, D, sl, h1⟩, h2, h3, h4, h5, h6, h7⟩ := h
  have HM := hide (cmade_any w c b h1.blk.c0)
  have c3 := h1.blk.c3
  have h8 := h7.hi
  have h9 := h7.few
  have HC := hide (clone_any w 0 vo (ordC ch.l) h1.order (by rw [ordC_len]; omega))
  have HE : Hid ((ordC ch.l).reverse = ch.l.map (fun h => (h.p : Int))) := by show _ = _; unfold ordC; rw [List.reverse_reverse]
  clear h1 h2 h3 h4 h5 h6 h7
  go_enter Try.func20, Try.ntmps20
  go_wp2_with (first
    | (go_at_call 29; refine HM.out.mono ?_; rintro e w1 ⟨rfl, hw⟩; subst w1; clear HM)
    | (go_at_call 45; refine HC.out.mono ?_; rintro e w1 ⟨v1, rfl, hi1, hb1⟩; have HI1 := hide hi1; have HB1 := hide hb1; clear HC hi1 hb1)
    | (go_at_call 46; refine (reverse_any w1 w.heap.size v1 _ HI1.out).mono ?_; rintro e w2 ⟨rfl, hi2, ho2⟩; have HI2 := hide hi2; have HO2 := hide ho2; clear hi2 ho2))
  go_ret
  rw [HE.out] at HI2
  refine ⟨_, rfl, HI2.out, HB1.out.trans (HO2.out.below HB1.out.size (fun k hk e => ?_))⟩
  have := (HI1.out.lt k e).1
  omega
end

end Go.Proofs.Ytoplhehcjgldeaa
