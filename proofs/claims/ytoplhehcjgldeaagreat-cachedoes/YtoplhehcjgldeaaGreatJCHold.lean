/- Contracts: what is held anew, at the level of the pair: hold, the mark, use. -/
import Derived.Test.YtoplhehcjgldeaaGreatJCRoom
namespace Go.Proofs.YtoplhehcjgldeaaGreat
open Go.RowKit
set_option linter.unusedVariables false
set_option maxRecDepth 100000

/-- as Duos, with an order of use that may lag behind -/
def DuosP (w0 : World) (S X : Nat → Prop) (w : World) (c b : Nat) (size : Nat) (os : List Int) (l : List Hd) (hits misses : Nat) (d : Dv) : Prop :=
  ∃ H G, CachH w c b H size os l hits misses ∧ Dev w b G d ∧ (∀ k, H k → G k → False) ∧ (∀ k, H k ∨ G k → (S k ∨ w0.heap.size ≤ k) ∧ ¬ X k ∧ k < w.heap.size) ∧ (∀ k, X k → k < w.heap.size) ∧ Only S w0 w
theorem Duos.p {w0 w : World} {S X : Nat → Prop} {c b : Nat} {ch : Ch} {d : Dv} (h : Duos w0 S X w c b ch d) : DuosP w0 S X w c b ch.size (ordC ch.l) ch.l ch.hits ch.misses d := by
  obtain ⟨H, G, h1, h2, h3, h4, h5, h6, h7⟩ := h
  exact ⟨H, G, h1, h2, h3, h4, h5, h6⟩
theorem DuosP.duos {w0 w : World} {S X : Nat → Prop} {c b : Nat} {ch : Ch} {d : Dv} (h : DuosP w0 S X w c b ch.size (ordC ch.l) ch.l ch.hits ch.misses d) (ok : ChOk d.st.length ch) : Duos w0 S X w c b ch d := by
  obtain ⟨H, G, h1, h2, h3, h4, h5, h6⟩ := h
  exact ⟨H, G, h1, h2, h3, h4, h5, h6, ok⟩

section
variable {w0 w w' : World} {S X : Nat → Prop} {c b : Nat} {d d' : Dv} {H G H' G' : Nat → Prop} {size hits misses : Nat} {os : List Int} {l : List Hd}
theorem duosP_step (hap : ∀ k, H k → G k → False) (hin : ∀ k, H k ∨ G k → (S k ∨ w0.heap.size ≤ k) ∧ ¬ X k ∧ k < w.heap.size) (hX : ∀ k, X k → k < w.heap.size) (hS : Only S w0 w)
    (hC : CachH w' c b H' size os l hits misses) (hD : Dev w' b G' d') (ho : Only (fun k => H k ∨ G k) w w') (hH : ∀ k, H' k → H k ∨ w.heap.size ≤ k) (hG : ∀ k, G' k → G k ∨ w.heap.size ≤ k) (hap' : ∀ k, k < w'.heap.size → H' k → G' k → False) : DuosP w0 S X w' c b size os l hits misses d' := by
  have hs := ho.size
  have hs0 := hS.size
  refine ⟨fun k => H' k ∧ k < w'.heap.size, fun k => G' k ∧ k < w'.heap.size, hC.bound, hD.bound, fun k h1 h2 => hap' k h1.2 h1.1 h2.1, fun k hk => ?_, fun k hk => Nat.lt_of_lt_of_le (hX k hk) hs, hS.trans ho (fun k hk h => ?_)⟩
  · have hk2 : k < w'.heap.size := hk.elim (fun h => h.2) (fun h => h.2)
    have hk3 : (H k ∨ G k) ∨ w.heap.size ≤ k := by
      rcases hk with h | h
      · rcases hH k h.1 with h | h
        · exact .inl (.inl h)
        · exact .inr h
      · rcases hG k h.1 with h | h
        · exact .inl (.inr h)
        · exact .inr h
    rcases hk3 with h | h
    · exact ⟨(hin k h).1, (hin k h).2.1, hk2⟩
    · exact ⟨.inr (by omega), fun hx => by have := hX k hx; omega, hk2⟩
  · rcases (hin k h).1 with h | h
    · exact h
    · omega
end

section
variable (w0 w : World) (S X : Nat → Prop) (c b : Nat) (size : Nat) (os : List Int) (l : List Hd) (hits misses : Nat) (d : Dv)

theorem holdP_new (h : DuosP w0 S X w c b size os l hits misses d) (p : Nat) (hp : p < 1000000) (hl : l.length < 1000) (hn : findC l p = none) (v : Value) (zs : List Int) (hS : Sl w v zs) (hz : zs.length = 256) (hv : ∀ k, v.ownBlock = some k → X k) :
    Calls Tryz.prog 56 #[dp c, .int .i64 p, v] w fun e w' => e = .returned (.tuple #[]) ∧ DuosP w0 S X w' c b size os (⟨p, zs, false, 0⟩ :: l) hits misses d ∧ Turn w0 S X w w' := by
  obtain ⟨H, G, ⟨mb, vo, D, sl, h1⟩, h2, h3, h4, h5, h6⟩ := h
  refine (hold_new w c b H size os l hits misses mb vo D sl h1 p hp hl hn v zs hS hz (fun k hk hh => (h4 k (.inl hh)).2.1 (hv k hk))).mono ?_
  rintro e w' ⟨rfl, k1, ho⟩
  have ho' : Only (fun k => H k ∨ G k) w w' := ho.mono (fun _ _ h => .inl h)
  refine ⟨rfl, duosP_step h3 h4 h5 h6 k1 (h2.keep ho (fun k hg hh => h3 k hh hg)) ho' (fun _ h => h) (fun _ h => .inl h) (fun k _ hh hg => ?_), turn_step h4 ho'⟩
  rcases hh with hh | hh
  · exact h3 k hh hg
  · have := (h4 k (.inr hg)).2.2; omega
theorem holdP_old (h : DuosP w0 S X w c b size os l hits misses d) (x : Hd) (hx : x ∈ l) (v : Value) (zs : List Int) (hS : Sl w v zs) (hz : zs.length = 256) :
    Calls Tryz.prog 56 #[dp c, .int .i64 x.p, v] w fun e w' => e = .returned (.tuple #[]) ∧ DuosP w0 S X w' c b size os (updC l x.p (fun y => { y with bs := zs })) hits misses d ∧ Turn w0 S X w w' := by
  obtain ⟨H, G, ⟨mb, vo, D, sl, h1⟩, h2, h3, h4, h5, h6⟩ := h
  refine (hold_old w c b H size os l hits misses mb vo D sl h1 x hx v zs hS hz).mono ?_
  rintro e w' ⟨rfl, k1, ho⟩
  have ho' : Only (fun k => H k ∨ G k) w w' := ho.mono (fun _ _ h => .inl h)
  exact ⟨rfl, duosP_step h3 h4 h5 h6 ⟨_, _, _, _, k1⟩ (h2.keep ho (fun k hg hh => h3 k hh hg)) ho' (fun _ h => .inl h) (fun _ h => .inl h) (fun k _ => h3 k), turn_step h4 ho'⟩
/-- the mark that a page is changed -/
theorem markP (h : DuosP w0 S X w c b size os l hits misses d) (x : Hd) (hx : x ∈ l) : ∃ mb s, w.cell? ⟨c, 2, none⟩ = some (.map (some mb)) ∧ (Instr.lookup 61 (.map (some mb)) (.int .i64 x.p) false).run Tryz.prog w = .ok (dp s) w ∧ w.cell? ⟨s, 256, none⟩ = some (.bool x.ch) ∧ w.frozen? ⟨s, 256, none⟩ = false ∧
    ∀ y, DuosP w0 S X (w.setCell ⟨s, 256, none⟩ (.bool y)) c b size os (updC l x.p (fun z => { z with ch := y })) hits misses d ∧ Turn w0 S X w (w.setCell ⟨s, 256, none⟩ (.bool y)) := by
  obtain ⟨H, G, ⟨mb, vo, D, sl, h1⟩, h2, h3, h4, h5, h6⟩ := h
  have hB := h1.slots.slot x hx
  have hok := (h1.slots.ok x hx).2
  refine ⟨mb, sl x.p, h1.blk.c2, h1.slots.look hx, (hB.cell 256).trans (sc_ch hok), hB.frozen _, fun y => ?_⟩
  have ho : Only (· = sl x.p) w (w.setCell ⟨sl x.p, 256, none⟩ (.bool y)) := (Only.refl (· = sl x.p) w).setCell ⟨sl x.p, 256, none⟩ _ (fun _ => rfl)
  have hs : ∀ k, k = sl x.p → H k := fun k e => e ▸ h1.slots.fs x hx
  have hB4 := hB.set 256 (.bool y)
  rw [sc_set_ch hok] at hB4
  have ho' : Only (fun k => H k ∨ G k) w (w.setCell ⟨sl x.p, 256, none⟩ (.bool y)) := ho.mono (fun k _ e => .inl (hs k e))
  exact ⟨duosP_step h3 h4 h5 h6 ⟨mb, vo, D, sl, h1.reslot x.p (fun z => { z with ch := y }) (fun _ => rfl) hx rfl ho hB4 hok⟩ (h2.keep ho (fun k hg e => h3 k (hs k e) hg)) ho' (fun _ h => .inl h) (fun _ h => .inl h) (fun k _ => h3 k), turn_step h4 ho'⟩
theorem useP (h : DuosP w0 S X w c b size os l hits misses d) (p : Nat) (l' : List Hd) (he : os.erase p ++ [(p : Int)] = ordC l') (hl : l'.length ≤ 64) (hm : ∀ x, x ∈ l' ↔ x ∈ l) (hll : l'.length = l.length) (hn : (l'.map (·.p)).Nodup) :
    Calls Tryz.prog 57 #[dp c, .int .i64 p] w fun e w' => e = .returned (.tuple #[]) ∧ DuosP w0 S X w' c b size (ordC l') l' hits misses d ∧ Turn w0 S X w w' := by
  obtain ⟨H, G, ⟨mb, vo, D, sl, h1⟩, h2, h3, h4, h5, h6⟩ := h
  refine (use_any w c b H G os l hits misses mb vo D sl size h1 p l' he hl hm hll hn).mono ?_
  rintro e w' ⟨rfl, ⟨vo', k1⟩, ho⟩
  have ho' : Only (fun k => H k ∨ G k) w w' := ho.mono (fun _ _ h => .inl h)
  refine ⟨rfl, duosP_step h3 h4 h5 h6 ⟨mb, vo', D, sl, k1⟩ (h2.keep ho (fun k hg hh => h3 k hh hg)) ho' (fun _ h => h) (fun _ h => .inl h) (fun k _ hh hg => ?_), turn_step h4 ho'⟩
  rcases hh with hh | hh
  · exact h3 k hh hg
  · have := (h4 k (.inr hg)).2.2; omega
end

theorem updC_updC (l : List Hd) (p : Nat) (f g : Hd → Hd) (hf : ∀ x, (f x).p = x.p) : updC (updC l p f) p g = updC l p (fun x => g (f x)) := by
  unfold updC
  rw [List.map_map]
  apply List.map_congr_left
  intro x _
  show (if (if x.p = p then f x else x).p = p then g (if x.p = p then f x else x) else (if x.p = p then f x else x)) = _
  by_cases hx : x.p = p
  · rw [if_pos hx, if_pos ((hf x).trans hx), if_pos hx]
  · rw [if_neg hx, if_neg hx, if_neg hx]
theorem mem_use_upd {l : List Hd} (hn : (l.map (·.p)).Nodup) {x : Hd} (hx : x ∈ l) (f : Hd → Hd) (hf : ∀ y, (f y).p = y.p) (y : Hd) : y ∈ useC l (f x) ↔ y ∈ updC l x.p f := by
  rw [mem_useC, hf x]
  constructor
  · rintro (rfl | ⟨h1, h2⟩)
    · exact List.mem_map.2 ⟨x, hx, if_pos rfl⟩
    · exact List.mem_map.2 ⟨y, h1, if_neg h2⟩
  · intro h
    obtain ⟨z, hz, e⟩ := mem_updC h
    by_cases hzx : z.p = x.p
    · obtain rfl := nodup_inj hn hz hx hzx
      rw [if_pos rfl] at e
      exact .inl e
    · rw [if_neg hzx] at e
      rw [e]
      exact .inr ⟨hz, hzx⟩
theorem ordC_updC (l : List Hd) (p : Nat) (f : Hd → Hd) (hf : ∀ x, (f x).p = x.p) : ordC (updC l p f) = ordC l := by
  have h1 : ∀ m : List Hd, m.map (fun h => (h.p : Int)) = (m.map (·.p)).map (fun n : Nat => (n : Int)) := fun m => by simp
  unfold ordC
  rw [h1, updC_pages l p f hf, ← h1]

end Go.Proofs.YtoplhehcjgldeaaGreat
/- Contracts: Get, all of it. -/
namespace Go.Proofs.YtoplhehcjgldeaaGreat
open Go.RowKit
set_option linter.unusedVariables false
set_option maxRecDepth 100000

theorem ok_new {n : Nat} {ch : Ch} (ok : ChOk n ch) (hl : ch.l.length < ch.size) {x : Hd} (hp : x.p < n) (hb : PageOk x.bs) (hn : findC ch.l x.p = none) : ChOk n { ch with l := x :: ch.l } := by
  refine ⟨ok.lo, ok.hi, by show (x :: ch.l).length ≤ ch.size; rw [List.length_cons]; omega, ?_, fun y hy => ?_⟩
  · show ((x :: ch.l).map (·.p)).Nodup
    rw [List.map_cons, List.nodup_cons]
    refine ⟨fun hm => ?_, ok.nodup⟩
    obtain ⟨y, hy, e⟩ := List.mem_map.1 hm
    exact findC_none hn y hy (by omega)
  · rcases List.mem_cons.1 hy with rfl | hy
    · exact ⟨hp, hb⟩
    · exact ok.pages y hy

/-- a page by its block, as a slice of bytes that is read -/
theorem blk_sl {w : World} {g : Nat} {e : TypeId} {zs : List Int} (h : Blk w g e (pc zs)) (hz : PageOk zs) : Sl w (.slice (some ⟨g, 0, none⟩) 256 256) zs := by
  have := sl_range (cap := 256) (h.range 0 (pc zs) (fun j _ => by rw [Nat.zero_add])) hz.2 (by rw [hz.1]; omega) (by unfold maxLen; omega)
  rwa [hz.1] at this

section
variable (w0 w : World) (S X : Nat → Prop) (c b : Nat) (ch : Ch) (d : Dv)

theorem duos_dev (h : Duos w0 S X w c b ch d) : ∃ G, Dev w b G d := by obtain ⟨_, G, _, h, _⟩ := h; exact ⟨G, h⟩
theorem duos_c0 (h : Duos w0 S X w c b ch d) : w.cell? ⟨c, 0, none⟩ = some (dp b) := by obtain ⟨H, G, ⟨mb, vo, D, sl, h1⟩, _⟩ := h; exact h1.blk.c0

theorem get_dark (k : Nat) (hk : k < 900000) (h : Duos w0 S X w c b ch d) (hf : Few k ch d) (p : Nat) (hp : p < d.st.length) (hx : findC ch.l p = none) (he : (roomC { ch with misses := ch.misses + 1 } d).1 = 0) (hoff : (roomC { ch with misses := ch.misses + 1 } d).2.2.off = true) :
    Calls Tryz.prog 18 #[dp c, .int .i64 p] w fun e w' => e = .returned (.tuple #[.slice none 0 0, .int .i64 5]) ∧ Duos w0 S X w' c b (roomC { ch with misses := ch.misses + 1 } d).2.1 (roomC { ch with misses := ch.misses + 1 } d).2.2 ∧ Turn w0 S X w w' := by
  have HX := hide (exists_any w0 w S X c b ch d h p)
  rw [decide_eq_true (by omega)] at HX
  have HE := hide (meet_any w0 w S X c b ch d k hk h hf p hp)
  have em : meetC ch d p = roomC { ch with misses := ch.misses + 1 } d := by unfold meetC; rw [hx]
  rw [em] at HE
  have HM := hide (cmade_any w c b (duos_c0 w0 w S X c b ch d h))
  have hst := h.dvok.few
  have HF : Hid (findC (roomC { ch with misses := ch.misses + 1 } d).2.1.l p = none) := roomC_find (c := { ch with misses := ch.misses + 1 }) hx
  have HP : Hid ((0 : Int) ≤ p ∧ (p : Int) < (roomC { ch with misses := ch.misses + 1 } d).2.2.st.length) := by show _ ∧ _; rw [roomC_st]; omega
  have HW := hide (wf_nat (p := p) (by omega))
  clear h hp hf hx em
  generalize roomC { ch with misses := ch.misses + 1 } d = R at *
  obtain ⟨E, ch', d'⟩ := R
  simp only at he hoff HE HF HP ⊢
  subst he
  have HOF := hide hoff
  clear hoff
  go_enter Tryz.func18, Tryz.ntmps18
  go_wp2_with (first
    | (go_at_call 53; refine HM.out.mono ?_; rintro e w1 ⟨rfl, hw⟩; subst w1; clear HM)
    | (go_at_call 54; refine HX.out.mono ?_; rintro e w1 ⟨rfl, hw⟩; subst w1; clear HX)
    | (go_at_call 55; refine HE.out.mono ?_; rintro e w1 ⟨rfl, hd1, ht1⟩; have c01 := duos_c0 w0 w1 S X c b _ _ hd1; obtain ⟨G1, hg1⟩ := duos_dev w0 w1 S X c b _ _ hd1; have HG1 := hide hg1; have HD1 := hide hd1; have HT1 := hide ht1; clear HE hd1 ht1 hg1)
    | (go_at_call 46; refine (duos_hasnt w0 w1 S X c b _ _ HD1.out p HW.out HF.out).mono ?_; rintro e w2 ⟨rfl, hw⟩; subst w2)
    | (go_at_call 13; refine (read_off w1 b G1 d' p HG1.out HP.out HOF.out).mono ?_; rintro e w2 ⟨rfl, hw⟩; subst w2))
  go_ret2
  exact ⟨rfl, HD1.out, HT1.out⟩

set_option maxHeartbeats 1000000 in
theorem get_new (k : Nat) (hk : k < 900000) (h : Duos w0 S X w c b ch d) (hf : Few k ch d) (p : Nat) (hp : p < d.st.length) (hx : findC ch.l p = none) (he : (roomC { ch with misses := ch.misses + 1 } d).1 = 0) (hon : (roomC { ch with misses := ch.misses + 1 } d).2.2.off = false) :
    Calls Tryz.prog 18 #[dp c, .int .i64 p] w fun e w' => ∃ v, e = .returned (.tuple #[v, .int .i64 0]) ∧ Handed w0 S X w' c b v 0 (showsD (roomC { ch with misses := ch.misses + 1 } d).2.2 p) { (roomC { ch with misses := ch.misses + 1 } d).2.1 with l := ⟨p, showsD (roomC { ch with misses := ch.misses + 1 } d).2.2 p, false, 0⟩ :: (roomC { ch with misses := ch.misses + 1 } d).2.1.l } (roomC { ch with misses := ch.misses + 1 } d).2.2 ∧ Turn w0 S X w w' := by
  have HX := hide (exists_any w0 w S X c b ch d h p)
  rw [decide_eq_true (by omega)] at HX
  have HE := hide (meet_any w0 w S X c b ch d k hk h hf p hp)
  have em : meetC ch d p = roomC { ch with misses := ch.misses + 1 } d := by unfold meetC; rw [hx]
  rw [em] at HE
  have HM := hide (cmade_any w c b (duos_c0 w0 w S X c b ch d h))
  have hst := h.dvok.few
  have HF : Hid (findC (roomC { ch with misses := ch.misses + 1 } d).2.1.l p = none) := roomC_find (c := { ch with misses := ch.misses + 1 }) hx
  have HP : Hid (p < (roomC { ch with misses := ch.misses + 1 } d).2.2.st.length) := by show _ < _; rw [roomC_st]; omega
  have HRM : Hid ((roomC { ch with misses := ch.misses + 1 } d).2.1.l.length < (roomC { ch with misses := ch.misses + 1 } d).2.1.size) := by
    show _ < _
    rw [(roomC_size { ch with misses := ch.misses + 1 } d).1]
    exact roomC_room (n := d.st.length) ⟨h.ok.lo, h.ok.hi, h.ok.few, h.ok.nodup, h.ok.pages⟩ he
  have HW := hide (wf_nat (p := p) (by omega))
  clear h hp hf hx em
  generalize roomC { ch with misses := ch.misses + 1 } d = R at *
  obtain ⟨E, ch', d'⟩ := R
  simp only at he hon HE HF HP HRM ⊢
  subst he
  have HON := hide hon
  clear hon
  have hza := zeroArrRun
  obtain ⟨bs, hbs⟩ : ∃ bs, showsD d' p = bs := ⟨_, rfl⟩
  have HBS := hide hbs
  rw [hbs]
  clear hbs
  go_enter Tryz.func18, Tryz.ntmps18
  go_wp2_with (first
    | ((with_reducible refine wpList_load_mid rfl 84 (.tmp 55) rfl s4 0 ?_ (pc bs) _ HR.out Tryz.underlying84 rfl HZ1.out ?_); exact rfl)
    | ((with_reducible refine wpList_store_new rfl 84 (.tmp 9) (.tmp 56) rfl pageZero (pc bs).toArray 84 ?_ ?_ HZ3.out HZ2.out HZ4.out ?_); exact rfl; exact rfl)
    | (go_at_call 53; refine HM.out.mono ?_; rintro e w1 ⟨rfl, hw⟩; subst w1; clear HM)
    | (go_at_call 54; refine HX.out.mono ?_; rintro e w1 ⟨rfl, hw⟩; subst w1; clear HX)
    | (go_at_call 55; refine HE.out.mono ?_; rintro e w1 ⟨rfl, hd1, ht1⟩; have c01 := duos_c0 w0 w1 S X c b _ _ hd1; obtain ⟨G1, hg1⟩ := duos_dev w0 w1 S X c b _ _ hd1; have HPO : Hid (PageOk bs) := HBS.out ▸ hd1.dvok.shows HP.out; obtain ⟨z1, z2, z3, z4⟩ := arr_facts HPO.out; have HZ1 := hide z1; have HZ2 := hide z2; have HZ3 := hide z3; have HZ4 := hide z4; have HG1 := hide hg1; have HD1 := hide hd1; have HT1 := hide ht1; clear HE hd1 ht1 hg1 z1 z2 z3 z4)
    | (go_at_call 46; refine (duos_hasnt w0 w1 S X c b _ _ HD1.out p HW.out HF.out).mono ?_; rintro e w2 ⟨rfl, hw⟩; subst w2)
    | (go_at_call 13; refine (read_ok w1 b G1 d' p HG1.out HP.out HON.out).mono ?_; rintro e w2 ⟨rfl, hb2, hl2⟩; rw [HBS.out] at hb2; have HB2 := hide hb2; have HD2 := hide (HD1.out.grow hl2); have HT2 : Hid (Turn w0 S X w1 w2) := Turn.of_below hl2; clear hb2 hl2)
    | (go_at_call 56; refine (holdP_new w0 w2 S _ c b _ _ _ _ _ _ HD2.out.p p (by have := HP.out; have := HD2.out.dvok.few; omega) (by have := HRM.out; have := HD2.out.ok.hi; omega) HF.out _ bs (blk_sl HB2.out HPO.out) HPO.out.1 (fun k hk => by simp [Value.ownBlock] at hk; subst hk; exact .inr ⟨Nat.le_refl _, HB2.out.lt⟩)).mono ?_; rintro e w3 ⟨rfl, hd3, ht3⟩; have HD3 := hide hd3; have HT3 : Hid (Turn w0 S X w2 w3) := ht3.mono (fun k _ h => ⟨h.1, fun hx => h.2 (.inl hx)⟩); clear hd3 ht3)
    | (go_at_call 57; refine (useP w0 w3 S _ c b _ _ _ _ _ _ HD3.out p (⟨p, bs, false, 0⟩ :: ch'.l) (by rw [← useC_new (h := ⟨p, bs, false, 0⟩) HF.out]; exact ordC_use HD2.out.ok.nodup ⟨p, bs, false, 0⟩) (by have := HRM.out; have := HD2.out.ok.hi; simp only [List.length_cons]; omega) (fun _ => Iff.rfl) rfl (ok_new (x := ⟨p, bs, false, 0⟩) HD2.out.ok HRM.out HP.out HPO.out HF.out).nodup).mono ?_; rintro e w4 ⟨rfl, hd4, ht4⟩; have hD4 : Duos w0 S X w4 c b { ch' with l := ⟨p, bs, false, 0⟩ :: ch'.l } d' := (DuosP.duos (ch := { ch' with l := ⟨p, bs, false, 0⟩ :: ch'.l }) hd4 (ok_new (x := ⟨p, bs, false, 0⟩) HD2.out.ok HRM.out HP.out HPO.out HF.out)).less (fun _ h => .inl h); have HT4 : Hid (Turn w0 S X w3 w4) := ht4.mono (fun k _ h => ⟨h.1, fun hx => h.2 (.inl hx)⟩); obtain ⟨mb4, s4, c24, hlk4, hr4⟩ := duos_look w0 w4 S X c b _ d' hD4 ⟨p, bs, false, 0⟩ (List.mem_cons_self ..); simp only at hlk4 hr4; have HR := hide hr4; have HD4 := hide hD4; clear hr4 hd4 ht4 hD4 HD3))
  go_ret2
  obtain ⟨q1, q2⟩ := handed_new w0 w4 S X c b _ d' HD4.out bs HPO.out
  exact ⟨_, rfl, q1, ((((HT1.out.trans HT2.out).trans HT3.out).trans HT4.out).trans q2)⟩

theorem get_any (k : Nat) (hk : k < 900000) (h : Duos w0 S X w c b ch d) (hf : Few k ch d) (p : Int) :
    Calls Tryz.prog 18 #[dp c, .int .i64 p] w fun e w' => ∃ v, e = .returned (.tuple #[v, .int .i64 (getC ch d p).1]) ∧ Handed w0 S X w' c b v (getC ch d p).1 (getC ch d p).2.1 (getC ch d p).2.2.1 (getC ch d p).2.2.2 ∧ Turn w0 S X w w' := by
  unfold getC
  by_cases hp : 0 ≤ p ∧ p < d.st.length
  · rw [if_pos hp]
    obtain ⟨P, rfl⟩ : ∃ P : Nat, p = (P : Int) := ⟨p.toNat, by omega⟩
    have hP : P < d.st.length := by omega
    simp only [Int.toNat_natCast]
    cases hx : findC ch.l (P : Int) with
    | some x => exact get_hit w0 w S X c b ch d k hk h hf P hP x hx
    | none =>
      simp only
      by_cases he : (roomC { ch with misses := ch.misses + 1 } d).1 = 0
      · rw [if_pos he]
        cases hoff : (roomC { ch with misses := ch.misses + 1 } d).2.2.off with
        | true =>
          rw [if_pos rfl]
          refine (get_dark w0 w S X c b ch d k hk h hf P hP hx he hoff).mono ?_
          rintro e w' ⟨rfl, h1, h2⟩
          exact ⟨_, rfl, .inr ⟨(show (5 : Int) ≠ 0 by decide), rfl, h1⟩, h2⟩
        | false =>
          rw [if_neg (by decide)]
          exact get_new w0 w S X c b ch d k hk h hf P hP hx he hoff
      · rw [if_neg he]
        have em : meetC ch d P = roomC { ch with misses := ch.misses + 1 } d := by unfold meetC; rw [hx]
        have key := get_no w0 w S X c b ch d k hk h hf P hP (by rw [em]; exact he)
        rw [em] at key
        refine key.mono ?_
        rintro e w' ⟨rfl, h1, h2⟩
        exact ⟨_, rfl, .inr ⟨he, rfl, h1⟩, h2⟩
  · rw [if_neg hp]
    refine (get_arg w0 w S X c b ch d h p hp).mono ?_
    rintro e w' ⟨rfl, rfl⟩
    exact ⟨_, rfl, .inr ⟨(show (1 : Int) ≠ 0 by decide), rfl, h⟩, Turn.refl _ _ _ _⟩
end

end Go.Proofs.YtoplhehcjgldeaaGreat
/- Contract: Put. -/
namespace Go.Proofs.YtoplhehcjgldeaaGreat
open Go.RowKit
set_option linter.unusedVariables false
set_option maxRecDepth 100000

def putC (c : Ch) (d : Dv) (p : Int) (zs : List Int) : Int × Ch × Dv :=
  if (0 ≤ p ∧ p < d.st.length) ∧ zs.length = 256 then match findC c.l p with
    | some h => (0, { c with l := useC c.l { h with bs := zs, ch := true }, hits := c.hits + 1 }, d)
    | none => if (roomC { c with misses := c.misses + 1 } d).1 = 0 then
        (0, { (roomC { c with misses := c.misses + 1 } d).2.1 with l := ⟨p.toNat, zs, true, 0⟩ :: (roomC { c with misses := c.misses + 1 } d).2.1.l }, (roomC { c with misses := c.misses + 1 } d).2.2)
        else roomC { c with misses := c.misses + 1 } d
  else (1, c, d)

section
variable (w0 w : World) (S X : Nat → Prop) (c b : Nat) (ch : Ch) (d : Dv)

theorem put_arg (h : Duos w0 S X w c b ch d) (p : Int) (v : Value) (zs : List Int) (hS : Sl w v zs) (hp : ¬ ((0 ≤ p ∧ p < d.st.length) ∧ zs.length = 256)) :
    Calls Tryz.prog 16 #[dp c, .int .i64 p, v] w fun e w' => e = .returned (.int .i64 1) ∧ w' = w := by
  have HX := hide (exists_any w0 w S X c b ch d h p)
  have HM := hide (cmade_any w c b (duos_c0 w0 w S X c b ch d h))
  obtain ⟨ao, cap, rfl⟩ := sl_form' hS
  clear h hS
  by_cases h1 : 0 ≤ p ∧ p < d.st.length
  · have hz : (zs.length : Int) ≠ 256 := fun e => hp ⟨h1, by omega⟩
    rw [decide_eq_true h1] at HX
    clear hp h1
    go_enter Tryz.func16, Tryz.ntmps16
    go_wp2_with (first
      | (go_at_call 53; refine HM.out.mono ?_; rintro e w1 ⟨rfl, hw⟩; subst w1; clear HM)
      | (go_at_call 54; refine HX.out.mono ?_; rintro e w1 ⟨rfl, hw⟩; subst w1; clear HX))
    go_ret
    exact ⟨rfl, rfl⟩
  · rw [decide_eq_false h1] at HX
    clear hp h1
    go_enter Tryz.func16, Tryz.ntmps16
    go_wp2_with (first
      | (go_at_call 53; refine HM.out.mono ?_; rintro e w1 ⟨rfl, hw⟩; subst w1; clear HM)
      | (go_at_call 54; refine HX.out.mono ?_; rintro e w1 ⟨rfl, hw⟩; subst w1; clear HX))
    go_ret
    exact ⟨rfl, rfl⟩

theorem put_no (k : Nat) (hk : k < 900000) (h : Duos w0 S X w c b ch d) (hf : Few k ch d) (p : Nat) (hp : p < d.st.length) (v : Value) (zs : List Int) (hS : Sl w v zs) (hz : zs.length = 256) (he : (meetC ch d p).1 ≠ 0) :
    Calls Tryz.prog 16 #[dp c, .int .i64 p, v] w fun e w' => e = .returned (.int .i64 (meetC ch d p).1) ∧ Duos w0 S X w' c b (meetC ch d p).2.1 (meetC ch d p).2.2 ∧ Turn w0 S X w w' := by
  have HX := hide (exists_any w0 w S X c b ch d h p)
  rw [decide_eq_true (by omega)] at HX
  have HE := hide (meet_any w0 w S X c b ch d k hk h hf p hp)
  have HM := hide (cmade_any w c b (duos_c0 w0 w S X c b ch d h))
  obtain ⟨ao, cap, rfl⟩ := sl_form' hS
  rw [hz]
  clear h hS hz hp hf
  generalize meetC ch d p = R at he HE ⊢
  go_enter Tryz.func16, Tryz.ntmps16
  go_wp2_with (first
    | (go_at_call 53; refine HM.out.mono ?_; rintro e w1 ⟨rfl, hw⟩; subst w1; clear HM)
    | (go_at_call 54; refine HX.out.mono ?_; rintro e w1 ⟨rfl, hw⟩; subst w1; clear HX)
    | (go_at_call 55; refine HE.out.mono ?_; rintro e w1 ⟨rfl, hd1, ht1⟩; have HD1 := hide hd1; have HT1 := hide ht1; clear HE hd1 ht1))
  go_ret
  exact ⟨rfl, HD1.out, HT1.out⟩

/-- the end of Put: the page is marked, and used -/
theorem put_end (size hits misses : Nat) (os : List Int) (l l' : List Hd) (h : DuosP w0 S X w c b size os l hits misses d) (x : Hd) (hx : x ∈ l) (he : os.erase x.p ++ [(x.p : Int)] = ordC l') (hl : l'.length ≤ 64) (hm : ∀ y, y ∈ l' ↔ y ∈ updC l x.p (fun z => { z with ch := true })) (hll : l'.length = l.length) (hn : (l'.map (·.p)).Nodup) :
    ∃ mb s, w.cell? ⟨c, 2, none⟩ = some (.map (some mb)) ∧ (Instr.lookup 61 (.map (some mb)) (.int .i64 x.p) false).run Tryz.prog w = .ok (dp s) w ∧ w.cell? ⟨s, 256, none⟩ = some (.bool x.ch) ∧ w.frozen? ⟨s, 256, none⟩ = false ∧
      Calls Tryz.prog 57 #[dp c, .int .i64 x.p] (w.setCell ⟨s, 256, none⟩ (.bool true)) fun e w' => e = .returned (.tuple #[]) ∧ DuosP w0 S X w' c b size (ordC l') l' hits misses d ∧ Turn w0 S X w w' := by
  obtain ⟨mb, s, h1, h2, h3, h4, h5⟩ := markP w0 w S X c b size os l hits misses d h x hx
  obtain ⟨k1, k2⟩ := h5 true
  refine ⟨mb, s, h1, h2, h3, h4, (useP w0 _ S X c b size os _ hits misses d k1 x.p l' he hl hm (by rw [hll, updC_len]) hn).mono ?_⟩
  rintro e w' ⟨rfl, q1, q2⟩
  exact ⟨rfl, q1, k2.trans q2⟩

set_option maxHeartbeats 1000000 in
theorem put_hit (k : Nat) (hk : k < 900000) (h : Duos w0 S X w c b ch d) (hf : Few k ch d) (p : Nat) (hp : p < d.st.length) (v : Value) (zs : List Int) (hS : Sl w v zs) (hz : zs.length = 256) (hv : ∀ j, v.ownBlock = some j → X j) (x : Hd) (hx : findC ch.l p = some x) :
    Calls Tryz.prog 16 #[dp c, .int .i64 p, v] w fun e w' => e = .returned (.int .i64 0) ∧ Duos w0 S X w' c b { ch with l := useC ch.l { x with bs := zs, ch := true }, hits := ch.hits + 1 } d ∧ Turn w0 S X w w' := by
  have HX := hide (exists_any w0 w S X c b ch d h p)
  rw [decide_eq_true (by omega)] at HX
  have HE := hide (meet_any w0 w S X c b ch d k hk h hf p hp)
  have em : meetC ch d p = (0, { ch with hits := ch.hits + 1 }, d) := by unfold meetC; rw [hx]
  rw [em] at HE
  have HM := hide (cmade_any w c b (duos_c0 w0 w S X c b ch d h))
  obtain ⟨hxm, hxp⟩ := findC_some hx
  have hxp' : x.p = p := by omega
  subst hxp'
  have HSL := hide hS
  obtain ⟨ao, cap, rfl⟩ := sl_form' hS
  have ok := h.ok
  have hul := useC_len ok.nodup { x with bs := zs, ch := true } hx
  have HOK2 : Hid (ChOk d.st.length { ch with l := useC ch.l { x with bs := zs, ch := true }, hits := ch.hits + 1 }) :=
    ⟨ok.lo, ok.hi, by show (useC _ _).length ≤ ch.size; rw [hul]; exact ok.few, useC_nodup ok.nodup _, fun y hy => by
      rcases mem_useC.1 hy with rfl | ⟨hy, _⟩
      · exact ⟨(ok.pages x hxm).1, hz, hS.1⟩
      · exact ok.pages y hy⟩
  have HPE : Hid (∀ w2, DuosP w0 S X w2 c b ch.size (ordC ch.l) (updC ch.l x.p (fun y => { y with bs := zs })) (ch.hits + 1) ch.misses d → ∃ mb s, w2.cell? ⟨c, 2, none⟩ = some (.map (some mb)) ∧ (Instr.lookup 61 (.map (some mb)) (.int .i64 x.p) false).run Tryz.prog w2 = .ok (dp s) w2 ∧ w2.cell? ⟨s, 256, none⟩ = some (.bool x.ch) ∧ w2.frozen? ⟨s, 256, none⟩ = false ∧
      Calls Tryz.prog 57 #[dp c, .int .i64 x.p] (w2.setCell ⟨s, 256, none⟩ (.bool true)) fun e w' => e = .returned (.tuple #[]) ∧ DuosP w0 S X w' c b ch.size (ordC (useC ch.l { x with bs := zs, ch := true })) (useC ch.l { x with bs := zs, ch := true }) (ch.hits + 1) ch.misses d ∧ Turn w0 S X w2 w') := by
    intro w2 h2
    have := ok.hi
    have := ok.few
    refine put_end w0 w2 S X c b d ch.size (ch.hits + 1) ch.misses (ordC ch.l) _ (useC ch.l { x with bs := zs, ch := true }) h2 { x with bs := zs } (List.mem_map.2 ⟨x, hxm, if_pos rfl⟩) (ordC_use ok.nodup { x with bs := zs, ch := true }) (by rw [hul]; omega) (fun y => ?_) (by rw [hul, updC_len]) (useC_nodup ok.nodup _)
    show _ ↔ y ∈ updC (updC ch.l x.p (fun y => { y with bs := zs })) x.p (fun z => { z with ch := true })
    rw [updC_updC ch.l x.p (fun y => { y with bs := zs }) (fun z => { z with ch := true }) (fun _ => rfl)]
    exact mem_use_upd ok.nodup hxm (fun z => { z with bs := zs, ch := true }) (fun _ => rfl) y
  have HXM := hide hxm
  have HV := hide hv
  have HZ := hide hz
  rw [hz] at HSL HV ⊢
  clear h hp hf hx hxm hxp em hS hz hv hul ok
  go_enter Tryz.func16, Tryz.ntmps16
  go_wp2_with (first
    | (go_at_call 53; refine HM.out.mono ?_; rintro e w1 ⟨rfl, hw⟩; subst w1; clear HM)
    | (go_at_call 54; refine HX.out.mono ?_; rintro e w1 ⟨rfl, hw⟩; subst w1; clear HX)
    | (go_at_call 55; refine HE.out.mono ?_; rintro e w1 ⟨rfl, hd1, ht1⟩; have HD1 := hide hd1; have HT1 := hide ht1; clear HE hd1 ht1)
    | (go_at_call 56; refine (holdP_old w0 w1 S X c b _ _ _ _ _ _ HD1.out.p x HXM.out _ zs (HSL.out.only HT1.out (fun j hj h => h.2 (HV.out j hj))) HZ.out).mono ?_; rintro e w2 ⟨rfl, hd2, ht2⟩; obtain ⟨mb2, s2, c22, hlk2, cs2, fs2, hu2⟩ := HPE.out w2 hd2; have HU := hide hu2; have HT2 := hide ht2; clear hu2 hd2 ht2 HD1 HPE)
    | (go_at_call 57; refine HU.out.mono ?_; rintro e w3 ⟨rfl, hd3, ht3⟩; have HD3 := hide hd3; have HT3 := hide ht3; clear HU hd3 ht3))
  go_ret
  exact ⟨rfl, DuosP.duos (ch := { ch with l := useC ch.l { x with bs := zs, ch := true }, hits := ch.hits + 1 }) HD3.out HOK2.out, (HT1.out.trans HT2.out).trans HT3.out⟩

set_option maxHeartbeats 1000000 in
theorem put_new (k : Nat) (hk : k < 900000) (h : Duos w0 S X w c b ch d) (hf : Few k ch d) (p : Nat) (hp : p < d.st.length) (v : Value) (zs : List Int) (hS : Sl w v zs) (hz : zs.length = 256) (hv : ∀ j, v.ownBlock = some j → X j) (hx : findC ch.l p = none) (he : (roomC { ch with misses := ch.misses + 1 } d).1 = 0) :
    Calls Tryz.prog 16 #[dp c, .int .i64 p, v] w fun e w' => e = .returned (.int .i64 0) ∧ Duos w0 S X w' c b { (roomC { ch with misses := ch.misses + 1 } d).2.1 with l := ⟨p, zs, true, 0⟩ :: (roomC { ch with misses := ch.misses + 1 } d).2.1.l } (roomC { ch with misses := ch.misses + 1 } d).2.2 ∧ Turn w0 S X w w' := by
  have HX := hide (exists_any w0 w S X c b ch d h p)
  rw [decide_eq_true (by omega)] at HX
  have HE := hide (meet_any w0 w S X c b ch d k hk h hf p hp)
  have em : meetC ch d p = roomC { ch with misses := ch.misses + 1 } d := by unfold meetC; rw [hx]
  rw [em] at HE
  have HM := hide (cmade_any w c b (duos_c0 w0 w S X c b ch d h))
  have hst := h.dvok.few
  have HF : Hid (findC (roomC { ch with misses := ch.misses + 1 } d).2.1.l p = none) := roomC_find (c := { ch with misses := ch.misses + 1 }) hx
  have HP : Hid (p < (roomC { ch with misses := ch.misses + 1 } d).2.2.st.length) := by show _ < _; rw [roomC_st]; omega
  have HRM : Hid ((roomC { ch with misses := ch.misses + 1 } d).2.1.l.length < (roomC { ch with misses := ch.misses + 1 } d).2.1.size) := by
    show _ < _
    rw [(roomC_size { ch with misses := ch.misses + 1 } d).1]
    exact roomC_room (n := d.st.length) ⟨h.ok.lo, h.ok.hi, h.ok.few, h.ok.nodup, h.ok.pages⟩ he
  have HSL := hide hS
  have HPZ : Hid (PageOk zs) := ⟨hz, hS.1⟩
  obtain ⟨ao, cap, rfl⟩ := sl_form' hS
  have HV := hide hv
  rw [hz] at HSL HV ⊢
  have HPP : Hid (p < 2049) := by show _ < _; omega
  clear h hp hf hx em hS hz hv
  generalize roomC { ch with misses := ch.misses + 1 } d = R at *
  obtain ⟨E, ch', d'⟩ := R
  simp only at he HE HF HP HRM ⊢
  subst he
  have HPE : Hid (∀ w2, ChOk d'.st.length ch' → DuosP w0 S X w2 c b ch'.size (ordC ch'.l) (⟨p, zs, false, 0⟩ :: ch'.l) ch'.hits ch'.misses d' → ∃ mb s, w2.cell? ⟨c, 2, none⟩ = some (.map (some mb)) ∧ (Instr.lookup 61 (.map (some mb)) (.int .i64 p) false).run Tryz.prog w2 = .ok (dp s) w2 ∧ w2.cell? ⟨s, 256, none⟩ = some (.bool false) ∧ w2.frozen? ⟨s, 256, none⟩ = false ∧
      Calls Tryz.prog 57 #[dp c, .int .i64 p] (w2.setCell ⟨s, 256, none⟩ (.bool true)) fun e w' => e = .returned (.tuple #[]) ∧ DuosP w0 S X w' c b ch'.size (ordC (⟨p, zs, true, 0⟩ :: ch'.l)) (⟨p, zs, true, 0⟩ :: ch'.l) ch'.hits ch'.misses d' ∧ Turn w0 S X w2 w') := by
    intro w2 ok h2
    have := ok.hi
    have := HRM.out
    have hu : ordC (⟨p, zs, true, 0⟩ :: ch'.l) = (ordC ch'.l).erase p ++ [(p : Int)] := by rw [← useC_new (h := ⟨p, zs, true, 0⟩) HF.out]; exact (ordC_use ok.nodup ⟨p, zs, true, 0⟩).symm
    refine put_end w0 w2 S X c b d' ch'.size ch'.hits ch'.misses (ordC ch'.l) _ (⟨p, zs, true, 0⟩ :: ch'.l) h2 ⟨p, zs, false, 0⟩ (List.mem_cons_self ..) hu.symm (by simp only [List.length_cons]; omega) (fun y => ?_) rfl (ok_new (x := ⟨p, zs, true, 0⟩) ok HRM.out HP.out HPZ.out HF.out).nodup
    rw [updC_new ⟨p, zs, false, 0⟩ ch'.l _ HF.out]
  go_enter Tryz.func16, Tryz.ntmps16
  go_wp2_with (first
    | (go_at_call 53; refine HM.out.mono ?_; rintro e w1 ⟨rfl, hw⟩; subst w1; clear HM)
    | (go_at_call 54; refine HX.out.mono ?_; rintro e w1 ⟨rfl, hw⟩; subst w1; clear HX)
    | (go_at_call 55; refine HE.out.mono ?_; rintro e w1 ⟨rfl, hd1, ht1⟩; have HD1 := hide hd1; have HT1 := hide ht1; clear HE hd1 ht1)
    | (go_at_call 56; refine (holdP_new w0 w1 S X c b _ _ _ _ _ _ HD1.out.p p (by have := HPP.out; omega) (by have := HRM.out; have := HD1.out.ok.hi; omega) HF.out _ zs (HSL.out.only HT1.out (fun j hj h => h.2 (HV.out j hj))) HPZ.out.1 HV.out).mono ?_; rintro e w2 ⟨rfl, hd2, ht2⟩; obtain ⟨mb2, s2, c22, hlk2, cs2, fs2, hu2⟩ := HPE.out w2 HD1.out.ok hd2; have HU := hide hu2; have HT2 := hide ht2; clear hu2 hd2 ht2 HPE)
    | (go_at_call 57; refine HU.out.mono ?_; rintro e w3 ⟨rfl, hd3, ht3⟩; have HD3 := hide hd3; have HT3 := hide ht3; clear HU hd3 ht3))
  go_ret
  exact ⟨rfl, DuosP.duos (ch := { ch' with l := ⟨p, zs, true, 0⟩ :: ch'.l }) HD3.out (ok_new (x := ⟨p, zs, true, 0⟩) HD1.out.ok HRM.out HP.out HPZ.out HF.out), (HT1.out.trans HT2.out).trans HT3.out⟩

theorem put_any (k : Nat) (hk : k < 900000) (h : Duos w0 S X w c b ch d) (hf : Few k ch d) (p : Int) (v : Value) (zs : List Int) (hS : Sl w v zs) (hv : ∀ j, v.ownBlock = some j → X j) :
    Calls Tryz.prog 16 #[dp c, .int .i64 p, v] w fun e w' => e = .returned (.int .i64 (putC ch d p zs).1) ∧ Duos w0 S X w' c b (putC ch d p zs).2.1 (putC ch d p zs).2.2 ∧ Turn w0 S X w w' := by
  unfold putC
  by_cases hp : (0 ≤ p ∧ p < d.st.length) ∧ zs.length = 256
  · rw [if_pos hp]
    obtain ⟨P, rfl⟩ : ∃ P : Nat, p = (P : Int) := ⟨p.toNat, by omega⟩
    have hP : P < d.st.length := by omega
    simp only [Int.toNat_natCast]
    cases hx : findC ch.l (P : Int) with
    | some x => exact put_hit w0 w S X c b ch d k hk h hf P hP v zs hS hp.2 hv x hx
    | none =>
      simp only
      by_cases he : (roomC { ch with misses := ch.misses + 1 } d).1 = 0
      · rw [if_pos he]
        exact put_new w0 w S X c b ch d k hk h hf P hP v zs hS hp.2 hv hx he
      · rw [if_neg he]
        have em : meetC ch d P = roomC { ch with misses := ch.misses + 1 } d := by unfold meetC; rw [hx]
        have key := put_no w0 w S X c b ch d k hk h hf P hP v zs hS hp.2 (by rw [em]; exact he)
        rw [em] at key
        exact key
  · rw [if_neg hp]
    refine (put_arg w0 w S X c b ch d h p v zs hS hp).mono ?_
    rintro e w' ⟨rfl, rfl⟩
    exact ⟨rfl, h, Turn.refl _ _ _ _⟩
end

end Go.Proofs.YtoplhehcjgldeaaGreat
/- Contracts: Pin, Unpin, Forget, Held; cache.New. -/
namespace Go.Proofs.YtoplhehcjgldeaaGreat
open Go.RowKit
set_option linter.unusedVariables false
set_option maxRecDepth 100000

def pinC (c : Ch) (p : Int) : Int × Ch := match findC c.l p with
  | none => (4, c)
  | some x => (0, { c with l := updC c.l x.p (fun y => { y with pins := x.pins + 1 }) })
def unpinC (c : Ch) (p : Int) : Int × Ch := match findC c.l p with
  | none => (4, c)
  | some x => if x.pins = 0 then (4, c) else (0, { c with l := updC c.l x.p (fun y => { y with pins := x.pins - 1 }) })
def forgetC (c : Ch) (p : Int) : Int × Ch := match findC c.l p with
  | none => (4, c)
  | some x => if x.pins = 0 then (0, { c with l := lessC c.l x.p }) else (7, c)

theorem ok_upd {n : Nat} {ch : Ch} (ok : ChOk n ch) (p : Nat) (f : Hd → Hd) (hf : ∀ x, (f x).p = x.p) (hb : ∀ x ∈ ch.l, PageOk (f x).bs) : ChOk n { ch with l := updC ch.l p f } := by
  refine ⟨ok.lo, ok.hi, by show (updC _ _ _).length ≤ _; rw [updC_len]; exact ok.few, by show ((updC _ _ _).map _).Nodup; rw [updC_pages _ _ _ hf]; exact ok.nodup, fun y hy => ?_⟩
  obtain ⟨x, hx, rfl⟩ := mem_updC hy
  split
  · rw [hf]; exact ⟨(ok.pages x hx).1, hb x hx⟩
  · exact ok.pages x hx
theorem ok_less {n : Nat} {ch : Ch} (ok : ChOk n ch) (p : Nat) : ChOk n { ch with l := lessC ch.l p } :=
  ⟨ok.lo, ok.hi, Nat.le_trans (lessC_sub _ _).length_le ok.few, lessC_nodup ok.nodup _, fun y hy => ok.pages y (mem_lessC.1 hy).1⟩

section
variable (w0 w : World) (S X : Nat → Prop) (c b : Nat) (ch : Ch) (d : Dv)

theorem duos_find (h : Duos w0 S X w c b ch d) (x : Hd) (hx : x ∈ ch.l) : ∃ s, (Calls Tryz.prog 63 #[dp c, .int .i64 x.p] w fun e w' => e = .returned (.tuple #[dp s, .int .i64 0]) ∧ w' = w) ∧ w.cell? ⟨s, 257, none⟩ = some (.int .i64 x.pins) ∧ w.frozen? ⟨s, 257, none⟩ = false ∧
    ∀ n : Nat, Duos w0 S X (w.setCell ⟨s, 257, none⟩ (.int .i64 n)) c b { ch with l := updC ch.l x.p (fun y => { y with pins := n }) } d ∧ Turn w0 S X w (w.setCell ⟨s, 257, none⟩ (.int .i64 n)) := by
  obtain ⟨H, G, ⟨mb, vo, D, sl, h1⟩, h2, h3, h4, h5, h6, h7⟩ := h
  have hB := h1.slots.slot x hx
  have hok := (h1.slots.ok x hx).2
  refine ⟨sl x.p, find_yes w c b H ch.size (ordC ch.l) ch.l ch.hits ch.misses mb vo D sl h1 x hx, (hB.cell 257).trans (sc_pins hok), hB.frozen _, fun n => ?_⟩
  have ho : Only (· = sl x.p) w (w.setCell ⟨sl x.p, 257, none⟩ (.int .i64 n)) := (Only.refl (· = sl x.p) w).setCell ⟨sl x.p, 257, none⟩ _ (fun _ => rfl)
  have hs : ∀ k, k = sl x.p → H k := fun k e => e ▸ h1.slots.fs x hx
  have hB4 := hB.set 257 (.int .i64 n)
  rw [sc_set_pins hok] at hB4
  have ho' : Only (fun k => H k ∨ G k) w (w.setCell ⟨sl x.p, 257, none⟩ (.int .i64 n)) := ho.mono (fun k _ e => .inl (hs k e))
  refine ⟨duos_step h3 h4 h5 h6 (ch' := { ch with l := updC ch.l x.p (fun y => { y with pins := n }) }) ?_ (h2.keep ho (fun k hg e => h3 k (hs k e) hg)) ho' (fun _ h => .inl h) (fun _ h => .inl h) (fun k _ => h3 k) (ok_upd h7 x.p _ (fun _ => rfl) (fun y hy => (h7.pages y hy).2)), turn_step h4 ho'⟩
  show CachH _ c b H ch.size (ordC (updC _ _ _)) _ _ _
  rw [ordC_updC _ _ (fun y => { y with pins := n }) (fun _ => rfl)]
  exact ⟨mb, vo, D, sl, h1.reslot x.p (fun y => { y with pins := n }) (fun _ => rfl) hx rfl ho hB4 hok⟩
theorem duos_find_no (h : Duos w0 S X w c b ch d) (p : Int) (hp : Wf p) (hn : findC ch.l p = none) : Calls Tryz.prog 63 #[dp c, .int .i64 p] w fun e w' => e = .returned (.tuple #[.pointer none, .int .i64 4]) ∧ w' = w := by
  obtain ⟨H, G, ⟨mb, vo, D, sl, h1⟩, _⟩ := h
  exact find_no w c b H ch.size (ordC ch.l) ch.l ch.hits ch.misses mb vo D sl h1 p hp hn
theorem duos_release (h : Duos w0 S X w c b ch d) (x : Hd) (hx : x ∈ ch.l) : Calls Tryz.prog 64 #[dp c, .int .i64 x.p] w fun e w' => e = .returned (.tuple #[]) ∧ Duos w0 S X w' c b { ch with l := lessC ch.l x.p } d ∧ Turn w0 S X w w' := by
  obtain ⟨H, G, ⟨mb, vo, D, sl, h1⟩, h2, h3, h4, h5, h6, h7⟩ := h
  refine (release_at w c b H ch.size (ordC ch.l) ch.l ch.hits ch.misses mb vo D sl h1 x hx).mono ?_
  rintro e w' ⟨rfl, k1, ho⟩
  rw [ordC_erase h7.nodup] at k1
  have ho' : Only (fun k => H k ∨ G k) w w' := ho.mono (fun _ _ h => .inl h)
  exact ⟨rfl, duos_step h3 h4 h5 h6 (ch' := { ch with l := lessC ch.l x.p }) k1 (h2.keep ho (fun k hg hh => h3 k hh hg)) ho' (fun _ h => .inl h) (fun _ h => .inl h) (fun k _ => h3 k) (ok_less h7 _), turn_step h4 ho'⟩

theorem pin_any (k : Nat) (hk : k < 900000) (h : Duos w0 S X w c b ch d) (hf : Few k ch d) (p : Int) (hp : Wf p) :
    Calls Tryz.prog 24 #[dp c, .int .i64 p] w fun e w' => e = .returned (.int .i64 (pinC ch p).1) ∧ Duos w0 S X w' c b (pinC ch p).2 d ∧ Turn w0 S X w w' := by
  unfold pinC
  cases hx : findC ch.l p with
  | none =>
    have HF := hide (duos_find_no w0 w S X c b ch d h p hp hx)
    have HD := hide h
    clear h hx hf hp
    go_enter Tryz.func24, Tryz.ntmps24
    go_wp2_with (go_at_call 63; refine HF.out.mono ?_; rintro e w1 ⟨rfl, hw⟩; subst w1; clear HF)
    go_ret
    exact ⟨rfl, HD.out, Turn.refl _ _ _ _⟩
  | some x =>
    obtain ⟨hxm, rfl⟩ := findC_some hx
    obtain ⟨s, h1, c257, f257, h4⟩ := duos_find w0 w S X c b ch d h x hxm
    have HF := hide h1
    have hpn := hf.pins x hxm
    have hq := h4 (x.pins + 1)
    rw [show ((x.pins + 1 : Nat) : Int) = (x.pins : Int) + 1 by omega] at hq
    have HQ := hide hq
    clear h h1 h4 hf hx hxm hp hq
    go_enter Tryz.func24, Tryz.ntmps24
    go_wp2_with (go_at_call 63; refine HF.out.mono ?_; rintro e w1 ⟨rfl, hw⟩; subst w1; clear HF)
    go_ret
    exact ⟨rfl, HQ.out.1, HQ.out.2⟩

theorem unpin_any (k : Nat) (hk : k < 900000) (h : Duos w0 S X w c b ch d) (hf : Few k ch d) (p : Int) (hp : Wf p) :
    Calls Tryz.prog 26 #[dp c, .int .i64 p] w fun e w' => e = .returned (.int .i64 (unpinC ch p).1) ∧ Duos w0 S X w' c b (unpinC ch p).2 d ∧ Turn w0 S X w w' := by
  unfold unpinC
  cases hx : findC ch.l p with
  | none =>
    have HF := hide (duos_find_no w0 w S X c b ch d h p hp hx)
    have HD := hide h
    clear h hx hf hp
    go_enter Tryz.func26, Tryz.ntmps26
    go_wp2_with (go_at_call 63; refine HF.out.mono ?_; rintro e w1 ⟨rfl, hw⟩; subst w1; clear HF)
    go_ret
    exact ⟨rfl, HD.out, Turn.refl _ _ _ _⟩
  | some x =>
    obtain ⟨hxm, rfl⟩ := findC_some hx
    obtain ⟨s, h1, c257, f257, h4⟩ := duos_find w0 w S X c b ch d h x hxm
    have HF := hide h1
    have hpn := hf.pins x hxm
    have HD := hide h
    by_cases h0 : x.pins = 0
    · rw [h0] at c257
      clear h h1 h4 hf hx hxm hp hpn
      simp only [if_pos h0]
      go_enter Tryz.func26, Tryz.ntmps26
      go_wp2_with (go_at_call 63; refine HF.out.mono ?_; rintro e w1 ⟨rfl, hw⟩; subst w1; clear HF)
      go_ret
      exact ⟨rfl, HD.out, Turn.refl _ _ _ _⟩
    · have hq := h4 (x.pins - 1)
      rw [show ((x.pins - 1 : Nat) : Int) = (x.pins : Int) - 1 by omega] at hq
      have HQ := hide hq
      have h0' : (x.pins : Int) ≠ 0 := by omega
      clear h h1 h4 hf hx hxm hp hq
      simp only [if_neg h0]
      go_enter Tryz.func26, Tryz.ntmps26
      go_wp2_with (go_at_call 63; refine HF.out.mono ?_; rintro e w1 ⟨rfl, hw⟩; subst w1; clear HF)
      go_ret
      exact ⟨rfl, HQ.out.1, HQ.out.2⟩

theorem forget_any (h : Duos w0 S X w c b ch d) (p : Int) (hp : Wf p) :
    Calls Tryz.prog 28 #[dp c, .int .i64 p] w fun e w' => e = .returned (.int .i64 (forgetC ch p).1) ∧ Duos w0 S X w' c b (forgetC ch p).2 d ∧ Turn w0 S X w w' := by
  unfold forgetC
  cases hx : findC ch.l p with
  | none =>
    have HF := hide (duos_find_no w0 w S X c b ch d h p hp hx)
    have HD := hide h
    clear h hx hp
    go_enter Tryz.func28, Tryz.ntmps28
    go_wp2_with (go_at_call 63; refine HF.out.mono ?_; rintro e w1 ⟨rfl, hw⟩; subst w1; clear HF)
    go_ret
    exact ⟨rfl, HD.out, Turn.refl _ _ _ _⟩
  | some x =>
    obtain ⟨hxm, rfl⟩ := findC_some hx
    obtain ⟨s, h1, c257, f257, h4⟩ := duos_find w0 w S X c b ch d h x hxm
    have HF := hide h1
    have HD := hide h
    have HR := hide (duos_release w0 w S X c b ch d h x hxm)
    by_cases h0 : x.pins = 0
    · rw [h0] at c257
      clear h h1 h4 hx hxm hp
      simp only [if_pos h0]
      go_enter Tryz.func28, Tryz.ntmps28
      go_wp2_with (first
        | (go_at_call 63; refine HF.out.mono ?_; rintro e w1 ⟨rfl, hw⟩; subst w1; clear HF)
        | (go_at_call 64; refine HR.out.mono ?_; rintro e w1 ⟨rfl, hd1, ht1⟩; have HD1 := hide hd1; have HT1 := hide ht1; clear HR hd1 ht1))
      go_ret
      exact ⟨rfl, HD1.out, HT1.out⟩
    · have h0' : (0 : Int) < (x.pins : Int) := by omega
      clear h h1 h4 hx hxm hp
      simp only [if_neg h0]
      go_enter Tryz.func28, Tryz.ntmps28
      go_wp2_with (go_at_call 63; refine HF.out.mono ?_; rintro e w1 ⟨rfl, hw⟩; subst w1; clear HF)
      go_ret
      exact ⟨rfl, HD.out, Turn.refl _ _ _ _⟩

theorem held_any (h : Duos w0 S X w c b ch d) :
    Calls Tryz.prog 20 #[dp c] w fun e w' => ∃ v, e = .returned v ∧ Ints w' w.heap.size v (ch.l.map (fun h => (h.p : Int))) ∧ Below w.heap.size w w' := by
  obtain ⟨H, G, ⟨mb, vo, D, sl, h1⟩, h2, h3, h4, h5, h6, h7⟩ := h
  have HM := hide (cmade_any w c b h1.blk.c0)
  have c3 := h1.blk.c3
  have h8 := h7.hi
  have h9 := h7.few
  have HC := hide (clone_any w 0 vo (ordC ch.l) h1.order (by rw [ordC_len]; omega))
  have HE : Hid ((ordC ch.l).reverse = ch.l.map (fun h => (h.p : Int))) := by show _ = _; unfold ordC; rw [List.reverse_reverse]
  clear h1 h2 h3 h4 h5 h6 h7
  go_enter Tryz.func20, Tryz.ntmps20
  go_wp2_with (first
    | (go_at_call 53; refine HM.out.mono ?_; rintro e w1 ⟨rfl, hw⟩; subst w1; clear HM)
    | (go_at_call 59; refine HC.out.mono ?_; rintro e w1 ⟨v1, rfl, hi1, hb1⟩; have HI1 := hide hi1; have HB1 := hide hb1; clear HC hi1 hb1)
    | (go_at_call 60; refine (reverse_any w1 w.heap.size v1 _ HI1.out).mono ?_; rintro e w2 ⟨rfl, hi2, ho2⟩; have HI2 := hide hi2; have HO2 := hide ho2; clear hi2 ho2))
  go_ret
  rw [HE.out] at HI2
  refine ⟨_, rfl, HI2.out, HB1.out.trans (HO2.out.below HB1.out.size (fun k hk e => ?_))⟩
  have := (HI1.out.lt k e).1
  omega
end

end Go.Proofs.YtoplhehcjgldeaaGreat
