/- Contract: Put. -/
import Derived.Test.YtoplhehcjgldeaaCGet3
namespace Go.Proofs.Ytoplhehcjgldeaa
open Go.RowKit
set_option linter.unusedVariables false
set_option maxRecDepth 100000

def putC (c : Ch) (d : Dv) (p : Int) (zs : List Int) : Int × Ch × Dv :=
  if (0 ≤ p ∧ p < d.st.length) ∧ zs.length = 256 then match findC c.l p with
    | some h => (0, { c with l := useC c.l { h with bs := zs, ch := true }, hits := c.hits + 1 }, d)
    | none => if (roomC { c with misses := c.misses + 1 } d).1 = 0 then
        (0, { (roomC { c with misses := c.misses + 1 } d).2.1 with l := ⟨p.toNat, zs, true, 0⟩ :: (roomC { c with misses := c.misses + 1 } d).2.1.l }, (roomC { c with misses := c.misses + 1 } d).2.2)
        else roomC { c with misses := c.misses + 1 } d
  else (1, c, d)

section
variable (w0 w : World) (S X : Nat → Prop) (c b : Nat) (ch : Ch) (d : Dv)

theorem put_arg (h : Duos w0 S X w c b ch d) (p : Int) (v : Value) (zs : List Int) (hS : Sl w v zs) (hp : ¬ ((0 ≤ p ∧ p < d.st.length) ∧ zs.length = 256)) :
    Calls Try.prog 10 #[dp c, .int .i64 p, v] w fun e w' => e = .returned (.int .i64 1) ∧ w' = w := by
  have HX := hide (exists_any w0 w S X c b ch d h p)
  have HM := hide (cmade_any w c b (duos_c0 w0 w S X c b ch d h))
  obtain ⟨ao, cap, rfl⟩ := sl_form' hS
  clear h hS
  by_cases h1 : 0 ≤ p ∧ p < d.st.length
  · have hz : (zs.length : Int) ≠ 256 := fun e => hp ⟨h1, by omega⟩
    rw [decide_eq_true h1] at HX
    clear hp h1
    go_enter Try.func10, Try.ntmps10
    go_wp2_with (first
      | (go_at_call 29; refine HM.out.mono ?_; rintro e w1 ⟨rfl, hw⟩; subst w1; clear HM)
      | (go_at_call 30; refine HX.out.mono ?_; rintro e w1 ⟨rfl, hw⟩; subst w1; clear HX))
    go_ret
    exact ⟨rfl, rfl⟩
  · rw [decide_eq_false h1] at HX
    clear hp h1
    go_enter Try.func10, Try.ntmps10
    go_wp2_with (first
      | (go_at_call 29; refine HM.out.mono ?_; rintro e w1 ⟨rfl, hw⟩; subst w1; clear HM)
      | (go_at_call 30; refine HX.out.mono ?_; rintro e w1 ⟨rfl, hw⟩; subst w1; clear HX))
    go_ret
    exact ⟨rfl, rfl⟩

theorem put_no (k : Nat) (hk : k < 900000) (h : Duos w0 S X w c b ch d) (hf : Few k ch d) (p : Nat) (hp : p < d.st.length) (v : Value) (zs : List Int) (hS : Sl w v zs) (hz : zs.length = 256) (he : (meetC ch d p).1 ≠ 0) :
    Calls Try.prog 10 #[dp c, .int .i64 p, v] w fun e w' => e = .returned (.int .i64 (meetC ch d p).1) ∧ Duos w0 S X w' c b (meetC ch d p).2.1 (meetC ch d p).2.2 ∧ Turn w0 S X w w' := by
  have HX := hide (exists_any w0 w S X c b ch d h p)
  rw [decide_eq_true (by omega)] at HX
  have HE := hide (meet_any w0 w S X c b ch d k hk h hf p hp)
  have HM := hide (cmade_any w c b (duos_c0 w0 w S X c b ch d h))
  obtain ⟨ao, cap, rfl⟩ := sl_form' hS
  rw [hz]
  clear h hS hz hp hf
  generalize meetC ch d p = R at he HE ⊢
  go_enter Try.func10, Try.ntmps10
  go_wp2_with (first
    | (go_at_call 29; refine HM.out.mono ?_; rintro e w1 ⟨rfl, hw⟩; subst w1; clear HM)
    | (go_at_call 30; refine HX.out.mono ?_; rintro e w1 ⟨rfl, hw⟩; subst w1; clear HX)
    | (go_at_call 31; refine HE.out.mono ?_; rintro e w1 ⟨rfl, hd1, ht1⟩; have HD1 := hide hd1; have HT1 := hide ht1; clear HE hd1 ht1))
  go_ret
  exact ⟨rfl, HD1.out, HT1.out⟩

/-- the end of Put: the page is marked, and used -/
theorem put_end (size hits misses : Nat) (os : List Int) (l l' : List Hd) (h : DuosP w0 S X w c b size os l hits misses d) (x : Hd) (hx : x ∈ l) (he : os.erase x.p ++ [(x.p : Int)] = ordC l') (hl : l'.length ≤ 64) (hm : ∀ y, y ∈ l' ↔ y ∈ updC l x.p (fun z => { z with ch := true })) (hll : l'.length = l.length) (hn : (l'.map (·.p)).Nodup) :
    ∃ mb s, w.cell? ⟨c, 2, none⟩ = some (.map (some mb)) ∧ (Instr.lookup 51 (.map (some mb)) (.int .i64 x.p) false).run Try.prog w = .ok (dp s) w ∧ w.cell? ⟨s, 256, none⟩ = some (.bool x.ch) ∧ w.frozen? ⟨s, 256, none⟩ = false ∧
      Calls Try.prog 33 #[dp c, .int .i64 x.p] (w.setCell ⟨s, 256, none⟩ (.bool true)) fun e w' => e = .returned (.tuple #[]) ∧ DuosP w0 S X w' c b size (ordC l') l' hits misses d ∧ Turn w0 S X w w' := by
  obtain ⟨mb, s, h1, h2, h3, h4, h5⟩ := markP w0 w S X c b size os l hits misses d h x hx
  obtain ⟨k1, k2⟩ := h5 true
  refine ⟨mb, s, h1, h2, h3, h4, (useP w0 _ S X c b size os _ hits misses d k1 x.p l' he hl hm (by rw [hll, updC_len]) hn).mono ?_⟩
  rintro e w' ⟨rfl, q1, q2⟩
  exact ⟨rfl, q1, k2.trans q2⟩

set_option maxHeartbeats 1000000 in
theorem put_hit (k : Nat) (hk : k < 900000) (h : Duos w0 S X w c b ch d) (hf : Few k ch d) (p : Nat) (hp : p < d.st.length) (v : Value) (zs : List Int) (hS : Sl w v zs) (hz : zs.length = 256) (hv : ∀ j, v.ownBlock = some j → X j) (x : Hd) (hx : findC ch.l p = some x) :
    Calls Try.prog 10 #[dp c, .int .i64 p, v] w fun e w' => e = .returned (.int .i64 0) ∧ Duos w0 S X w' c b { ch with l := useC ch.l { x with bs := zs, ch := true }, hits := ch.hits + 1 } d ∧ Turn w0 S X w w' := by
  have HX := hide (exists_any w0 w S X c b ch d h p)
  rw [decide_eq_true (by omega)] at HX
  have HE := hide (meet_any w0 w S X c b ch d k hk h hf p hp)
  have em : meetC ch d p = (0, { ch with hits := ch.hits + 1 }, d) := by unfold meetC; rw [hx]
  rw [em] at HE
  have HM := hide (cmade_any w c b (duos_c0 w0 w S X c b ch d h))
  obtain ⟨hxm, hxp⟩ := findC_some hx
  have hxp' : x.p = p := by omega
  subst hxp'
  have HSL := hide hS
  obtain ⟨ao, cap, rfl⟩ := sl_form' hS
  have ok := h.ok
  have hul := useC_len ok.nodup { x with bs := zs, ch := true } hx
  have HOK2 : Hid (ChOk d.st.length { ch with l := useC ch.l { x with bs := zs, ch := true }, hits := ch.hits + 1 }) :=
    ⟨ok.lo, ok.hi, by show (useC _ _).length ≤ ch.size; rw [hul]; exact ok.few, useC_nodup ok.nodup _, fun y hy => by
      rcases mem_useC.1 hy with rfl | ⟨hy, _⟩
      · exact ⟨(ok.pages x hxm).1, hz, hS.1⟩
      · exact ok.pages y hy⟩
  have HPE : Hid (∀ w2, DuosP w0 S X w2 c b ch.size (ordC ch.l) (updC ch.l x.p (fun y => { y with bs := zs })) (ch.hits + 1) ch.misses d → ∃ mb s, w2.cell? ⟨c, 2, none⟩ = some (.map (some mb)) ∧ (Instr.lookup 51 (.map (some mb)) (.int .i64 x.p) false).run Try.prog w2 = .ok (dp s) w2 ∧ w2.cell? ⟨s, 256, none⟩ = some (.bool x.ch) ∧ w2.frozen? ⟨s, 256, none⟩ = false ∧
      Calls Try.prog 33 #[dp c, .int .i64 x.p] (w2.setCell ⟨s, 256, none⟩ (.bool true)) fun e w' => e = .returned (.tuple #[]) ∧ DuosP w0 S X w' c b ch.size (ordC (useC ch.l { x with bs := zs, ch := true })) (useC ch.l { x with bs := zs, ch := true }) (ch.hits + 1) ch.misses d ∧ Turn w0 S X w2 w') := by
    intro w2 h2
    have := ok.hi
    have := ok.few
    refine put_end w0 w2 S X c b d ch.size (ch.hits + 1) ch.misses (ordC ch.l) _ (useC ch.l { x with bs := zs, ch := true }) h2 { x with bs := zs } (List.mem_map.2 ⟨x, hxm, if_pos rfl⟩) (ordC_use ok.nodup { x with bs := zs, ch := true }) (by rw [hul]; omega) (fun y => ?_) (by rw [hul, updC_len]) (useC_nodup ok.nodup _)
    show _ ↔ y ∈ updC (updC ch.l x.p (fun y => { y with bs := zs })) x.p (fun z => { z with ch := true })
    rw [updC_updC ch.l x.p (fun y => { y with bs := zs }) (fun z => { z with ch := true }) (fun _ => rfl)]
    exact mem_use_upd ok.nodup hxm (fun z => { z with bs := zs, ch := true }) (fun _ => rfl) y
  have HXM := hide hxm
  have HV := hide hv
  have HZ := hide hz
  rw [hz] at HSL HV ⊢
  clear h hp hf hx hxm hxp em hS hz hv hul ok
  go_enter Try.func10, Try.ntmps10
  go_wp2_with (first
    | (go_at_call 29; refine HM.out.mono ?_; rintro e w1 ⟨rfl, hw⟩; subst w1; clear HM)
    | (go_at_call 30; refine HX.out.mono ?_; rintro e w1 ⟨rfl, hw⟩; subst w1; clear HX)
    | (go_at_call 31; refine HE.out.mono ?_; rintro e w1 ⟨rfl, hd1, ht1⟩; have HD1 := hide hd1; have HT1 := hide ht1; clear HE hd1 ht1)
    | (go_at_call 32; refine (holdP_old w0 w1 S X c b _ _ _ _ _ _ HD1.out.p x HXM.out _ zs (HSL.out.only HT1.out (fun j hj h => h.2 (HV.out j hj))) HZ.out).mono ?_; rintro e w2 ⟨rfl, hd2, ht2⟩; obtain ⟨mb2, s2, c22, hlk2, cs2, fs2, hu2⟩ := HPE.out w2 hd2; have HU := hide hu2; have HT2 := hide ht2; clear hu2 hd2 ht2 HD1 HPE)
    | (go_at_call 33; refine HU.out.mono ?_; rintro e w3 ⟨rfl, hd3, ht3⟩; have HD3 := hide hd3; have HT3 := hide ht3; clear HU hd3 ht3))
  go_ret
  exact ⟨rfl, DuosP.duos (ch := { ch with l := useC ch.l { x with bs := zs, ch := true }, hits := ch.hits + 1 }) HD3.out HOK2.out, (HT1.out.trans HT2.out).trans HT3.out⟩

set_option maxHeartbeats 1000000 in
theorem put_new (k : Nat) (hk : k < 900000) (h : Duos w0 S X w c b ch d) (hf : Few k ch d) (p : Nat) (hp : p < d.st.length) (v : Value) (zs : List Int) (hS : Sl w v zs) (hz : zs.length = 256) (hv : ∀ j, v.ownBlock = some j → X j) (hx : findC ch.l p = none) (he : (roomC { ch with misses := ch.misses + 1 } d).1 = 0) :
    Calls Try.prog 10 #[dp c, .int .i64 p, v] w fun e w' => e = .returned (.int .i64 0) ∧ Duos w0 S X w' c b { (roomC { ch with misses := ch.misses + 1 } d).2.1 with l := ⟨p, zs, true, 0⟩ :: (roomC { ch with misses := ch.misses + 1 } d).2.1.l } (roomC { ch with misses := ch.misses + 1 } d).2.2 ∧ Turn w0 S X w w' := by
  have HX := hide (exists_any w0 w S X c b ch d h p)
  rw [decide_eq_true (by omega)] at HX
  have HE := hide (meet_any w0 w S X c b ch d k hk h hf p hp)
  have em : meetC ch d p = roomC { ch with misses := ch.misses + 1 } d := by unfold meetC; rw [hx]
  rw [em] at HE
  have HM := hide (cmade_any w c b (duos_c0 w0 w S X c b ch d h))
  have hst := h.dvok.few
  have HF : Hid (findC (roomC { ch with misses := ch.misses + 1 } d).2.1.l p = none) := roomC_find (c := { ch with misses := ch.misses + 1 }) hx
  have HP : Hid (p < (roomC { ch with misses := ch.misses + 1 } d).2.2.st.length) := by show _ < _; rw [roomC_st]; omega
  have HRM : Hid ((roomC { ch with misses := ch.misses + 1 } d).2.1.l.length < (roomC { ch with misses := ch.misses + 1 } d).2.1.size) := by
    show _ < _
    rw [(roomC_size { ch with misses := ch.misses + 1 } d).1]
    exact roomC_room (n := d.st.length) ⟨h.ok.lo, h.ok.hi, h.ok.few, h.ok.nodup, h.ok.pages⟩ he
  have HSL := hide hS
  have HPZ : Hid (PageOk zs) := ⟨hz, hS.1⟩
  obtain ⟨ao, cap, rfl⟩ := sl_form' hS
  have HV := hide hv
  rw [hz] at HSL HV ⊢
  have HPP : Hid (p < 2049) := by show _ < _; omega
  clear h hp hf hx em hS hz hv
  generalize roomC { ch with misses := ch.misses + 1 } d = R at *
  obtain ⟨E, ch', d'⟩ := R
  simp only at he HE HF HP HRM ⊢
  subst he
  have HPE : Hid (∀ w2, ChOk d'.st.length ch' → DuosP w0 S X w2 c b ch'.size (ordC ch'.l) (⟨p, zs, false, 0⟩ :: ch'.l) ch'.hits ch'.misses d' → ∃ mb s, w2.cell? ⟨c, 2, none⟩ = some (.map (some mb)) ∧ (Instr.lookup 51 (.map (some mb)) (.int .i64 p) false).run Try.prog w2 = .ok (dp s) w2 ∧ w2.cell? ⟨s, 256, none⟩ = some (.bool false) ∧ w2.frozen? ⟨s, 256, none⟩ = false ∧
      Calls Try.prog 33 #[dp c, .int .i64 p] (w2.setCell ⟨s, 256, none⟩ (.bool true)) fun e w' => e = .returned (.tuple #[]) ∧ DuosP w0 S X w' c b ch'.size (ordC (⟨p, zs, true, 0⟩ :: ch'.l)) (⟨p, zs, true, 0⟩ :: ch'.l) ch'.hits ch'.misses d' ∧ Turn w0 S X w2 w') := by
    intro w2 ok h2
    have := ok.hi
    have := HRM.out
    have hu : ordC (⟨p, zs, true, 0⟩ :: ch'.l) = (ordC ch'.l).erase p ++ [(p : Int)] := by rw [← useC_new (h := ⟨p, zs, true, 0⟩) HF.out]; exact (ordC_use ok.nodup ⟨p, zs, true, 0⟩).symm
    refine put_end w0 w2 S X c b d' ch'.size ch'.hits ch'.misses (ordC ch'.l) _ (⟨p, zs, true, 0⟩ :: ch'.l) h2 ⟨p, zs, false, 0⟩ (List.mem_cons_self ..) hu.symm (by simp only [List.length_cons]; omega) (fun y => ?_) rfl (ok_new (x := ⟨p, zs, true, 0⟩) ok HRM.out HP.out HPZ.out HF.out).nodup
    rw [updC_new ⟨p, zs, false, 0⟩ ch'.l _ HF.out]
  go_enter Try.func10, Try.ntmps10
  go_wp2_with (first
    | (go_at_call 29; refine HM.out.mono ?_; rintro e w1 ⟨rfl, hw⟩; subst w1; clear HM)
    | (go_at_call 30; refine HX.out.mono ?_; rintro e w1 ⟨rfl, hw⟩; subst w1; clear HX)
    | (go_at_call 31; refine HE.out.mono ?_; rintro e w1 ⟨rfl, hd1, ht1⟩; have HD1 := hide hd1; have HT1 := hide ht1; clear HE hd1 ht1)
    | (go_at_call 32; refine (holdP_new w0 w1 S X c b _ _ _ _ _ _ HD1.out.p p (by have := HPP.out; omega) (by have := HRM.out; have := HD1.out.ok.hi; omega) HF.out _ zs (HSL.out.only HT1.out (fun j hj h => h.2 (HV.out j hj))) HPZ.out.1 HV.out).mono ?_; rintro e w2 ⟨rfl, hd2, ht2⟩; obtain ⟨mb2, s2, c22, hlk2, cs2, fs2, hu2⟩ := HPE.out w2 HD1.out.ok hd2; have HU := hide hu2; have HT2 := hide ht2; clear hu2 hd2 ht2 HPE)
    | (go_at_call 33; refine HU.out.mono ?_; rintro e w3 ⟨rfl, hd3, ht3⟩; have HD3 := hide hd3; have HT3 := hide ht3; clear HU hd3 ht3))
  go_ret
  exact ⟨rfl, DuosP.duos (ch := { ch' with l := ⟨p, zs, true, 0⟩ :: ch'.l }) HD3.out (ok_new (x := ⟨p, zs, true, 0⟩) HD1.out.ok HRM.out HP.out HPZ.out HF.out), (HT1.out.trans HT2.out).trans HT3.out⟩

theorem put_any (k : Nat) (hk : k < 900000) (h : Duos w0 S X w c b ch d) (hf : Few k ch d) (p : Int) (v : Value) (zs : List Int) (hS : Sl w v zs) (hv : ∀ j, v.ownBlock = some j → X j) :
    Calls Try.prog 10 #[dp c, .int .i64 p, v] w fun e w' => e = .returned (.int .i64 (putC ch d p zs).1) ∧ Duos w0 S X w' c b (putC ch d p zs).2.1 (putC ch d p zs).2.2 ∧ Turn w0 S X w w' := by
  unfold putC
  by_cases hp : (0 ≤ p ∧ p < d.st.length) ∧ zs.length = 256
  · rw [if_pos hp]
    obtain ⟨P, rfl⟩ : ∃ P : Nat, p = (P : Int) := ⟨p.toNat, by omega⟩
    have hP : P < d.st.length := by omega
    simp only [Int.toNat_natCast]
    cases hx : findC ch.l (P : Int) with
    | some x => exact put_hit w0 w S X c b ch d k hk h hf P hP v zs hS hp.2 hv x hx
    | none =>
      simp only
      by_cases he : (roomC { ch with misses := ch.misses + 1 } d).1 = 0
      · rw [if_pos he]
        exact put_new w0 w S X c b ch d k hk h hf P hP v zs hS hp.2 hv hx he
      · rw [if_neg he]
        have em : meetC ch d P = roomC { ch with misses := ch.misses + 1 } d := by unfold meetC; rw [hx]
        have key := put_no w0 w S X c b ch d k hk h hf P hP v zs hS hp.2 (by rw [em]; exact he)
        rw [em] at key
        exact key
  · rw [if_neg hp]
    refine (put_arg w0 w S X c b ch d h p v zs hS hp).mono ?_
    rintro e w' ⟨rfl, rfl⟩
    exact ⟨rfl, h, Turn.refl _ _ _ _⟩
end

end Go.Proofs.Ytoplhehcjgldeaa
