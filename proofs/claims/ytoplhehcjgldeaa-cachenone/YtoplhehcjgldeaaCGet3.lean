/- Contracts: Get, all of it. -/
import Derived.Test.YtoplhehcjgldeaaCHold
namespace Go.Proofs.Ytoplhehcjgldeaa
open Go.RowKit
set_option linter.unusedVariables false
set_option maxRecDepth 100000

theorem ok_new {n : Nat} {ch : Ch} (ok : ChOk n ch) (hl : ch.l.length < ch.size) {x : Hd} (hp : x.p < n) (hb : PageOk x.bs) (hn : findC ch.l x.p = none) : ChOk n { ch with l := x :: ch.l } := by
  refine ⟨ok.lo, ok.hi, by show (x :: ch.l).length ≤ ch.size; rw [List.length_cons]; omega, ?_, fun y hy => ?_⟩
  · show ((x :: ch.l).map (·.p)).Nodup
    rw [List.map_cons, List.nodup_cons]
    refine ⟨fun hm => ?_, ok.nodup⟩
    obtain ⟨y, hy, e⟩ := List.mem_map.1 hm
    exact findC_none hn y hy (by omega)
  · rcases List.mem_cons.1 hy with rfl | hy
    · exact ⟨hp, hb⟩
    · exact ok.pages y hy

/-- a page by its block, as a slice of bytes that is read -/
theorem blk_sl {w : World} {g : Nat} {e : TypeId} {zs : List Int} (h : Blk w g e (pc zs)) (hz : PageOk zs) : Sl w (.slice (some ⟨g, 0, none⟩) 256 256) zs := by
  have := sl_range (cap := 256) (h.range 0 (pc zs) (fun j _ => by rw [Nat.zero_add])) hz.2 (by rw [hz.1]; omega) (by unfold maxLen; omega)
  rwa [hz.1] at this

section
variable (w0 w : World) (S X : Nat → Prop) (c b : Nat) (ch : Ch) (d : Dv)

theorem duos_dev (h : Duos w0 S X w c b ch d) : ∃ G, Dev w b G d := by obtain ⟨_, G, _, h, _⟩ := h; exact ⟨G, h⟩
theorem duos_c0 (h : Duos w0 S X w c b ch d) : w.cell? ⟨c, 0, none⟩ = some (dp b) := by obtain ⟨H, G, ⟨mb, vo, D, sl, h1⟩, _⟩ := h; exact h1.blk.c0

theorem get_dark (k : Nat) (hk : k < 900000) (h : Duos w0 S X w c b ch d) (hf : Few k ch d) (p : Nat) (hp : p < d.st.length) (hx : findC ch.l p = none) (he : (roomC { ch with misses := ch.misses + 1 } d).1 = 0) (hoff : (roomC { ch with misses := ch.misses + 1 } d).2.2.off = true) :
    Calls Try.prog 15 #[dp c, .int .i64 p] w fun e w' => e = .returned (.tuple #[.slice none 0 0, .int .i64 5]) ∧ Duos w0 S X w' c b (roomC { ch with misses := ch.misses + 1 } d).2.1 (roomC { ch with misses := ch.misses + 1 } d).2.2 ∧ Turn w0 S X w w' := by
  have HX := hide (exists_any w0 w S X c b ch d h p)
  rw [decide_eq_true (by omega)] at HX
  have HE := hide (meet_any w0 w S X c b ch d k hk h hf p hp)
  have em : meetC ch d p = roomC { ch with misses := ch.misses + 1 } d := by unfold meetC; rw [hx]
  rw [em] at HE
  have HM := hide (cmade_any w c b (duos_c0 w0 w S X c b ch d h))
  have hst := h.dvok.few
  have HF : Hid (findC (roomC { ch with misses := ch.misses + 1 } d).2.1.l p = none) := roomC_find (c := { ch with misses := ch.misses + 1 }) hx
  have HP : Hid ((0 : Int) ≤ p ∧ (p : Int) < (roomC { ch with misses := ch.misses + 1 } d).2.2.st.length) := by show _ ∧ _; rw [roomC_st]; omega
  have HW := hide (wf_nat (p := p) (by omega))
  clear h hp hf hx em
  generalize roomC { ch with misses := ch.misses + 1 } d = R at *
  obtain ⟨E, ch', d'⟩ := R
  simp only at he hoff HE HF HP ⊢
  subst he
  have HOF := hide hoff
  clear hoff
  go_enter Try.func15, Try.ntmps15
  go_wp2_with (first
    | (go_at_call 29; refine HM.out.mono ?_; rintro e w1 ⟨rfl, hw⟩; subst w1; clear HM)
    | (go_at_call 30; refine HX.out.mono ?_; rintro e w1 ⟨rfl, hw⟩; subst w1; clear HX)
    | (go_at_call 31; refine HE.out.mono ?_; rintro e w1 ⟨rfl, hd1, ht1⟩; have c01 := duos_c0 w0 w1 S X c b _ _ hd1; obtain ⟨G1, hg1⟩ := duos_dev w0 w1 S X c b _ _ hd1; have HG1 := hide hg1; have HD1 := hide hd1; have HT1 := hide ht1; clear HE hd1 ht1 hg1)
    | (go_at_call 19; refine (duos_hasnt w0 w1 S X c b _ _ HD1.out p HW.out HF.out).mono ?_; rintro e w2 ⟨rfl, hw⟩; subst w2)
    | (go_at_call 17; refine (read_off w1 b G1 d' p HG1.out HP.out HOF.out).mono ?_; rintro e w2 ⟨rfl, hw⟩; subst w2))
  go_ret2
  exact ⟨rfl, HD1.out, HT1.out⟩

set_option maxHeartbeats 1000000 in
theorem get_new (k : Nat) (hk : k < 900000) (h : Duos w0 S X w c b ch d) (hf : Few k ch d) (p : Nat) (hp : p < d.st.length) (hx : findC ch.l p = none) (he : (roomC { ch with misses := ch.misses + 1 } d).1 = 0) (hon : (roomC { ch with misses := ch.misses + 1 } d).2.2.off = false) :
    Calls Try.prog 15 #[dp c, .int .i64 p] w fun e w' => ∃ v, e = .returned (.tuple #[v, .int .i64 0]) ∧ Handed w0 S X w' c b v 0 (showsD (roomC { ch with misses := ch.misses + 1 } d).2.2 p) { (roomC { ch with misses := ch.misses + 1 } d).2.1 with l := ⟨p, showsD (roomC { ch with misses := ch.misses + 1 } d).2.2 p, false, 0⟩ :: (roomC { ch with misses := ch.misses + 1 } d).2.1.l } (roomC { ch with misses := ch.misses + 1 } d).2.2 ∧ Turn w0 S X w w' := by
  have HX := hide (exists_any w0 w S X c b ch d h p)
  rw [decide_eq_true (by omega)] at HX
  have HE := hide (meet_any w0 w S X c b ch d k hk h hf p hp)
  have em : meetC ch d p = roomC { ch with misses := ch.misses + 1 } d := by unfold meetC; rw [hx]
  rw [em] at HE
  have HM := hide (cmade_any w c b (duos_c0 w0 w S X c b ch d h))
  have hst := h.dvok.few
  have HF : Hid (findC (roomC { ch with misses := ch.misses + 1 } d).2.1.l p = none) := roomC_find (c := { ch with misses := ch.misses + 1 }) hx
  have HP : Hid (p < (roomC { ch with misses := ch.misses + 1 } d).2.2.st.length) := by show _ < _; rw [roomC_st]; omega
  have HRM : Hid ((roomC { ch with misses := ch.misses + 1 } d).2.1.l.length < (roomC { ch with misses := ch.misses + 1 } d).2.1.size) := by
    show _ < _
    rw [(roomC_size { ch with misses := ch.misses + 1 } d).1]
    exact roomC_room (n := d.st.length) ⟨h.ok.lo, h.ok.hi, h.ok.few, h.ok.nodup, h.ok.pages⟩ he
  have HW := hide (wf_nat (p := p) (by omega))
  clear h hp hf hx em
  generalize roomC { ch with misses := ch.misses + 1 } d = R at *
  obtain ⟨E, ch', d'⟩ := R
  simp only at he hon HE HF HP HRM ⊢
  subst he
  have HON := hide hon
  clear hon
  have hza := zeroArrRun
  obtain ⟨bs, hbs⟩ : ∃ bs, showsD d' p = bs := ⟨_, rfl⟩
  have HBS := hide hbs
  rw [hbs]
  clear hbs
  go_enter Try.func15, Try.ntmps15
  go_wp2_with (first
    | ((with_reducible refine wpList_load_mid rfl 66 (.tmp 55) rfl s4 0 ?_ (pc bs) _ HR.out Try.underlying66 rfl HZ1.out ?_); exact rfl)
    | ((with_reducible refine wpList_store_new rfl 66 (.tmp 9) (.tmp 56) rfl pageZero (pc bs).toArray 66 ?_ ?_ HZ3.out HZ2.out HZ4.out ?_); exact rfl; exact rfl)
    | (go_at_call 29; refine HM.out.mono ?_; rintro e w1 ⟨rfl, hw⟩; subst w1; clear HM)
    | (go_at_call 30; refine HX.out.mono ?_; rintro e w1 ⟨rfl, hw⟩; subst w1; clear HX)
    | (go_at_call 31; refine HE.out.mono ?_; rintro e w1 ⟨rfl, hd1, ht1⟩; have c01 := duos_c0 w0 w1 S X c b _ _ hd1; obtain ⟨G1, hg1⟩ := duos_dev w0 w1 S X c b _ _ hd1; have HPO : Hid (PageOk bs) := HBS.out ▸ hd1.dvok.shows HP.out; obtain ⟨z1, z2, z3, z4⟩ := arr_facts HPO.out; have HZ1 := hide z1; have HZ2 := hide z2; have HZ3 := hide z3; have HZ4 := hide z4; have HG1 := hide hg1; have HD1 := hide hd1; have HT1 := hide ht1; clear HE hd1 ht1 hg1 z1 z2 z3 z4)
    | (go_at_call 19; refine (duos_hasnt w0 w1 S X c b _ _ HD1.out p HW.out HF.out).mono ?_; rintro e w2 ⟨rfl, hw⟩; subst w2)
    | (go_at_call 17; refine (read_ok w1 b G1 d' p HG1.out HP.out HON.out).mono ?_; rintro e w2 ⟨rfl, hb2, hl2⟩; rw [HBS.out] at hb2; have HB2 := hide hb2; have HD2 := hide (HD1.out.grow hl2); have HT2 : Hid (Turn w0 S X w1 w2) := Turn.of_below hl2; clear hb2 hl2)
    | (go_at_call 32; refine (holdP_new w0 w2 S _ c b _ _ _ _ _ _ HD2.out.p p (by have := HP.out; have := HD2.out.dvok.few; omega) (by have := HRM.out; have := HD2.out.ok.hi; omega) HF.out _ bs (blk_sl HB2.out HPO.out) HPO.out.1 (fun k hk => by simp [Value.ownBlock] at hk; subst hk; exact .inr ⟨Nat.le_refl _, HB2.out.lt⟩)).mono ?_; rintro e w3 ⟨rfl, hd3, ht3⟩; have HD3 := hide hd3; have HT3 : Hid (Turn w0 S X w2 w3) := ht3.mono (fun k _ h => ⟨h.1, fun hx => h.2 (.inl hx)⟩); clear hd3 ht3)
    | (go_at_call 33; refine (useP w0 w3 S _ c b _ _ _ _ _ _ HD3.out p (⟨p, bs, false, 0⟩ :: ch'.l) (by rw [← useC_new (h := ⟨p, bs, false, 0⟩) HF.out]; exact ordC_use HD2.out.ok.nodup ⟨p, bs, false, 0⟩) (by have := HRM.out; have := HD2.out.ok.hi; simp only [List.length_cons]; omega) (fun _ => Iff.rfl) rfl (ok_new (x := ⟨p, bs, false, 0⟩) HD2.out.ok HRM.out HP.out HPO.out HF.out).nodup).mono ?_; rintro e w4 ⟨rfl, hd4, ht4⟩; have hD4 : Duos w0 S X w4 c b { ch' with l := ⟨p, bs, false, 0⟩ :: ch'.l } d' := (DuosP.duos (ch := { ch' with l := ⟨p, bs, false, 0⟩ :: ch'.l }) hd4 (ok_new (x := ⟨p, bs, false, 0⟩) HD2.out.ok HRM.out HP.out HPO.out HF.out)).less (fun _ h => .inl h); have HT4 : Hid (Turn w0 S X w3 w4) := ht4.mono (fun k _ h => ⟨h.1, fun hx => h.2 (.inl hx)⟩); obtain ⟨mb4, s4, c24, hlk4, hr4⟩ := duos_look w0 w4 S X c b _ d' hD4 ⟨p, bs, false, 0⟩ (List.mem_cons_self ..); simp only at hlk4 hr4; have HR := hide hr4; have HD4 := hide hD4; clear hr4 hd4 ht4 hD4 HD3))
  go_ret2
  obtain ⟨q1, q2⟩ := handed_new w0 w4 S X c b _ d' HD4.out bs HPO.out
  exact ⟨_, rfl, q1, ((((HT1.out.trans HT2.out).trans HT3.out).trans HT4.out).trans q2)⟩

theorem get_any (k : Nat) (hk : k < 900000) (h : Duos w0 S X w c b ch d) (hf : Few k ch d) (p : Int) :
    Calls Try.prog 15 #[dp c, .int .i64 p] w fun e w' => ∃ v, e = .returned (.tuple #[v, .int .i64 (getC ch d p).1]) ∧ Handed w0 S X w' c b v (getC ch d p).1 (getC ch d p).2.1 (getC ch d p).2.2.1 (getC ch d p).2.2.2 ∧ Turn w0 S X w w' := by
  unfold getC
  by_cases hp : 0 ≤ p ∧ p < d.st.length
  · rw [if_pos hp]
    obtain ⟨P, rfl⟩ : ∃ P : Nat, p = (P : Int) := ⟨p.toNat, by omega⟩
    have hP : P < d.st.length := by omega
    simp only [Int.toNat_natCast]
    cases hx : findC ch.l (P : Int) with
    | some x => exact get_hit w0 w S X c b ch d k hk h hf P hP x hx
    | none =>
      simp only
      by_cases he : (roomC { ch with misses := ch.misses + 1 } d).1 = 0
      · rw [if_pos he]
        cases hoff : (roomC { ch with misses := ch.misses + 1 } d).2.2.off with
        | true =>
          rw [if_pos rfl]
          refine (get_dark w0 w S X c b ch d k hk h hf P hP hx he hoff).mono ?_
          rintro e w' ⟨rfl, h1, h2⟩
          exact ⟨_, rfl, .inr ⟨(show (5 : Int) ≠ 0 by decide), rfl, h1⟩, h2⟩
        | false =>
          rw [if_neg (by decide)]
          exact get_new w0 w S X c b ch d k hk h hf P hP hx he hoff
      · rw [if_neg he]
        have em : meetC ch d P = roomC { ch with misses := ch.misses + 1 } d := by unfold meetC; rw [hx]
        have key := get_no w0 w S X c b ch d k hk h hf P hP (by rw [em]; exact he)
        rw [em] at key
        refine key.mono ?_
        rintro e w' ⟨rfl, h1, h2⟩
        exact ⟨_, rfl, .inr ⟨he, rfl, h1⟩, h2⟩
  · rw [if_neg hp]
    refine (get_arg w0 w S X c b ch d h p hp).mono ?_
    rintro e w' ⟨rfl, rfl⟩
    exact ⟨_, rfl, .inr ⟨(show (1 : Int) ≠ 0 by decide), rfl, h⟩, Turn.refl _ _ _ _⟩
end

end Go.Proofs.Ytoplhehcjgldeaa
