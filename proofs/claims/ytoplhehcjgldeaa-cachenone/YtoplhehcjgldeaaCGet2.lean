/- Contract: Get. -/
import Derived.Test.YtoplhehcjgldeaaCGet
namespace Go.Proofs.Ytoplhehcjgldeaa
open Go.RowKit
set_option linter.unusedVariables false
set_option maxRecDepth 100000

def getC (c : Ch) (d : Dv) (p : Int) : Int × List Int × Ch × Dv :=
  if 0 ≤ p ∧ p < d.st.length then match findC c.l p with
    | some h => (0, h.bs, { c with l := useC c.l h, hits := c.hits + 1 }, d)
    | none => if (roomC { c with misses := c.misses + 1 } d).1 = 0 then
        (if (roomC { c with misses := c.misses + 1 } d).2.2.off = true then (5, [], (roomC { c with misses := c.misses + 1 } d).2.1, (roomC { c with misses := c.misses + 1 } d).2.2)
          else (0, showsD (roomC { c with misses := c.misses + 1 } d).2.2 p.toNat, { (roomC { c with misses := c.misses + 1 } d).2.1 with l := ⟨p.toNat, showsD (roomC { c with misses := c.misses + 1 } d).2.2 p.toNat, false, 0⟩ :: (roomC { c with misses := c.misses + 1 } d).2.1.l }, (roomC { c with misses := c.misses + 1 } d).2.2))
        else ((roomC { c with misses := c.misses + 1 } d).1, [], (roomC { c with misses := c.misses + 1 } d).2.1, (roomC { c with misses := c.misses + 1 } d).2.2)
  else (1, [], c, d)

theorem sizeArr : (Try.prog.info? 66).map (·.size) = some 256 := by kernel_rfl
theorem zeroArrRun (w : World) : (zeroValue 66).run Try.prog w = .ok (.agg pageZero) w := by kernel_rfl
theorem arr_facts {r : List Int} (h : PageOk r) : ((Try.prog.info? 66).map (·.size) = some (pc r).length) ∧ ((Try.prog.info? 66).map (·.size) = some (pc r).toArray.size) ∧ pageZero.size = (pc r).toArray.size ∧ (pc r).toArray.all (·.oneCell') = true := by
  have hl : (pc r).length = 256 := by rw [pc_len]; exact h.1
  exact ⟨by rw [hl]; exact sizeArr, by rw [List.size_toArray, hl]; exact sizeArr, pageZero_size.trans (by rw [List.size_toArray, hl]), all_oneCell_toArray (pc_one r)⟩
theorem slot_range {w : World} {g : Nat} {x : Hd} (h : Blk w g 68 (sc x)) : w.rangeAt g 0 (pc x.bs) := h.range 0 _ (fun j hj => by rw [Nat.zero_add]; unfold sc; rw [List.getElem?_append_left hj])

/-- what Get hands out: bytes of its own, which are none of the cache's -/
def Handed (w0 : World) (S X : Nat → Prop) (w : World) (c b : Nat) (v : Value) (e : Int) (zs : List Int) (ch : Ch) (d : Dv) : Prop :=
  (e = 0 ∧ ∃ g, v = .slice (some ⟨g, 0, none⟩) 256 256 ∧ PageOk zs ∧ Blk w g 66 (pc zs) ∧ ¬ X g ∧ Duos w0 S (fun k => X k ∨ k = g) w c b ch d) ∨ (e ≠ 0 ∧ v = .slice none 0 0 ∧ Duos w0 S X w c b ch d)

section
variable (w0 w : World) (S X : Nat → Prop) (c b : Nat) (ch : Ch) (d : Dv)

theorem get_arg (h : Duos w0 S X w c b ch d) (p : Int) (hp : ¬ (0 ≤ p ∧ p < d.st.length)) :
    Calls Try.prog 15 #[dp c, .int .i64 p] w fun e w' => e = .returned (.tuple #[.slice none 0 0, .int .i64 1]) ∧ w' = w := by
  have HX := hide (exists_any w0 w S X c b ch d h p)
  rw [decide_eq_false hp] at HX
  obtain ⟨H, G, ⟨mb, vo, D, sl, h1⟩, _⟩ := id h
  have HM := hide (cmade_any w c b h1.blk.c0)
  clear h h1 hp
  go_enter Try.func15, Try.ntmps15
  go_wp2_with (first
    | (go_at_call 29; refine HM.out.mono ?_; rintro e w1 ⟨rfl, hw⟩; subst w1; clear HM)
    | (go_at_call 30; refine HX.out.mono ?_; rintro e w1 ⟨rfl, hw⟩; subst w1; clear HX))
  go_ret2
  exact ⟨rfl, rfl⟩

theorem get_no (k : Nat) (hk : k < 900000) (h : Duos w0 S X w c b ch d) (hf : Few k ch d) (p : Nat) (hp : p < d.st.length) (he : (meetC ch d p).1 ≠ 0) :
    Calls Try.prog 15 #[dp c, .int .i64 p] w fun e w' => e = .returned (.tuple #[.slice none 0 0, .int .i64 (meetC ch d p).1]) ∧ Duos w0 S X w' c b (meetC ch d p).2.1 (meetC ch d p).2.2 ∧ Turn w0 S X w w' := by
  have HX := hide (exists_any w0 w S X c b ch d h p)
  rw [decide_eq_true (by omega)] at HX
  have HE := hide (meet_any w0 w S X c b ch d k hk h hf p hp)
  obtain ⟨H, G, ⟨mb, vo, D, sl, h1⟩, _⟩ := id h
  have HM := hide (cmade_any w c b h1.blk.c0)
  clear h h1 hp hf
  generalize meetC ch d p = R at he HE ⊢
  go_enter Try.func15, Try.ntmps15
  go_wp2_with (first
    | (go_at_call 29; refine HM.out.mono ?_; rintro e w1 ⟨rfl, hw⟩; subst w1; clear HM)
    | (go_at_call 30; refine HX.out.mono ?_; rintro e w1 ⟨rfl, hw⟩; subst w1; clear HX)
    | (go_at_call 31; refine HE.out.mono ?_; rintro e w1 ⟨rfl, hd1, ht1⟩; have HD1 := hide hd1; have HT1 := hide ht1; clear HE hd1 ht1))
  go_ret2
  exact ⟨rfl, HD1.out, HT1.out⟩

theorem use_any (H G : Nat → Prop) (os : List Int) (l : List Hd) (hits misses : Nat) (mb : Nat) (vo : Value) (D : DataW Unit) (sl : Nat → Nat) (size : Nat) (h1 : CachAt w c b H size os l hits misses mb vo D sl) (p : Nat) (l' : List Hd) (he : os.erase p ++ [(p : Int)] = ordC l') (hl : l'.length ≤ 64) (hm : ∀ x, x ∈ l' ↔ x ∈ l) (hll : l'.length = l.length) (hn : (l'.map (·.p)).Nodup) :
    Calls Try.prog 33 #[dp c, .int .i64 p] w fun e w' => e = .returned (.tuple #[]) ∧ (∃ vo', CachAt w' c b (fun k => H k ∨ w.heap.size ≤ k) size (ordC l') l' hits misses mb vo' D sl) ∧ Only H w w' := by
  have hs : (os.erase p).length < 1000 := by
    have := congrArg List.length he
    rw [ordC_len] at this
    simp only [List.length_append, List.length_cons, List.length_nil] at this
    omega
  refine (use_at w c b H size os l hits misses mb vo D sl h1 p hs).mono ?_
  rintro e w' ⟨rfl, ⟨vo', h2⟩, ho⟩
  rw [he] at h2
  exact ⟨rfl, ⟨vo', ⟨h2.blk, h2.order, h2.slots.relist hm hll hn, h2.fc, h2.fo, h2.few⟩⟩, ho⟩

/-- a page that is held is used -/
theorem ok_use {n : Nat} {ch : Ch} (ok : ChOk n ch) (hits : Nat) {x : Hd} (hx : x ∈ ch.l) : ChOk n { ch with l := useC ch.l x, hits := hits } ∧ (useC ch.l x).length = ch.l.length ∧ ∀ y, y ∈ useC ch.l x ↔ y ∈ ch.l := by
  have hl := useC_len ok.nodup x (findC_mem ok.nodup hx)
  have hm : ∀ y, y ∈ useC ch.l x ↔ y ∈ ch.l := fun y => by
    rw [mem_useC]
    constructor
    · rintro (rfl | h)
      · exact hx
      · exact h.1
    · intro hy
      by_cases e : y.p = x.p
      · exact .inl (nodup_inj ok.nodup hy hx e)
      · exact .inr ⟨hy, e⟩
  exact ⟨⟨ok.lo, ok.hi, by show (useC ch.l x).length ≤ ch.size; rw [hl]; exact ok.few, useC_nodup ok.nodup x, fun y hy => ok.pages y ((hm y).1 hy)⟩, hl, hm⟩

/-- the cache's use, at the level of the pair -/
theorem use_duos (h : Duos w0 S X w c b ch d) (x : Hd) (hx : x ∈ ch.l) :
    Calls Try.prog 33 #[dp c, .int .i64 x.p] w fun e w' => e = .returned (.tuple #[]) ∧ Duos w0 S X w' c b { ch with l := useC ch.l x } d ∧ Turn w0 S X w w' := by
  obtain ⟨H, G, ⟨mb, vo, D, sl, h1⟩, h2, h3, h4, h5, h6, h7⟩ := h
  obtain ⟨o1, o2, o3⟩ := ok_use h7 ch.hits hx
  have := h7.hi
  have := h7.few
  refine (use_any w c b H G (ordC ch.l) ch.l ch.hits ch.misses mb vo D sl ch.size h1 x.p (useC ch.l x) (ordC_use h7.nodup x) (by omega) o3 o2 o1.nodup).mono ?_
  rintro e w' ⟨rfl, ⟨vo', k1⟩, ho⟩
  have ho' : Only (fun k => H k ∨ G k) w w' := ho.mono (fun _ _ h => .inl h)
  refine ⟨rfl, duos_step h3 h4 h5 h6 ⟨mb, vo', D, sl, k1⟩ (h2.keep ho (fun k hg hh => h3 k hh hg)) ho' (fun _ h => h) (fun _ h => .inl h) (fun k _ hh hg => ?_) o1, turn_step h4 ho'⟩
  rcases hh with hh | hh
  · exact h3 k hh hg
  · have := (h4 k (.inr hg)).2.2; omega

/-- a page's bytes, as the cache holds them -/
theorem duos_look (h : Duos w0 S X w c b ch d) (x : Hd) (hx : x ∈ ch.l) : ∃ mb s, w.cell? ⟨c, 2, none⟩ = some (.map (some mb)) ∧ (Instr.lookup 51 (.map (some mb)) (.int .i64 x.p) false).run Try.prog w = .ok (dp s) w ∧ w.rangeAt s 0 (pc x.bs) := by
  obtain ⟨H, G, ⟨mb, vo, D, sl, h1⟩, _⟩ := h
  exact ⟨mb, sl x.p, h1.blk.c2, h1.slots.look hx, slot_range (h1.slots.slot x hx)⟩
theorem duos_has (h : Duos w0 S X w c b ch d) (x : Hd) (hx : x ∈ ch.l) : Calls Try.prog 19 #[dp c, .int .i64 x.p] w fun e w' => e = .returned (.bool true) ∧ w' = w := by
  obtain ⟨H, G, ⟨mb, vo, D, sl, h1⟩, _⟩ := h
  exact chas_yes w c b H ch.size (ordC ch.l) ch.l ch.hits ch.misses mb vo D sl h1 x hx
theorem duos_hasnt (h : Duos w0 S X w c b ch d) (p : Int) (hp : Wf p) (hn : findC ch.l p = none) : Calls Try.prog 19 #[dp c, .int .i64 p] w fun e w' => e = .returned (.bool false) ∧ w' = w := by
  obtain ⟨H, G, ⟨mb, vo, D, sl, h1⟩, _⟩ := h
  exact chas_no w c b H ch.size (ordC ch.l) ch.l ch.hits ch.misses mb vo D sl h1 p hp hn
theorem handed_new (h : Duos w0 S X w c b ch d) (zs : List Int) (hz : PageOk zs) : Handed w0 S X (w.alloc (.cells (pc zs).toArray 66)) c b (.slice (some ⟨w.heap.size, 0, none⟩) 256 256) 0 zs ch d ∧ Turn w0 S X w (w.alloc (.cells (pc zs).toArray 66)) := by
  have hb : Below w.heap.size w (w.alloc (.cells (pc zs).toArray 66)) := (Below.refl _ w).alloc (Nat.le_refl _) _
  have hX : ∀ k, X k → k < w.heap.size := by obtain ⟨_, _, _, _, _, _, h, _⟩ := h; exact h
  exact ⟨.inl ⟨rfl, _, rfl, hz, Blk.new w _ _, fun hx => Nat.lt_irrefl _ (hX _ hx), (h.grow hb).less (fun k hk => hk.imp_right (fun e => by subst e; exact ⟨Nat.le_refl _, by simp⟩))⟩, Turn.of_below hb⟩

set_option maxHeartbeats 1000000 in
theorem get_hit (k : Nat) (hk : k < 900000) (h : Duos w0 S X w c b ch d) (hf : Few k ch d) (p : Nat) (hp : p < d.st.length) (x : Hd) (hx : findC ch.l p = some x) :
    Calls Try.prog 15 #[dp c, .int .i64 p] w fun e w' => ∃ v, e = .returned (.tuple #[v, .int .i64 0]) ∧ Handed w0 S X w' c b v 0 x.bs { ch with l := useC ch.l x, hits := ch.hits + 1 } d ∧ Turn w0 S X w w' := by
  have HX := hide (exists_any w0 w S X c b ch d h p)
  rw [decide_eq_true (by omega)] at HX
  have HE := hide (meet_any w0 w S X c b ch d k hk h hf p hp)
  have em : meetC ch d p = (0, { ch with hits := ch.hits + 1 }, d) := by unfold meetC; rw [hx]
  rw [em] at HE
  obtain ⟨H, G, ⟨mb, vo, D, sl, h1⟩, _⟩ := id h
  have HM := hide (cmade_any w c b h1.blk.c0)
  obtain ⟨hxm, hxp⟩ := findC_some hx
  have hxp' : x.p = p := by omega
  subst hxp'
  have HXM := hide hxm
  have HUM := hide (ok_use h.ok ch.hits hxm).2.2
  have HPO := hide (h.ok.pages x hxm).2
  obtain ⟨z1, z2, z3, z4⟩ := arr_facts (h.ok.pages x hxm).2
  have HZ1 := hide z1
  have HZ2 := hide z2
  have HZ3 := hide z3
  have HZ4 := hide z4
  have hza := zeroArrRun
  clear h h1 hp hf hx hxm hxp em z1 z2 z3 z4
  go_enter Try.func15, Try.ntmps15
  go_wp2_with (first
    | ((with_reducible refine wpList_load_mid rfl 66 (.tmp 55) rfl s2 0 ?_ (pc x.bs) _ HR.out Try.underlying66 rfl HZ1.out ?_); exact rfl)
    | ((with_reducible refine wpList_store_new rfl 66 (.tmp 9) (.tmp 56) rfl pageZero (pc x.bs).toArray 66 ?_ ?_ HZ3.out HZ2.out HZ4.out ?_); exact rfl; exact rfl)
    | (go_at_call 29; refine HM.out.mono ?_; rintro e w1 ⟨rfl, hw⟩; subst w1; clear HM)
    | (go_at_call 30; refine HX.out.mono ?_; rintro e w1 ⟨rfl, hw⟩; subst w1; clear HX)
    | (go_at_call 31; refine HE.out.mono ?_; rintro e w1 ⟨rfl, hd1, ht1⟩; have HD1 := hide hd1; have HT1 := hide ht1; clear HE hd1 ht1)
    | (go_at_call 19; refine (duos_has w0 w1 S X c b _ d HD1.out x HXM.out).mono ?_; rintro e w2 ⟨rfl, hw⟩; subst w2)
    | (go_at_call 33; refine (use_duos w0 w1 S X c b _ d HD1.out x HXM.out).mono ?_; rintro e w2 ⟨rfl, hd2, ht2⟩; obtain ⟨mb2, s2, c22, hlk2, hr2⟩ := duos_look w0 w2 S X c b _ d hd2 x ((HUM.out x).2 HXM.out); have HR := hide hr2; have HD2 := hide hd2; have HT2 := hide ht2; clear hr2 hd2 ht2 HD1))
  go_ret2
  obtain ⟨q1, q2⟩ := handed_new w0 w2 S X c b _ d HD2.out x.bs HPO.out
  exact ⟨_, rfl, q1, (HT1.out.trans HT2.out).trans q2⟩
end

end Go.Proofs.Ytoplhehcjgldeaa
