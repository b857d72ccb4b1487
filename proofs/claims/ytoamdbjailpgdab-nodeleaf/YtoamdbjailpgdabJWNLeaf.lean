/- NodeLeaf, walked. -/
import Derived.Test.YtoamdbjailpgdabJNCg
import Derived.Test.YtoamdbjailpgdabNRefS
import Derived.Test.YtoamdbjailpgdabNLive
import Derived.Test.YtoamdbjailpgdabNFew
import Derived.Test.YtoamdbjailpgdabRegion
import Derived.Test.YtoamdbjailpgdabNPutI
namespace Go.Proofs.Ytoamdbjailpgdab
set_option maxRecDepth 20000
open Go.RowKit Go.Shelf
set_option linter.unusedVariables false
set_option linter.unusedSimpArgs false
set_option maxRecDepth 100000
attribute [local go_sem] Oper.semAt_some

theorem nds_l1 {w : World} {v : Value} {n : Nd} (h : NdV w v n) {lf : Bool} {p k c : Value} (hv : v = .agg #[.bool lf, p, k, c]) : Nds (w.alloc (.cells #[.bool lf, p, k, c] 26)) w.heap.size [v] [n] := by
  refine ⟨rfl, fun i hi => ?_⟩
  obtain rfl : i = 0 := by simp at hi; omega
  refine ⟨h.alloc _, ?_⟩
  have hB := Blk.new w 26 [.bool lf, p, k, c]
  subst hv
  exact hB.range 0 _ (fun j hj => by rw [Nat.zero_add]; rfl)
theorem sameN_two (a : Nd) : sameN a a = true := by simp [sameN]
def isNodeL (n : Nd) : Value → World → Prop := fun v w => NdV w v n
def isPrL (ps : List (List Int × List Int)) : Value → World → Prop := fun v w => ∃ xs, Prs w v xs ps
theorem stable_isNodeL (n : Nd) : ∀ v w w', Below w.heap.size w w' → isNodeL n v w → isNodeL n v w' := fun v w w' hb h => NdV.below h hb
theorem stable_isPrL (ps : List (List Int × List Int)) : ∀ v w w', Below w.heap.size w w' → isPrL ps v w → isPrL ps v w' := fun v w w' hb ⟨xs, h⟩ => ⟨xs, h.below hb⟩
/-- the node's box, and the key's -/
def LfB (w : World) (A : List Value) (kv : Value) (W : World) : Prop := Below w.heap.size w W ∧ Blk W w.heap.size 26 A ∧ Blk W (w.heap.size + 1) 27 [kv]
theorem LfB.grow {w W W' : World} {A : List Value} {kv : Value} (h : LfB w A kv W) (hb : Below W.heap.size W W') : LfB w A kv W' := ⟨h.1.trans (hb.mono h.1.size), h.2.1.below hb h.2.1.lt, h.2.2.below hb h.2.2.lt⟩
theorem nd_prs {W : World} {l : Bool} {p k q : Value} {n : Nd} (h : NdV W (.agg #[.bool l, p, k, q]) n) : ∃ xs, Prs W p xs n.ps := by
  obtain ⟨vp, vk, vc, xs, ys, he, h1, _⟩ := h
  have hp : p = vp := by
    simp only [ndv, Value.agg.injEq] at he
    have := congrArg (fun a => a.getD 1 undef) he
    simpa using this
  subst hp
  exact ⟨xs, h1⟩

set_option maxHeartbeats 8000000 in
theorem nodeLeaf_walk (w : World) (v : Value) (n : Nd) (kv : Value) (key : List Int) (vv : Value) (val : List Int) (hv : NdV w v n) (hk : Sl w kv key) (hvv : Sl w vv val) :
    Calls Try.prog 4 #[v, kv, vv] w fun e w' => e = .returned (.bool true) ∧ Below w.heap.size w w' := by
  have HLV := hide live_any
  have HFW : Hid (∀ w1, Below w.heap.size w w1 → ∀ lf p k c, v = .agg #[.bool lf, p, k, c] → Calls Try.prog 8 #[.slice (some ⟨w1.heap.size, 0, none⟩) 1 1] (w1.alloc (.cells #[.bool lf, p, k, c] 26)) fun e w' => e = .returned (.bool (fewN [n])) ∧ Below w1.heap.size w1 w') := fun w1 hb lf p k c he =>
    (few_any _ _ 1 [v] [n] (nds_l1 (hv.below hb) he) (by simp)).mono fun e w' ⟨h1, h2⟩ => ⟨h1, after_alloc h2⟩
  have HST : Hid (∀ w1, Below w.heap.size w w1 → Calls Try.prog 18 #[v, kv, vv] w1 fun e w' => ∃ l p m, (setN n key val).ps.length = m ∧ ∃ c kx mk kc q mq qc, e = .returned (.tuple #[.agg #[.bool l, .slice p m c, .slice kx mk kc, .slice q mq qc], .int .i64 (setE n key val)]) ∧ NdV w' (.agg #[.bool l, .slice p m c, .slice kx mk kc, .slice q mq qc]) (setN n key val) ∧ Below w1.heap.size w1 w') := fun w1 hb => (set_any w1 v n (hv.below hb) kv key (hk.below hb) vv val (hvv.below hb)).mono (by
    rintro e w' ⟨u, rfl, h1, h2⟩
    have h3 := h1.val
    obtain ⟨pa, pc, ka, kc, ca, cc, xs, ys, rfl, _⟩ := h3.open
    exact ⟨_, pa, _, rfl, pc, ka, _, kc, ca, _, cc, rfl, h3, h2⟩)
  have HUN : Hid (∀ w1, Below w.heap.size w w1 → Calls Try.prog 22 #[v, kv] w1 fun e w' => ∃ l p m c kx mk kc q mq qc, e = .returned (.tuple #[.agg #[.bool l, .slice p m c, .slice kx mk kc, .slice q mq qc], .int .i64 (unsetE n key)]) ∧ NdV w' (.agg #[.bool l, .slice p m c, .slice kx mk kc, .slice q mq qc]) (unsetN n key) ∧ Below w1.heap.size w1 w') := fun w1 hb => (unset_any w1 v n (hv.below hb) kv key (hk.below hb)).mono (by
    rintro e w' ⟨u, rfl, h1, h2⟩
    have h3 := h1.val
    obtain ⟨pa, pc, ka, kc, ca, cc, xs, ys, rfl, _⟩ := h3.open
    exact ⟨_, pa, _, pc, ka, _, kc, ca, _, cc, rfl, h3, h2⟩)
  have HFN : Hid (∀ w1, Below w.heap.size w w1 → Calls Try.prog 19 #[v, kv] w1 fun e w' => e = .returned (.tuple #[.int .i64 (findN n key), .bool (findB n key)]) ∧ Below w1.heap.size w1 w') := fun w1 hb => find_any w1 v n (hv.below hb) kv key (hk.below hb)
  have HFX : Hid (∀ w1 u, Below w.heap.size w w1 → NdV w1 u (setN n key val) → Calls Try.prog 19 #[u, kv] w1 fun e w' => e = .returned (.tuple #[.int .i64 (findN (setN n key val) key), .bool (findB (setN n key val) key)]) ∧ Below w1.heap.size w1 w') := fun w1 u hb hu => find_any w1 u _ hu kv key (hk.below hb)
  have HFY : Hid (∀ w1 u, Below w.heap.size w w1 → NdV w1 u (unsetN n key) → Calls Try.prog 19 #[u, kv] w1 fun e w' => e = .returned (.tuple #[.int .i64 (findN (unsetN n key) key), .bool (findB (unsetN n key) key)]) ∧ Below w1.heap.size w1 w') := fun w1 u hb hu => find_any w1 u _ hu kv key (hk.below hb)
  have HSF := hide (@set_facts n key val)
  have HUF := hide (@unset_facts n key)
  have HUB := hide (@unset_bad n key)
  have HNV : Hid (∀ W, Below w.heap.size w W → NdV W v n) := fun W hb => hv.below hb
  have HSV : Hid (∀ W, Below w.heap.size w W → Sl W vv val) := fun W hb => hvv.below hb
  have HEQ : Hid (∀ w1 u1 u2, Sl w1 u1 val → Sl w1 u2 val → Calls Try.prog 17 #[u1, u2] w1 fun e w' => e = .returned (.bool true) ∧ Below w1.heap.size w1 w') := fun w1 u1 u2 h1 h2 => by
    have := equal_any w1 u1 u2 _ _ h1 h2
    rw [decide_eq_true rfl] at this
    exact this.mono fun e w' ⟨h1, h2⟩ => ⟨h1, by rw [h2]; exact Below.refl _ _⟩
  have HLF : Hid (∀ wx u xs ps, Prs wx u xs ps → Calls Try.prog 21 #[u] wx fun e w' => ∃ t, e = .returned t ∧ NdV w' t ⟨true, ps, [], []⟩ ∧ Below wx.heap.size wx w') := fun wx u xs ps h => lawLeaf_any wx u xs ps h
  have HSM : Hid (∀ wx u1 u2 m, NdV wx u1 m → NdV wx u2 m → Calls Try.prog 20 #[u1, u2] wx fun e w' => e = .returned (.bool true) ∧ Below wx.heap.size wx w') := fun wx u1 u2 m h1 h2 => by rw [← sameN_two m]; exact refSame_any wx _ _ _ _ h1 h2
  obtain ⟨lf, pa, np, pc, ka, nk, kc, ca, nc, cc, rfl, -⟩ := nd_open hv
  obtain ⟨ak, ck, rfl⟩ := sl_form' hk
  obtain ⟨av, cv, rfl⟩ := sl_form' hvv
  obtain ⟨mk, hmk⟩ : ∃ m, key.length = m := ⟨_, rfl⟩
  obtain ⟨mv, hmv⟩ : ∃ m, val.length = m := ⟨_, rfl⟩
  rw [hmk] at HST HUN HFN HFX HFY hk ⊢
  rw [hmv] at HST HSV ⊢
  have HOT : Hid (∀ wx u m, LfB w [.bool lf, .slice pa np pc, .slice ka nk kc, .slice ca nc cc] (.slice ak mk ck) wx → NdV wx u m → otherP key (allN m).ps = otherP key (allN n).ps → Calls Try.prog 14 #[u, .pointer (some ⟨w.heap.size + 1, 0, none⟩)] wx fun e w' => ∃ t xs, e = .returned t ∧ Prs w' t xs (otherP key (allN n).ps) ∧ Below wx.heap.size wx w') := fun wx u m hx hu he => by
    rw [← he]
    exact others_any wx u m hu (w.heap.size + 1) _ key hx.2.2 (hk.below hx.1)
  generalize fewN [n] = FW at *
  generalize setN n key val = XN at *
  generalize setE n key val = SE at *
  generalize unsetN n key = YN at *
  generalize unsetE n key = UE at *
  generalize findN n key = FI at *
  generalize findB n key = FB at *
  generalize findN XN key = FX at *
  generalize findB XN key = BX at *
  generalize findN YN key = FY at *
  generalize findB YN key = BY at *
  obtain ⟨OT, hOT⟩ : ∃ o, otherP key (allN n).ps = o := ⟨_, rfl⟩
  rw [hOT] at HOT HSF HUF
  have HOT2 : Hid (∀ wx u m, LfB w [.bool lf, .slice pa np pc, .slice ka nk kc, .slice ca nc cc] (.slice ak mk ck) wx → NdV wx u m → otherP key (allN m).ps = OT → Calls Try.prog 14 #[u, .pointer (some ⟨w.heap.size + 1, 0, none⟩)] wx fun e w' => ∃ t xs, e = .returned t ∧ Prs w' t xs OT ∧ Below wx.heap.size wx w') := HOT.out
  have HNO := hide hOT
  obtain ⟨w1, hw1⟩ : ∃ w1, (w.alloc (.cells #[.bool lf, .slice pa np pc, .slice ka nk kc, .slice ca nc cc] 26)).alloc (.cells #[.slice ak mk ck] 27) = w1 := ⟨_, rfl⟩
  have HX1 : Hid (LfB w [.bool lf, .slice pa np pc, .slice ka nk kc, .slice ca nc cc] (.slice ak mk ck) w1) := by
    rw [← hw1]
    refine ⟨((Below.refl _ w).alloc (Nat.le_refl _) _).alloc (by simp) _, (Blk.new w _ _).alloc _, ?_⟩
    have := Blk.new (w.alloc (.cells #[.bool lf, .slice pa np pc, .slice ka nk kc, .slice ca nc cc] 26)) 27 [.slice ak mk ck]
    rw [World.size_alloc] at this
    exact this
  have HFW1 : Hid (∀ w1, Below w.heap.size w w1 → Calls Try.prog 8 #[.slice (some ⟨w1.heap.size, 0, none⟩) 1 1] (w1.alloc (.cells #[.bool lf, .slice pa np pc, .slice ka nk kc, .slice ca nc cc] 26)) fun e w' => e = .returned (.bool FW) ∧ Below w1.heap.size w1 w') := fun w1 hb => HFW.out w1 hb _ _ _ _ rfl
  clear hv hk hvv HFW hmk hmv HOT hOT
  cases FW with
  | false =>
    go_enter Try.func4, Try.ntmps4
    go_wp2_with (first
      | (go_at_call 8; refine (HFW1.out w2 HX2.out.1).mono ?_; rintro e w3 ⟨rfl, hb3⟩; have HX3 := hide (HX2.out.grow hb3); (try clear za zb zc zd ze); obtain ⟨⟨za, zb, zc, zd⟩, _⟩ := node_cells HX3.out.2.1; have ze := HX3.out.2.2.cell 0; have HLV3 := hide (HLV.out w3); clear HFW1 hb3)
      | (go_at_call 7; refine HLV3.out.mono ?_; rintro e w4 ⟨rfl, hb4⟩; have HX4 := hide (HX3.out.grow hb4); clear HLV3 hb4)
      | (go_at_call 7; refine (HLV.out w1).mono ?_; rintro e w2 ⟨rfl, hb2⟩; have HX2 := hide (HX1.out.grow hb2); (try clear za zb zc zd ze); obtain ⟨⟨za, zb, zc, zd⟩, _⟩ := node_cells HX2.out.2.1; have ze := HX2.out.2.2.cell 0; clear hb2))
    go_ret
    exact ⟨rfl, HX4.out.1⟩
  | true =>
    by_cases hL : mk ≤ 300
    · have iL : ¬ (300 : Int) < (mk : Int) := by omega
      by_cases hL2 : mv ≤ 300
      · have iL2 : ¬ (300 : Int) < (mv : Int) := by omega
        by_cases hse : SE = 0
        · subst hse
          obtain ⟨hbx, hfx, hva, hxo⟩ := HSF.out rfl
          subst hbx
          have HVA := hide hva
          have HXO := hide hxo
          have HFXL := hide hfx
          clear HSF hva hxo hfx
          go_enter Try.func4, Try.ntmps4
          go_wp2_with (first
            | (go_at_call 7; refine (HLV.out w1).mono ?_; rintro e w2 ⟨rfl, hb2⟩; have HX2 := hide (HX1.out.grow hb2); (try clear za zb zc zd ze); obtain ⟨⟨za, zb, zc, zd⟩, _⟩ := node_cells HX2.out.2.1; have ze := HX2.out.2.2.cell 0; clear hb2)
            | (go_at_call 8; refine (HFW1.out w2 HX2.out.1).mono ?_; rintro e w3 ⟨rfl, hb3⟩; have HX3 := hide (HX2.out.grow hb3); (try clear za zb zc zd ze); obtain ⟨⟨za, zb, zc, zd⟩, _⟩ := node_cells HX3.out.2.1; have ze := HX3.out.2.2.cell 0; have HLV3 := hide (HLV.out w3); clear HFW1 hb3)
            | (go_at_call 18; refine (HST.out w3 HX3.out.1).mono ?_; rintro e w4 ⟨l4, p4, n4, hl4, c4, k4, nk4, kc4, q4, nq4, qc4, rfl, hn4, hb4⟩; have HX4 := hide (HX3.out.grow hb4); obtain ⟨w5, hw5, HB5, HC5, s0, s1, s2, s3⟩ := nd_box w4 l4 (.slice p4 n4 c4) (.slice k4 nk4 kc4) (.slice q4 nq4 qc4); have HX5 := hide (HX4.out.grow HB5.out); have HN5 := hide (hn4.below HB5.out); (try clear za zb zc zd ze); obtain ⟨⟨za, zb, zc, zd⟩, _⟩ := node_cells HX5.out.2.1; have ze := HX5.out.2.2.cell 0; obtain ⟨xs5, hp5⟩ := nd_prs HN5.out; obtain ⟨xb, xo, hp4, hr5, hs5a, hs5b⟩ := hp5.at FX HFXL.out; subst hp4; rw [HVA.out] at hs5b; obtain ⟨a5, m5, j5, hu5⟩ := sl_form hs5b; rw [hu5] at hs5b; have cu5 := hr5 1 _ rfl; rw [hu5] at cu5; have HU5 : Hid (w5.cell? ⟨xb, xo + FX * 2 + 1, none⟩ = some (.slice a5 m5 j5)) := cu5; have HS5 := hide hs5b; clear hp5 hr5 hs5a hs5b cu5 hu5; have HFXI : Hid ((FX : Int) < (n4 : Int)) := (by show _ < _; have := HFXL.out; omega); clear HST hb4 hn4)
            | (go_at_call 19; refine (HFX.out w5 _ HX5.out.1 HN5.out).mono ?_; rintro e w6 ⟨rfl, hb6⟩; have HX6 := hide (HX5.out.grow hb6); have HC6 := hide (HC5.out.below hb6 HC5.out.lt); have HN6 := hide (HN5.out.below hb6); have HU6 : Hid (w6.cell? ⟨xb, xo + FX * 2 + 1, none⟩ = some (.slice a5 m5 j5)) := (hb6.cell (p := ⟨xb, xo + FX * 2 + 1, none⟩) (World.block_lt_of_cell? w5 _ HU5.out)).trans HU5.out; have HS6 := hide (HS5.out.below hb6); (try clear za zb zc zd ze); obtain ⟨⟨za, zb, zc, zd⟩, _⟩ := node_cells HX6.out.2.1; have ze := HX6.out.2.2.cell 0; clear HFX hb6 HU5 HS5))
          refine wp_region_facts (FL [isV (.bool true), isV (.bool false), isV (.bool false), isV (.int .i64 (FX : Int)), isV (.bool false), isV (.bool false), isV (.bool false), isV (.int .i64 (FX : Int)), isV (.pointer (some ⟨w4.heap.size, 1, none⟩)), isV (.slice (some ⟨xb, xo, none⟩) n4 c4), isV (.int .i64 (n4 : Int)), isV (.bool false), isV (.bool false), isV (.bool false), isV (.pointer (some ⟨w4.heap.size, 1, none⟩)), isV (.slice (some ⟨xb, xo, none⟩) n4 c4), isV (.int .i64 (FX : Int)), isV (.pointer (some ⟨xb, xo + FX * 2, none⟩)), isV (.pointer (some ⟨xb, xo + FX * 2 + 1, none⟩)), isV (.slice a5 m5 j5), isV (.slice av mv cv), isV (.bool true), isV (.bool false), isV (.bool false), isV (.bool false), isV (.func (.func 14) #[] #[.pointer (some ⟨w.heap.size + 1, 0, none⟩)]), isV (.agg #[.bool l4, .slice (some ⟨xb, xo, none⟩) n4 c4, .slice k4 nk4 kc4, .slice q4 nq4 qc4]), isPrL (OT), isNodeL (⟨true, OT, [], []⟩), isV (.func (.func 14) #[] #[.pointer (some ⟨w.heap.size + 1, 0, none⟩)]), isV (.agg #[.bool lf, .slice pa np pc, .slice ka nk kc, .slice ca nc cc]), isPrL (OT), isNodeL (⟨true, OT, [], []⟩), isV (.bool true), isV (.bool false), isV (.bool false)]) 124 (by kernel_rfl) (by kernel_rfl) (by kernel_rfl) rfl (FL_stable _ (by repeat (first | exact trivial | refine ⟨stable_isV _, ?_⟩ | refine ⟨stable_isNodeL _, ?_⟩ | refine ⟨stable_isPrL _, ?_⟩))) ?_ ?_
          · refine ⟨?_, ?_, ?_, ?_, ?_, ?_, ?_, ?_, ?_, ?_, ?_, ?_, ?_, ?_, ?_, ?_, ?_, ?_, ?_, ?_, ?_, ?_, ?_, ?_, ?_, ?_, ?_, ?_, ?_, ?_, ?_, ?_, ?_, ?_, ?_, ?_, trivial⟩
            · intro act wx h
              have e11 : act.eval (.tmp 11) = .bool true := h.old 11 (by kernel_rfl)
              have hbel := h.below
              clear h
              refine gives_by rfl act.eval rfl ?_
              generalize act.eval = ρ at *
              intro hf hc
              go_simp
              exact ⟨Below.refl _ _, rfl⟩
            · intro act wx h
              obtain ⟨v53, e53, f53⟩ := h.val 0 53 (by kernel_rfl)
              obtain rfl : v53 = .bool true := f53
              have hbel := h.below
              clear h
              refine gives_by rfl act.eval rfl ?_
              generalize act.eval = ρ at *
              intro hf hc
              go_simp
              exact ⟨Below.refl _ _, rfl⟩
            · intro act wx h
              obtain ⟨v54, e54, f54⟩ := h.val 1 54 (by kernel_rfl)
              obtain rfl : v54 = .bool false := f54
              have hbel := h.below
              clear h
              refine gives_by rfl act.eval rfl ?_
              generalize act.eval = ρ at *
              intro hf hc
              go_simp
              exact ⟨Below.refl _ _, rfl⟩
            · intro act wx h
              have e10 : act.eval (.tmp 10) = .int .i64 (FX : Int) := h.old 10 (by kernel_rfl)
              have hg := h.guard 2 55 (by kernel_rfl) false (fun v hv => hv)
              have hbel := h.below
              clear h
              refine gives_by (by simp only [Region.wanted, hg]; rfl) act.eval rfl ?_
              generalize act.eval = ρ at *
              intro hf hc
              go_simp
              exact ⟨Below.refl _ _, rfl⟩
            · intro act wx h
              obtain ⟨v56, e56, f56⟩ := h.val 3 56 (by kernel_rfl)
              obtain rfl : v56 = .int .i64 (FX : Int) := f56
              have hg := h.guard 2 55 (by kernel_rfl) false (fun v hv => hv)
              have hbel := h.below
              clear h
              refine gives_by (by simp only [Region.wanted, hg]; rfl) act.eval rfl ?_
              generalize act.eval = ρ at *
              intro hf hc
              go_simp
              exact ⟨Below.refl _ _, by first | (simp [FL, isV]; done) | (simp [FL, isV]; omega)⟩
            · intro act wx h
              obtain ⟨v55, e55, f55⟩ := h.val 2 55 (by kernel_rfl)
              obtain rfl : v55 = .bool false := f55
              obtain ⟨v57, e57, f57⟩ := h.val 4 57 (by kernel_rfl)
              obtain rfl : v57 = .bool false := f57
              have hbel := h.below
              clear h
              refine gives_by rfl act.eval rfl ?_
              generalize act.eval = ρ at *
              intro hf hc
              go_simp
              exact ⟨Below.refl _ _, rfl⟩
            · intro act wx h
              obtain ⟨v58, e58, f58⟩ := h.val 5 58 (by kernel_rfl)
              obtain rfl : v58 = .bool false := f58
              have hbel := h.below
              clear h
              refine gives_by rfl act.eval rfl ?_
              generalize act.eval = ρ at *
              intro hf hc
              go_simp
              exact ⟨Below.refl _ _, rfl⟩
            · intro act wx h
              have e10 : act.eval (.tmp 10) = .int .i64 (FX : Int) := h.old 10 (by kernel_rfl)
              have hg := h.guard 6 59 (by kernel_rfl) false (fun v hv => hv)
              have hbel := h.below
              clear h
              refine gives_by (by simp only [Region.wanted, hg]; rfl) act.eval rfl ?_
              generalize act.eval = ρ at *
              intro hf hc
              go_simp
              exact ⟨Below.refl _ _, rfl⟩
            · intro act wx h
              have e8 : act.eval (.tmp 8) = .pointer (some ⟨w4.heap.size, 0, none⟩) := h.old 8 (by kernel_rfl)
              have hg := h.guard 6 59 (by kernel_rfl) false (fun v hv => hv)
              have hbel := h.below
              clear h
              refine gives_by (by simp only [Region.wanted, hg]; rfl) act.eval rfl ?_
              generalize act.eval = ρ at *
              intro hf hc
              go_simp
              exact ⟨Below.refl _ _, rfl⟩
            · intro act wx h
              obtain ⟨v61, e61, f61⟩ := h.val 8 61 (by kernel_rfl)
              obtain rfl : v61 = .pointer (some ⟨w4.heap.size, 1, none⟩) := f61
              have hg := h.guard 6 59 (by kernel_rfl) false (fun v hv => hv)
              have hbel := h.below
              clear h
              obtain ⟨y0, y1, y2, y3⟩ := box_ndc (HC6.out.below hbel HC6.out.lt)
              refine gives_by (by simp only [Region.wanted, hg]; rfl) act.eval rfl ?_
              generalize act.eval = ρ at *
              intro hf hc
              go_simp
              exact ⟨Below.refl _ _, rfl⟩
            · intro act wx h
              obtain ⟨v62, e62, f62⟩ := h.val 9 62 (by kernel_rfl)
              obtain rfl : v62 = .slice (some ⟨xb, xo, none⟩) n4 c4 := f62
              have hg := h.guard 6 59 (by kernel_rfl) false (fun v hv => hv)
              have hbel := h.below
              clear h
              refine gives_by (by simp only [Region.wanted, hg]; rfl) act.eval rfl ?_
              generalize act.eval = ρ at *
              intro hf hc
              go_simp
              exact ⟨Below.refl _ _, rfl⟩
            · intro act wx h
              obtain ⟨v60, e60, f60⟩ := h.val 7 60 (by kernel_rfl)
              obtain rfl : v60 = .int .i64 (FX : Int) := f60
              obtain ⟨v63, e63, f63⟩ := h.val 10 63 (by kernel_rfl)
              obtain rfl : v63 = .int .i64 (n4 : Int) := f63
              have hg := h.guard 6 59 (by kernel_rfl) false (fun v hv => hv)
              have hbel := h.below
              clear h
              have hfx := HFXI.out
              refine gives_by (by simp only [Region.wanted, hg]; rfl) act.eval rfl ?_
              generalize act.eval = ρ at *
              intro hf hc
              go_simp
              exact ⟨Below.refl _ _, by first | (simp [FL, isV]; done) | (simp [FL, isV]; omega)⟩
            · intro act wx h
              obtain ⟨v59, e59, f59⟩ := h.val 6 59 (by kernel_rfl)
              obtain rfl : v59 = .bool false := f59
              obtain ⟨v64, e64, f64⟩ := h.val 11 64 (by kernel_rfl)
              obtain rfl : v64 = .bool false := f64
              have hbel := h.below
              clear h
              refine gives_by rfl act.eval rfl ?_
              generalize act.eval = ρ at *
              intro hf hc
              go_simp
              exact ⟨Below.refl _ _, rfl⟩
            · intro act wx h
              obtain ⟨v65, e65, f65⟩ := h.val 12 65 (by kernel_rfl)
              obtain rfl : v65 = .bool false := f65
              have hbel := h.below
              clear h
              refine gives_by rfl act.eval rfl ?_
              generalize act.eval = ρ at *
              intro hf hc
              go_simp
              exact ⟨Below.refl _ _, rfl⟩
            · intro act wx h
              have e8 : act.eval (.tmp 8) = .pointer (some ⟨w4.heap.size, 0, none⟩) := h.old 8 (by kernel_rfl)
              have hg := h.guard 13 66 (by kernel_rfl) false (fun v hv => hv)
              have hbel := h.below
              clear h
              refine gives_by (by simp only [Region.wanted, hg]; rfl) act.eval rfl ?_
              generalize act.eval = ρ at *
              intro hf hc
              go_simp
              exact ⟨Below.refl _ _, rfl⟩
            · intro act wx h
              obtain ⟨v67, e67, f67⟩ := h.val 14 67 (by kernel_rfl)
              obtain rfl : v67 = .pointer (some ⟨w4.heap.size, 1, none⟩) := f67
              have hg := h.guard 13 66 (by kernel_rfl) false (fun v hv => hv)
              have hbel := h.below
              clear h
              obtain ⟨y0, y1, y2, y3⟩ := box_ndc (HC6.out.below hbel HC6.out.lt)
              refine gives_by (by simp only [Region.wanted, hg]; rfl) act.eval rfl ?_
              generalize act.eval = ρ at *
              intro hf hc
              go_simp
              exact ⟨Below.refl _ _, rfl⟩
            · intro act wx h
              have e10 : act.eval (.tmp 10) = .int .i64 (FX : Int) := h.old 10 (by kernel_rfl)
              have hg := h.guard 13 66 (by kernel_rfl) false (fun v hv => hv)
              have hbel := h.below
              clear h
              refine gives_by (by simp only [Region.wanted, hg]; rfl) act.eval rfl ?_
              generalize act.eval = ρ at *
              intro hf hc
              go_simp
              exact ⟨Below.refl _ _, rfl⟩
            · intro act wx h
              obtain ⟨v68, e68, f68⟩ := h.val 15 68 (by kernel_rfl)
              obtain rfl : v68 = .slice (some ⟨xb, xo, none⟩) n4 c4 := f68
              obtain ⟨v69, e69, f69⟩ := h.val 16 69 (by kernel_rfl)
              obtain rfl : v69 = .int .i64 (FX : Int) := f69
              have hg := h.guard 13 66 (by kernel_rfl) false (fun v hv => hv)
              have hbel := h.below
              clear h
              have hfx := HFXI.out
              refine gives_by (by simp only [Region.wanted, hg]; rfl) act.eval rfl ?_
              generalize act.eval = ρ at *
              intro hf hc
              go_simp
              exact ⟨Below.refl _ _, rfl⟩
            · intro act wx h
              obtain ⟨v70, e70, f70⟩ := h.val 17 70 (by kernel_rfl)
              obtain rfl : v70 = .pointer (some ⟨xb, xo + FX * 2, none⟩) := f70
              have hg := h.guard 13 66 (by kernel_rfl) false (fun v hv => hv)
              have hbel := h.below
              clear h
              refine gives_by (by simp only [Region.wanted, hg]; rfl) act.eval rfl ?_
              generalize act.eval = ρ at *
              intro hf hc
              go_simp
              exact ⟨Below.refl _ _, rfl⟩
            · intro act wx h
              obtain ⟨v71, e71, f71⟩ := h.val 18 71 (by kernel_rfl)
              obtain rfl : v71 = .pointer (some ⟨xb, xo + FX * 2 + 1, none⟩) := f71
              have hg := h.guard 13 66 (by kernel_rfl) false (fun v hv => hv)
              have hbel := h.below
              clear h
              have cu := (hbel.cell (p := ⟨xb, xo + FX * 2 + 1, none⟩) (World.block_lt_of_cell? w6 _ HU6.out)).trans HU6.out
              refine gives_by (by simp only [Region.wanted, hg]; rfl) act.eval rfl ?_
              generalize act.eval = ρ at *
              intro hf hc
              go_simp
              exact ⟨Below.refl _ _, rfl⟩
            · intro act wx h
              have e2 : act.eval (.tmp 2) = .slice av mv cv := h.old 2 (by kernel_rfl)
              have hg := h.guard 13 66 (by kernel_rfl) false (fun v hv => hv)
              have hbel := h.below
              clear h
              refine gives_by (by simp only [Region.wanted, hg]; rfl) act.eval rfl ?_
              generalize act.eval = ρ at *
              intro hf hc
              go_simp
              exact ⟨Below.refl _ _, rfl⟩
            · intro act wx h
              obtain ⟨v72, e72, f72⟩ := h.val 19 72 (by kernel_rfl)
              obtain rfl : v72 = .slice a5 m5 j5 := f72
              obtain ⟨v73, e73, f73⟩ := h.val 20 73 (by kernel_rfl)
              obtain rfl : v73 = .slice av mv cv := f73
              have hg := h.guard 13 66 (by kernel_rfl) false (fun v hv => hv)
              have hbel := h.below
              clear h
              refine gives_by (by simp only [Region.wanted, hg]; rfl) act.eval rfl ?_
              generalize act.eval = ρ at *
              intro hf hc
              go_simp
              exact call_gives (HEQ.out wx _ _ (HS6.out.below hbel) (HSV.out wx (HX6.out.grow hbel).1)) (fun _ => rfl)
            · intro act wx h
              obtain ⟨v74, e74, f74⟩ := h.val 21 74 (by kernel_rfl)
              obtain rfl : v74 = .bool true := f74
              have hg := h.guard 13 66 (by kernel_rfl) false (fun v hv => hv)
              have hbel := h.below
              clear h
              refine gives_by (by simp only [Region.wanted, hg]; rfl) act.eval rfl ?_
              generalize act.eval = ρ at *
              intro hf hc
              go_simp
              exact ⟨Below.refl _ _, rfl⟩
            · intro act wx h
              obtain ⟨v66, e66, f66⟩ := h.val 13 66 (by kernel_rfl)
              obtain rfl : v66 = .bool false := f66
              obtain ⟨v75, e75, f75⟩ := h.val 22 75 (by kernel_rfl)
              obtain rfl : v75 = .bool false := f75
              have hbel := h.below
              clear h
              refine gives_by rfl act.eval rfl ?_
              generalize act.eval = ρ at *
              intro hf hc
              go_simp
              exact ⟨Below.refl _ _, rfl⟩
            · intro act wx h
              obtain ⟨v76, e76, f76⟩ := h.val 23 76 (by kernel_rfl)
              obtain rfl : v76 = .bool false := f76
              have hbel := h.below
              clear h
              refine gives_by rfl act.eval rfl ?_
              generalize act.eval = ρ at *
              intro hf hc
              go_simp
              exact ⟨Below.refl _ _, rfl⟩
            · intro act wx h
              have e7 : act.eval (.tmp 7) = .func (.func 14) #[] #[.pointer (some ⟨w.heap.size + 1, 0, none⟩)] := h.old 7 (by kernel_rfl)
              have hg := h.guard 24 77 (by kernel_rfl) false (fun v hv => hv)
              have hbel := h.below
              clear h
              refine gives_by (by simp only [Region.wanted, hg]; rfl) act.eval rfl ?_
              generalize act.eval = ρ at *
              intro hf hc
              go_simp
              exact ⟨Below.refl _ _, rfl⟩
            · intro act wx h
              have e8 : act.eval (.tmp 8) = .pointer (some ⟨w4.heap.size, 0, none⟩) := h.old 8 (by kernel_rfl)
              have hg := h.guard 24 77 (by kernel_rfl) false (fun v hv => hv)
              have hbel := h.below
              clear h
              obtain ⟨y0, y1, y2, y3⟩ := box_ndc (HC6.out.below hbel HC6.out.lt)
              refine gives_by (by simp only [Region.wanted, hg]; rfl) act.eval rfl ?_
              generalize act.eval = ρ at *
              intro hf hc
              go_simp
              exact ⟨Below.refl _ _, rfl⟩
            · intro act wx h
              obtain ⟨v78, e78, f78⟩ := h.val 25 78 (by kernel_rfl)
              obtain rfl : v78 = .func (.func 14) #[] #[.pointer (some ⟨w.heap.size + 1, 0, none⟩)] := f78
              obtain ⟨v79, e79, f79⟩ := h.val 26 79 (by kernel_rfl)
              obtain rfl : v79 = .agg #[.bool l4, .slice (some ⟨xb, xo, none⟩) n4 c4, .slice k4 nk4 kc4, .slice q4 nq4 qc4] := f79
              have hg := h.guard 24 77 (by kernel_rfl) false (fun v hv => hv)
              have hbel := h.below
              clear h
              refine gives_by (by simp only [Region.wanted, hg]; rfl) act.eval rfl ?_
              generalize act.eval = ρ at *
              intro hf hc
              go_simp
              refine (HOT2.out wx _ XN (HX6.out.grow hbel) (HN6.out.below hbel) HXO.out).mono ?_
              rintro e w' ⟨u, xs, he, h1, h2⟩
              exact ⟨u, he, h2, xs, h1⟩
            · intro act wx h
              obtain ⟨v80, e80, f80⟩ := h.val 27 80 (by kernel_rfl)
              obtain ⟨xv80, pv80⟩ := f80
              have hg := h.guard 24 77 (by kernel_rfl) false (fun v hv => hv)
              have hbel := h.below
              clear h
              refine gives_by (by simp only [Region.wanted, hg]; rfl) act.eval rfl ?_
              generalize act.eval = ρ at *
              intro hf hc
              go_simp
              refine (HLF.out wx _ _ _ pv80).mono ?_
              rintro e w' ⟨u, he, h1, h2⟩
              exact ⟨u, he, h2, h1⟩
            · intro act wx h
              have e7 : act.eval (.tmp 7) = .func (.func 14) #[] #[.pointer (some ⟨w.heap.size + 1, 0, none⟩)] := h.old 7 (by kernel_rfl)
              have hg := h.guard 24 77 (by kernel_rfl) false (fun v hv => hv)
              have hbel := h.below
              clear h
              refine gives_by (by simp only [Region.wanted, hg]; rfl) act.eval rfl ?_
              generalize act.eval = ρ at *
              intro hf hc
              go_simp
              exact ⟨Below.refl _ _, rfl⟩
            · intro act wx h
              have e3 : act.eval (.tmp 3) = .pointer (some ⟨w.heap.size, 0, none⟩) := h.old 3 (by kernel_rfl)
              have hg := h.guard 24 77 (by kernel_rfl) false (fun v hv => hv)
              have hbel := h.below
              clear h
              obtain ⟨⟨y0, y1, y2, y3⟩, _⟩ := node_cells (HX6.out.grow hbel).2.1
              refine gives_by (by simp only [Region.wanted, hg]; rfl) act.eval rfl ?_
              generalize act.eval = ρ at *
              intro hf hc
              go_simp
              exact ⟨Below.refl _ _, rfl⟩
            · intro act wx h
              obtain ⟨v82, e82, f82⟩ := h.val 29 82 (by kernel_rfl)
              obtain rfl : v82 = .func (.func 14) #[] #[.pointer (some ⟨w.heap.size + 1, 0, none⟩)] := f82
              obtain ⟨v83, e83, f83⟩ := h.val 30 83 (by kernel_rfl)
              obtain rfl : v83 = .agg #[.bool lf, .slice pa np pc, .slice ka nk kc, .slice ca nc cc] := f83
              have hg := h.guard 24 77 (by kernel_rfl) false (fun v hv => hv)
              have hbel := h.below
              clear h
              refine gives_by (by simp only [Region.wanted, hg]; rfl) act.eval rfl ?_
              generalize act.eval = ρ at *
              intro hf hc
              go_simp
              refine (HOT2.out wx _ n (HX6.out.grow hbel) (HNV.out wx (HX6.out.grow hbel).1) HNO.out).mono ?_
              rintro e w' ⟨u, xs, he, h1, h2⟩
              exact ⟨u, he, h2, xs, h1⟩
            · intro act wx h
              obtain ⟨v84, e84, f84⟩ := h.val 31 84 (by kernel_rfl)
              obtain ⟨xv84, pv84⟩ := f84
              have hg := h.guard 24 77 (by kernel_rfl) false (fun v hv => hv)
              have hbel := h.below
              clear h
              refine gives_by (by simp only [Region.wanted, hg]; rfl) act.eval rfl ?_
              generalize act.eval = ρ at *
              intro hf hc
              go_simp
              refine (HLF.out wx _ _ _ pv84).mono ?_
              rintro e w' ⟨u, he, h1, h2⟩
              exact ⟨u, he, h2, h1⟩
            · intro act wx h
              obtain ⟨v81, e81, f81⟩ := h.val 28 81 (by kernel_rfl)
              have nn81 := trivial
              obtain ⟨v85, e85, f85⟩ := h.val 32 85 (by kernel_rfl)
              have nn85 := trivial
              have hg := h.guard 24 77 (by kernel_rfl) false (fun v hv => hv)
              have hbel := h.below
              clear h
              refine gives_by (by simp only [Region.wanted, hg]; rfl) act.eval rfl ?_
              generalize act.eval = ρ at *
              intro hf hc
              go_simp
              exact call_gives (HSM.out wx _ _ _ f81 f85) (fun _ => rfl)
            · intro act wx h
              obtain ⟨v86, e86, f86⟩ := h.val 33 86 (by kernel_rfl)
              obtain rfl : v86 = .bool true := f86
              have hg := h.guard 24 77 (by kernel_rfl) false (fun v hv => hv)
              have hbel := h.below
              clear h
              refine gives_by (by simp only [Region.wanted, hg]; rfl) act.eval rfl ?_
              generalize act.eval = ρ at *
              intro hf hc
              go_simp
              exact ⟨Below.refl _ _, rfl⟩
            · intro act wx h
              obtain ⟨v77, e77, f77⟩ := h.val 24 77 (by kernel_rfl)
              obtain rfl : v77 = .bool false := f77
              obtain ⟨v87, e87, f87⟩ := h.val 34 87 (by kernel_rfl)
              obtain rfl : v87 = .bool false := f87
              have hbel := h.below
              clear h
              refine gives_by rfl act.eval rfl ?_
              generalize act.eval = ρ at *
              intro hf hc
              go_simp
              exact ⟨Below.refl _ _, rfl⟩
          · intro vals w8 hb8 hv
            have hv88 : vals 35 = .bool false := hv 35 88 (by kernel_rfl)
            clear hv
            generalize hact : putAll _ vals 0 _ = act
            have HX8 := hide (HX6.out.grow hb8)
            clear hb8
            subst hact
            simp only [putAll, Act.put, List.setIfInBounds_toArray, List.set_cons_zero, List.set_cons_succ, hv88, Nat.zero_add, Nat.reduceAdd]
            clear hv88
            (try clear za zb zc zd ze)
            obtain ⟨⟨za, zb, zc, zd⟩, _⟩ := node_cells HX8.out.2.1; have ze := HX8.out.2.2.cell 0
            clear HX6 HN6 HC6 HU6 HS6 HXO HSV HEQ HFXI
            by_cases hue : UE = 0
            · subst hue
              obtain ⟨hub, huo⟩ := HUF.out rfl
              rw [hub] at HFY
              have HUO := hide huo
              clear hub huo HUF HUB HFN
              go_wp2_with (first
                | (go_at_call 22; refine (HUN.out w8 HX8.out.1).mono ?_; rintro e w9 ⟨l9, p9, n9, c9, k9, nk9, kc9, q9, nq9, qc9, rfl, hn9, hb9⟩; have HX9 := hide (HX8.out.grow hb9); obtain ⟨w10, hw10, HB10, HC10, t0, t1, t2, t3⟩ := nd_box w9 l9 (.slice p9 n9 c9) (.slice k9 nk9 kc9) (.slice q9 nq9 qc9); have HX10 := hide (HX9.out.grow HB10.out); have HN10 := hide (hn9.below HB10.out); (try clear za zb zc zd ze); obtain ⟨⟨za, zb, zc, zd⟩, _⟩ := node_cells HX10.out.2.1; have ze := HX10.out.2.2.cell 0; clear HUN hb9 hn9)
                | (go_at_call 19; refine (HFY.out w10 _ HX10.out.1 HN10.out).mono ?_; rintro e w11 ⟨rfl, hb11⟩; have HX11 := hide (HX10.out.grow hb11); have HC11 := hide (HC10.out.below hb11 HC10.out.lt); have HN11 := hide (HN10.out.below hb11); clear HFY hb11))
              refine wp_region_facts (FL [isV (.bool false), isV (.bool true), isV (.bool true), isV (.func (.func 14) #[] #[.pointer (some ⟨w.heap.size + 1, 0, none⟩)]), isV (.agg #[.bool l9, .slice p9 n9 c9, .slice k9 nk9 kc9, .slice q9 nq9 qc9]), isPrL (OT), isNodeL (⟨true, OT, [], []⟩), isV (.func (.func 14) #[] #[.pointer (some ⟨w.heap.size + 1, 0, none⟩)]), isV (.agg #[.bool lf, .slice pa np pc, .slice ka nk kc, .slice ca nc cc]), isPrL (OT), isNodeL (⟨true, OT, [], []⟩), isV (.bool true), isV (.bool true), isV (.bool true)]) 124 (by kernel_rfl) (by kernel_rfl) (by kernel_rfl) rfl (FL_stable _ (by repeat (first | exact trivial | refine ⟨stable_isV _, ?_⟩ | refine ⟨stable_isNodeL _, ?_⟩ | refine ⟨stable_isPrL _, ?_⟩))) ?_ ?_
              · refine ⟨?_, ?_, ?_, ?_, ?_, ?_, ?_, ?_, ?_, ?_, ?_, ?_, ?_, ?_, trivial⟩
                · intro act wx h
                  have e17 : act.eval (.tmp 17) = .bool false := h.old 17 (by kernel_rfl)
                  have hbel := h.below
                  clear h
                  refine gives_by rfl act.eval rfl ?_
                  generalize act.eval = ρ at *
                  intro hf hc
                  go_simp
                  exact ⟨Below.refl _ _, rfl⟩
                · intro act wx h
                  obtain ⟨v111, e111, f111⟩ := h.val 0 111 (by kernel_rfl)
                  obtain rfl : v111 = .bool false := f111
                  have hbel := h.below
                  clear h
                  refine gives_by rfl act.eval rfl ?_
                  generalize act.eval = ρ at *
                  intro hf hc
                  go_simp
                  exact ⟨Below.refl _ _, rfl⟩
                · intro act wx h
                  obtain ⟨v112, e112, f112⟩ := h.val 1 112 (by kernel_rfl)
                  obtain rfl : v112 = .bool true := f112
                  have hbel := h.below
                  clear h
                  refine gives_by rfl act.eval rfl ?_
                  generalize act.eval = ρ at *
                  intro hf hc
                  go_simp
                  exact ⟨Below.refl _ _, rfl⟩
                · intro act wx h
                  have e7 : act.eval (.tmp 7) = .func (.func 14) #[] #[.pointer (some ⟨w.heap.size + 1, 0, none⟩)] := h.old 7 (by kernel_rfl)
                  have hg := h.guard 2 113 (by kernel_rfl) true (fun v hv => hv)
                  have hbel := h.below
                  clear h
                  refine gives_by (by simp only [Region.wanted, hg]; rfl) act.eval rfl ?_
                  generalize act.eval = ρ at *
                  intro hf hc
                  go_simp
                  exact ⟨Below.refl _ _, rfl⟩
                · intro act wx h
                  have e12 : act.eval (.tmp 12) = .pointer (some ⟨w9.heap.size, 0, none⟩) := h.old 12 (by kernel_rfl)
                  have hg := h.guard 2 113 (by kernel_rfl) true (fun v hv => hv)
                  have hbel := h.below
                  clear h
                  obtain ⟨y0, y1, y2, y3⟩ := box_ndc (HC11.out.below hbel HC11.out.lt)
                  refine gives_by (by simp only [Region.wanted, hg]; rfl) act.eval rfl ?_
                  generalize act.eval = ρ at *
                  intro hf hc
                  go_simp
                  exact ⟨Below.refl _ _, rfl⟩
                · intro act wx h
                  obtain ⟨v114, e114, f114⟩ := h.val 3 114 (by kernel_rfl)
                  obtain rfl : v114 = .func (.func 14) #[] #[.pointer (some ⟨w.heap.size + 1, 0, none⟩)] := f114
                  obtain ⟨v115, e115, f115⟩ := h.val 4 115 (by kernel_rfl)
                  obtain rfl : v115 = .agg #[.bool l9, .slice p9 n9 c9, .slice k9 nk9 kc9, .slice q9 nq9 qc9] := f115
                  have hg := h.guard 2 113 (by kernel_rfl) true (fun v hv => hv)
                  have hbel := h.below
                  clear h
                  refine gives_by (by simp only [Region.wanted, hg]; rfl) act.eval rfl ?_
                  generalize act.eval = ρ at *
                  intro hf hc
                  go_simp
                  refine (HOT2.out wx _ YN (HX11.out.grow hbel) (HN11.out.below hbel) HUO.out).mono ?_
                  rintro e w' ⟨u, xs, he, h1, h2⟩
                  exact ⟨u, he, h2, xs, h1⟩
                · intro act wx h
                  obtain ⟨v116, e116, f116⟩ := h.val 5 116 (by kernel_rfl)
                  obtain ⟨xv116, pv116⟩ := f116
                  have hg := h.guard 2 113 (by kernel_rfl) true (fun v hv => hv)
                  have hbel := h.below
                  clear h
                  refine gives_by (by simp only [Region.wanted, hg]; rfl) act.eval rfl ?_
                  generalize act.eval = ρ at *
                  intro hf hc
                  go_simp
                  refine (HLF.out wx _ _ _ pv116).mono ?_
                  rintro e w' ⟨u, he, h1, h2⟩
                  exact ⟨u, he, h2, h1⟩
                · intro act wx h
                  have e7 : act.eval (.tmp 7) = .func (.func 14) #[] #[.pointer (some ⟨w.heap.size + 1, 0, none⟩)] := h.old 7 (by kernel_rfl)
                  have hg := h.guard 2 113 (by kernel_rfl) true (fun v hv => hv)
                  have hbel := h.below
                  clear h
                  refine gives_by (by simp only [Region.wanted, hg]; rfl) act.eval rfl ?_
                  generalize act.eval = ρ at *
                  intro hf hc
                  go_simp
                  exact ⟨Below.refl _ _, rfl⟩
                · intro act wx h
                  have e3 : act.eval (.tmp 3) = .pointer (some ⟨w.heap.size, 0, none⟩) := h.old 3 (by kernel_rfl)
                  have hg := h.guard 2 113 (by kernel_rfl) true (fun v hv => hv)
                  have hbel := h.below
                  clear h
                  obtain ⟨⟨y0, y1, y2, y3⟩, _⟩ := node_cells (HX11.out.grow hbel).2.1
                  refine gives_by (by simp only [Region.wanted, hg]; rfl) act.eval rfl ?_
                  generalize act.eval = ρ at *
                  intro hf hc
                  go_simp
                  exact ⟨Below.refl _ _, rfl⟩
                · intro act wx h
                  obtain ⟨v118, e118, f118⟩ := h.val 7 118 (by kernel_rfl)
                  obtain rfl : v118 = .func (.func 14) #[] #[.pointer (some ⟨w.heap.size + 1, 0, none⟩)] := f118
                  obtain ⟨v119, e119, f119⟩ := h.val 8 119 (by kernel_rfl)
                  obtain rfl : v119 = .agg #[.bool lf, .slice pa np pc, .slice ka nk kc, .slice ca nc cc] := f119
                  have hg := h.guard 2 113 (by kernel_rfl) true (fun v hv => hv)
                  have hbel := h.below
                  clear h
                  refine gives_by (by simp only [Region.wanted, hg]; rfl) act.eval rfl ?_
                  generalize act.eval = ρ at *
                  intro hf hc
                  go_simp
                  refine (HOT2.out wx _ n (HX11.out.grow hbel) (HNV.out wx (HX11.out.grow hbel).1) HNO.out).mono ?_
                  rintro e w' ⟨u, xs, he, h1, h2⟩
                  exact ⟨u, he, h2, xs, h1⟩
                · intro act wx h
                  obtain ⟨v120, e120, f120⟩ := h.val 9 120 (by kernel_rfl)
                  obtain ⟨xv120, pv120⟩ := f120
                  have hg := h.guard 2 113 (by kernel_rfl) true (fun v hv => hv)
                  have hbel := h.below
                  clear h
                  refine gives_by (by simp only [Region.wanted, hg]; rfl) act.eval rfl ?_
                  generalize act.eval = ρ at *
                  intro hf hc
                  go_simp
                  refine (HLF.out wx _ _ _ pv120).mono ?_
                  rintro e w' ⟨u, he, h1, h2⟩
                  exact ⟨u, he, h2, h1⟩
                · intro act wx h
                  obtain ⟨v117, e117, f117⟩ := h.val 6 117 (by kernel_rfl)
                  have nn117 := trivial
                  obtain ⟨v121, e121, f121⟩ := h.val 10 121 (by kernel_rfl)
                  have nn121 := trivial
                  have hg := h.guard 2 113 (by kernel_rfl) true (fun v hv => hv)
                  have hbel := h.below
                  clear h
                  refine gives_by (by simp only [Region.wanted, hg]; rfl) act.eval rfl ?_
                  generalize act.eval = ρ at *
                  intro hf hc
                  go_simp
                  exact call_gives (HSM.out wx _ _ _ f117 f121) (fun _ => rfl)
                · intro act wx h
                  obtain ⟨v113, e113, f113⟩ := h.val 2 113 (by kernel_rfl)
                  obtain rfl : v113 = .bool true := f113
                  obtain ⟨v122, e122, f122⟩ := h.val 11 122 (by kernel_rfl)
                  obtain rfl : v122 = .bool true := f122
                  have hbel := h.below
                  clear h
                  refine gives_by rfl act.eval rfl ?_
                  generalize act.eval = ρ at *
                  intro hf hc
                  go_simp
                  exact ⟨Below.refl _ _, rfl⟩
                · intro act wx h
                  obtain ⟨v123, e123, f123⟩ := h.val 12 123 (by kernel_rfl)
                  obtain rfl : v123 = .bool true := f123
                  have hbel := h.below
                  clear h
                  refine gives_by rfl act.eval rfl ?_
                  generalize act.eval = ρ at *
                  intro hf hc
                  go_simp
                  exact ⟨Below.refl _ _, rfl⟩
              · intro vals w12 hb12 hv
                have hv6 : vals 13 = .bool true := hv 13 6 (by kernel_rfl)
                clear hv
                generalize hact : putAll _ vals 0 _ = act
                have HX12 := hide (HX11.out.grow hb12)
                clear hb12
                subst hact
                simp only [putAll, Act.put, List.setIfInBounds_toArray, List.set_cons_zero, List.set_cons_succ, hv6, Nat.zero_add, Nat.reduceAdd]
                clear hv6
                go_wp2
                go_ret
                exact ⟨rfl, HX12.out.1⟩
            · have hue2 : (UE == 0) = false := by simpa using hue
              have hfb := HUB.out hue
              rw [hfb] at HFN
              clear hfb HUF HUB HFY
              go_wp2_with (first
                | (go_at_call 22; refine (HUN.out w8 HX8.out.1).mono ?_; rintro e w9 ⟨l9, p9, n9, c9, k9, nk9, kc9, q9, nq9, qc9, rfl, hn9, hb9⟩; have HX9 := hide (HX8.out.grow hb9); obtain ⟨w10, hw10, HB10, HC10, t0, t1, t2, t3⟩ := nd_box w9 l9 (.slice p9 n9 c9) (.slice k9 nk9 kc9) (.slice q9 nq9 qc9); have HX10 := hide (HX9.out.grow HB10.out); have HN10 := hide (hn9.below HB10.out); (try clear za zb zc zd ze); obtain ⟨⟨za, zb, zc, zd⟩, _⟩ := node_cells HX10.out.2.1; have ze := HX10.out.2.2.cell 0; clear HUN hb9 hn9)
                | (go_at_call 19; refine (HFN.out w10 HX10.out.1).mono ?_; rintro e w11 ⟨rfl, hb11⟩; have HX11 := hide (HX10.out.grow hb11); clear HFN hb11))
              go_ret
              exact ⟨rfl, HX11.out.1⟩
        · have hse2 : (SE == 0) = false := by simpa using hse
          clear HSF
          by_cases hue : UE = 0
          · subst hue
            obtain ⟨hub, huo⟩ := HUF.out rfl
            rw [hub] at HFY
            have HUO := hide huo
            clear hub huo HUF HUB HFN
            go_enter Try.func4, Try.ntmps4
            go_wp2_with (first
              | (go_at_call 7; refine (HLV.out w1).mono ?_; rintro e w2 ⟨rfl, hb2⟩; have HX2 := hide (HX1.out.grow hb2); (try clear za zb zc zd ze); obtain ⟨⟨za, zb, zc, zd⟩, _⟩ := node_cells HX2.out.2.1; have ze := HX2.out.2.2.cell 0; clear hb2)
              | (go_at_call 8; refine (HFW1.out w2 HX2.out.1).mono ?_; rintro e w3 ⟨rfl, hb3⟩; have HX3 := hide (HX2.out.grow hb3); (try clear za zb zc zd ze); obtain ⟨⟨za, zb, zc, zd⟩, _⟩ := node_cells HX3.out.2.1; have ze := HX3.out.2.2.cell 0; have HLV3 := hide (HLV.out w3); clear HFW1 hb3)
              | (go_at_call 18; refine (HST.out w3 HX3.out.1).mono ?_; rintro e w4 ⟨l4, p4, n4, hl4, c4, k4, nk4, kc4, q4, nq4, qc4, rfl, hn4, hb4⟩; have HX4 := hide (HX3.out.grow hb4); obtain ⟨w5, hw5, HB5, HC5, s0, s1, s2, s3⟩ := nd_box w4 l4 (.slice p4 n4 c4) (.slice k4 nk4 kc4) (.slice q4 nq4 qc4); have HX5 := hide (HX4.out.grow HB5.out); have HN5 := hide (hn4.below HB5.out); (try clear za zb zc zd ze); obtain ⟨⟨za, zb, zc, zd⟩, _⟩ := node_cells HX5.out.2.1; have ze := HX5.out.2.2.cell 0; clear HST hb4 hn4)
              | (go_at_call 22; refine (HUN.out w5 HX5.out.1).mono ?_; rintro e w9 ⟨l9, p9, n9, c9, k9, nk9, kc9, q9, nq9, qc9, rfl, hn9, hb9⟩; have HX9 := hide (HX5.out.grow hb9); obtain ⟨w10, hw10, HB10, HC10, t0, t1, t2, t3⟩ := nd_box w9 l9 (.slice p9 n9 c9) (.slice k9 nk9 kc9) (.slice q9 nq9 qc9); have HX10 := hide (HX9.out.grow HB10.out); have HN10 := hide (hn9.below HB10.out); (try clear za zb zc zd ze); obtain ⟨⟨za, zb, zc, zd⟩, _⟩ := node_cells HX10.out.2.1; have ze := HX10.out.2.2.cell 0; clear HUN hb9 hn9)
              | (go_at_call 19; refine (HFY.out w10 _ HX10.out.1 HN10.out).mono ?_; rintro e w11 ⟨rfl, hb11⟩; have HX11 := hide (HX10.out.grow hb11); have HC11 := hide (HC10.out.below hb11 HC10.out.lt); have HN11 := hide (HN10.out.below hb11); clear HFY hb11))
            refine wp_region_facts (FL [isV (.bool false), isV (.bool true), isV (.bool true), isV (.func (.func 14) #[] #[.pointer (some ⟨w.heap.size + 1, 0, none⟩)]), isV (.agg #[.bool l9, .slice p9 n9 c9, .slice k9 nk9 kc9, .slice q9 nq9 qc9]), isPrL (OT), isNodeL (⟨true, OT, [], []⟩), isV (.func (.func 14) #[] #[.pointer (some ⟨w.heap.size + 1, 0, none⟩)]), isV (.agg #[.bool lf, .slice pa np pc, .slice ka nk kc, .slice ca nc cc]), isPrL (OT), isNodeL (⟨true, OT, [], []⟩), isV (.bool true), isV (.bool true), isV (.bool true)]) 124 (by kernel_rfl) (by kernel_rfl) (by kernel_rfl) rfl (FL_stable _ (by repeat (first | exact trivial | refine ⟨stable_isV _, ?_⟩ | refine ⟨stable_isNodeL _, ?_⟩ | refine ⟨stable_isPrL _, ?_⟩))) ?_ ?_
            · refine ⟨?_, ?_, ?_, ?_, ?_, ?_, ?_, ?_, ?_, ?_, ?_, ?_, ?_, ?_, trivial⟩
              · intro act wx h
                have e17 : act.eval (.tmp 17) = .bool false := h.old 17 (by kernel_rfl)
                have hbel := h.below
                clear h
                refine gives_by rfl act.eval rfl ?_
                generalize act.eval = ρ at *
                intro hf hc
                go_simp
                exact ⟨Below.refl _ _, rfl⟩
              · intro act wx h
                obtain ⟨v111, e111, f111⟩ := h.val 0 111 (by kernel_rfl)
                obtain rfl : v111 = .bool false := f111
                have hbel := h.below
                clear h
                refine gives_by rfl act.eval rfl ?_
                generalize act.eval = ρ at *
                intro hf hc
                go_simp
                exact ⟨Below.refl _ _, rfl⟩
              · intro act wx h
                obtain ⟨v112, e112, f112⟩ := h.val 1 112 (by kernel_rfl)
                obtain rfl : v112 = .bool true := f112
                have hbel := h.below
                clear h
                refine gives_by rfl act.eval rfl ?_
                generalize act.eval = ρ at *
                intro hf hc
                go_simp
                exact ⟨Below.refl _ _, rfl⟩
              · intro act wx h
                have e7 : act.eval (.tmp 7) = .func (.func 14) #[] #[.pointer (some ⟨w.heap.size + 1, 0, none⟩)] := h.old 7 (by kernel_rfl)
                have hg := h.guard 2 113 (by kernel_rfl) true (fun v hv => hv)
                have hbel := h.below
                clear h
                refine gives_by (by simp only [Region.wanted, hg]; rfl) act.eval rfl ?_
                generalize act.eval = ρ at *
                intro hf hc
                go_simp
                exact ⟨Below.refl _ _, rfl⟩
              · intro act wx h
                have e12 : act.eval (.tmp 12) = .pointer (some ⟨w9.heap.size, 0, none⟩) := h.old 12 (by kernel_rfl)
                have hg := h.guard 2 113 (by kernel_rfl) true (fun v hv => hv)
                have hbel := h.below
                clear h
                obtain ⟨y0, y1, y2, y3⟩ := box_ndc (HC11.out.below hbel HC11.out.lt)
                refine gives_by (by simp only [Region.wanted, hg]; rfl) act.eval rfl ?_
                generalize act.eval = ρ at *
                intro hf hc
                go_simp
                exact ⟨Below.refl _ _, rfl⟩
              · intro act wx h
                obtain ⟨v114, e114, f114⟩ := h.val 3 114 (by kernel_rfl)
                obtain rfl : v114 = .func (.func 14) #[] #[.pointer (some ⟨w.heap.size + 1, 0, none⟩)] := f114
                obtain ⟨v115, e115, f115⟩ := h.val 4 115 (by kernel_rfl)
                obtain rfl : v115 = .agg #[.bool l9, .slice p9 n9 c9, .slice k9 nk9 kc9, .slice q9 nq9 qc9] := f115
                have hg := h.guard 2 113 (by kernel_rfl) true (fun v hv => hv)
                have hbel := h.below
                clear h
                refine gives_by (by simp only [Region.wanted, hg]; rfl) act.eval rfl ?_
                generalize act.eval = ρ at *
                intro hf hc
                go_simp
                refine (HOT2.out wx _ YN (HX11.out.grow hbel) (HN11.out.below hbel) HUO.out).mono ?_
                rintro e w' ⟨u, xs, he, h1, h2⟩
                exact ⟨u, he, h2, xs, h1⟩
              · intro act wx h
                obtain ⟨v116, e116, f116⟩ := h.val 5 116 (by kernel_rfl)
                obtain ⟨xv116, pv116⟩ := f116
                have hg := h.guard 2 113 (by kernel_rfl) true (fun v hv => hv)
                have hbel := h.below
                clear h
                refine gives_by (by simp only [Region.wanted, hg]; rfl) act.eval rfl ?_
                generalize act.eval = ρ at *
                intro hf hc
                go_simp
                refine (HLF.out wx _ _ _ pv116).mono ?_
                rintro e w' ⟨u, he, h1, h2⟩
                exact ⟨u, he, h2, h1⟩
              · intro act wx h
                have e7 : act.eval (.tmp 7) = .func (.func 14) #[] #[.pointer (some ⟨w.heap.size + 1, 0, none⟩)] := h.old 7 (by kernel_rfl)
                have hg := h.guard 2 113 (by kernel_rfl) true (fun v hv => hv)
                have hbel := h.below
                clear h
                refine gives_by (by simp only [Region.wanted, hg]; rfl) act.eval rfl ?_
                generalize act.eval = ρ at *
                intro hf hc
                go_simp
                exact ⟨Below.refl _ _, rfl⟩
              · intro act wx h
                have e3 : act.eval (.tmp 3) = .pointer (some ⟨w.heap.size, 0, none⟩) := h.old 3 (by kernel_rfl)
                have hg := h.guard 2 113 (by kernel_rfl) true (fun v hv => hv)
                have hbel := h.below
                clear h
                obtain ⟨⟨y0, y1, y2, y3⟩, _⟩ := node_cells (HX11.out.grow hbel).2.1
                refine gives_by (by simp only [Region.wanted, hg]; rfl) act.eval rfl ?_
                generalize act.eval = ρ at *
                intro hf hc
                go_simp
                exact ⟨Below.refl _ _, rfl⟩
              · intro act wx h
                obtain ⟨v118, e118, f118⟩ := h.val 7 118 (by kernel_rfl)
                obtain rfl : v118 = .func (.func 14) #[] #[.pointer (some ⟨w.heap.size + 1, 0, none⟩)] := f118
                obtain ⟨v119, e119, f119⟩ := h.val 8 119 (by kernel_rfl)
                obtain rfl : v119 = .agg #[.bool lf, .slice pa np pc, .slice ka nk kc, .slice ca nc cc] := f119
                have hg := h.guard 2 113 (by kernel_rfl) true (fun v hv => hv)
                have hbel := h.below
                clear h
                refine gives_by (by simp only [Region.wanted, hg]; rfl) act.eval rfl ?_
                generalize act.eval = ρ at *
                intro hf hc
                go_simp
                refine (HOT2.out wx _ n (HX11.out.grow hbel) (HNV.out wx (HX11.out.grow hbel).1) HNO.out).mono ?_
                rintro e w' ⟨u, xs, he, h1, h2⟩
                exact ⟨u, he, h2, xs, h1⟩
              · intro act wx h
                obtain ⟨v120, e120, f120⟩ := h.val 9 120 (by kernel_rfl)
                obtain ⟨xv120, pv120⟩ := f120
                have hg := h.guard 2 113 (by kernel_rfl) true (fun v hv => hv)
                have hbel := h.below
                clear h
                refine gives_by (by simp only [Region.wanted, hg]; rfl) act.eval rfl ?_
                generalize act.eval = ρ at *
                intro hf hc
                go_simp
                refine (HLF.out wx _ _ _ pv120).mono ?_
                rintro e w' ⟨u, he, h1, h2⟩
                exact ⟨u, he, h2, h1⟩
              · intro act wx h
                obtain ⟨v117, e117, f117⟩ := h.val 6 117 (by kernel_rfl)
                have nn117 := trivial
                obtain ⟨v121, e121, f121⟩ := h.val 10 121 (by kernel_rfl)
                have nn121 := trivial
                have hg := h.guard 2 113 (by kernel_rfl) true (fun v hv => hv)
                have hbel := h.below
                clear h
                refine gives_by (by simp only [Region.wanted, hg]; rfl) act.eval rfl ?_
                generalize act.eval = ρ at *
                intro hf hc
                go_simp
                exact call_gives (HSM.out wx _ _ _ f117 f121) (fun _ => rfl)
              · intro act wx h
                obtain ⟨v113, e113, f113⟩ := h.val 2 113 (by kernel_rfl)
                obtain rfl : v113 = .bool true := f113
                obtain ⟨v122, e122, f122⟩ := h.val 11 122 (by kernel_rfl)
                obtain rfl : v122 = .bool true := f122
                have hbel := h.below
                clear h
                refine gives_by rfl act.eval rfl ?_
                generalize act.eval = ρ at *
                intro hf hc
                go_simp
                exact ⟨Below.refl _ _, rfl⟩
              · intro act wx h
                obtain ⟨v123, e123, f123⟩ := h.val 12 123 (by kernel_rfl)
                obtain rfl : v123 = .bool true := f123
                have hbel := h.below
                clear h
                refine gives_by rfl act.eval rfl ?_
                generalize act.eval = ρ at *
                intro hf hc
                go_simp
                exact ⟨Below.refl _ _, rfl⟩
            · intro vals w12 hb12 hv
              have hv6 : vals 13 = .bool true := hv 13 6 (by kernel_rfl)
              clear hv
              generalize hact : putAll _ vals 0 _ = act
              have HX12 := hide (HX11.out.grow hb12)
              clear hb12
              subst hact
              simp only [putAll, Act.put, List.setIfInBounds_toArray, List.set_cons_zero, List.set_cons_succ, hv6, Nat.zero_add, Nat.reduceAdd]
              clear hv6
              go_wp2
              go_ret
              exact ⟨rfl, HX12.out.1⟩
          · have hue2 : (UE == 0) = false := by simpa using hue
            have hfb := HUB.out hue
            rw [hfb] at HFN
            clear hfb HUF HUB HFY
            go_enter Try.func4, Try.ntmps4
            go_wp2_with (first
              | (go_at_call 7; refine (HLV.out w1).mono ?_; rintro e w2 ⟨rfl, hb2⟩; have HX2 := hide (HX1.out.grow hb2); (try clear za zb zc zd ze); obtain ⟨⟨za, zb, zc, zd⟩, _⟩ := node_cells HX2.out.2.1; have ze := HX2.out.2.2.cell 0; clear hb2)
              | (go_at_call 8; refine (HFW1.out w2 HX2.out.1).mono ?_; rintro e w3 ⟨rfl, hb3⟩; have HX3 := hide (HX2.out.grow hb3); (try clear za zb zc zd ze); obtain ⟨⟨za, zb, zc, zd⟩, _⟩ := node_cells HX3.out.2.1; have ze := HX3.out.2.2.cell 0; have HLV3 := hide (HLV.out w3); clear HFW1 hb3)
              | (go_at_call 18; refine (HST.out w3 HX3.out.1).mono ?_; rintro e w4 ⟨l4, p4, n4, hl4, c4, k4, nk4, kc4, q4, nq4, qc4, rfl, hn4, hb4⟩; have HX4 := hide (HX3.out.grow hb4); obtain ⟨w5, hw5, HB5, HC5, s0, s1, s2, s3⟩ := nd_box w4 l4 (.slice p4 n4 c4) (.slice k4 nk4 kc4) (.slice q4 nq4 qc4); have HX5 := hide (HX4.out.grow HB5.out); have HN5 := hide (hn4.below HB5.out); (try clear za zb zc zd ze); obtain ⟨⟨za, zb, zc, zd⟩, _⟩ := node_cells HX5.out.2.1; have ze := HX5.out.2.2.cell 0; clear HST hb4 hn4)
              | (go_at_call 22; refine (HUN.out w5 HX5.out.1).mono ?_; rintro e w9 ⟨l9, p9, n9, c9, k9, nk9, kc9, q9, nq9, qc9, rfl, hn9, hb9⟩; have HX9 := hide (HX5.out.grow hb9); obtain ⟨w10, hw10, HB10, HC10, t0, t1, t2, t3⟩ := nd_box w9 l9 (.slice p9 n9 c9) (.slice k9 nk9 kc9) (.slice q9 nq9 qc9); have HX10 := hide (HX9.out.grow HB10.out); have HN10 := hide (hn9.below HB10.out); (try clear za zb zc zd ze); obtain ⟨⟨za, zb, zc, zd⟩, _⟩ := node_cells HX10.out.2.1; have ze := HX10.out.2.2.cell 0; clear HUN hb9 hn9)
              | (go_at_call 19; refine (HFN.out w10 HX10.out.1).mono ?_; rintro e w11 ⟨rfl, hb11⟩; have HX11 := hide (HX10.out.grow hb11); clear HFN hb11))
            go_ret
            exact ⟨rfl, HX11.out.1⟩
      · have iL2 : (300 : Int) < (mv : Int) := by omega
        go_enter Try.func4, Try.ntmps4
        go_wp2_with (first
          | (go_at_call 8; refine (HFW1.out w2 HX2.out.1).mono ?_; rintro e w3 ⟨rfl, hb3⟩; have HX3 := hide (HX2.out.grow hb3); (try clear za zb zc zd ze); obtain ⟨⟨za, zb, zc, zd⟩, _⟩ := node_cells HX3.out.2.1; have ze := HX3.out.2.2.cell 0; have HLV3 := hide (HLV.out w3); clear HFW1 hb3)
          | (go_at_call 7; refine HLV3.out.mono ?_; rintro e w4 ⟨rfl, hb4⟩; have HX4 := hide (HX3.out.grow hb4); clear HLV3 hb4)
          | (go_at_call 7; refine (HLV.out w1).mono ?_; rintro e w2 ⟨rfl, hb2⟩; have HX2 := hide (HX1.out.grow hb2); (try clear za zb zc zd ze); obtain ⟨⟨za, zb, zc, zd⟩, _⟩ := node_cells HX2.out.2.1; have ze := HX2.out.2.2.cell 0; clear hb2))
        go_ret
        exact ⟨rfl, HX4.out.1⟩
    · have iL : (300 : Int) < (mk : Int) := by omega
      go_enter Try.func4, Try.ntmps4
      go_wp2_with (first
        | (go_at_call 8; refine (HFW1.out w2 HX2.out.1).mono ?_; rintro e w3 ⟨rfl, hb3⟩; have HX3 := hide (HX2.out.grow hb3); (try clear za zb zc zd ze); obtain ⟨⟨za, zb, zc, zd⟩, _⟩ := node_cells HX3.out.2.1; have ze := HX3.out.2.2.cell 0; have HLV3 := hide (HLV.out w3); clear HFW1 hb3)
        | (go_at_call 7; refine HLV3.out.mono ?_; rintro e w4 ⟨rfl, hb4⟩; have HX4 := hide (HX3.out.grow hb4); clear HLV3 hb4)
        | (go_at_call 7; refine (HLV.out w1).mono ?_; rintro e w2 ⟨rfl, hb2⟩; have HX2 := hide (HX1.out.grow hb2); (try clear za zb zc zd ze); obtain ⟨⟨za, zb, zc, zd⟩, _⟩ := node_cells HX2.out.2.1; have ze := HX2.out.2.2.cell 0; clear hb2))
      go_ret
      exact ⟨rfl, HX4.out.1⟩

end Go.Proofs.Ytoamdbjailpgdab
