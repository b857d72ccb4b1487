/- Contract: does (incipitlaw05): Get, the walk. -/
import Derived.Test.YtoplhehcjgldeaaGreatJRDo3
import Derived.Test.YtoplhehcjgldeaaGreatJCView
namespace Go.Proofs.YtoplhehcjgldeaaGreat
open Go.RowKit
set_option linter.unusedVariables false
set_option maxRecDepth 100000

/-- a block of bytes, whatever they are -/
def Bytes (w : World) (g : Nat) (e : TypeId) (m : Nat) : Prop := ∃ cs, Blk w g e cs ∧ cs.length = m ∧ ∀ j, j < m → ∃ z : Int, cs[j]? = some (.int .u8 z)
theorem Bytes.at {w : World} {g m : Nat} {e : TypeId} (h : Bytes w g e m) {j : Nat} (hj : j < m) : ∃ z : Int, w.cell? ⟨g, j, none⟩ = some (.int .u8 z) ∧ w.frozen? ⟨g, j, none⟩ = false ∧ ∀ y : Int, Bytes (w.setCell ⟨g, j, none⟩ (.int .u8 y)) g e m ∧ Only (· = g) w (w.setCell ⟨g, j, none⟩ (.int .u8 y)) := by
  obtain ⟨cs, hB, hl, hz⟩ := h
  obtain ⟨z, hzj⟩ := hz j hj
  refine ⟨z, (hB.cell j).trans hzj, hB.frozen j, fun y => ⟨⟨cs.set j (.int .u8 y), hB.set j _, by simpa using hl, fun i hi => ?_⟩, (Only.refl (· = g) w).setCell ⟨g, j, none⟩ _ (fun _ => rfl)⟩⟩
  rw [List.getElem?_set]
  split
  · rename_i e
    subst e
    rw [if_pos (by omega)]
    exact ⟨y, rfl⟩
  · exact hz i hi
theorem bytes_page {w : World} {g : Nat} {e : TypeId} {zs : List Int} (h : Blk w g e (pc zs)) (hl : zs.length = 256) : Bytes w g e 256 := ⟨pc zs, h, by rw [pc_len]; exact hl, fun j hj => ⟨zs[j]'(by omega), by unfold pc; rw [List.getElem?_map, List.getElem?_eq_getElem (by omega)]; rfl⟩⟩

section
variable (w0 w : World) (Q : Nat → Prop) (c b cr r n : Nat) (ch : Ch) (d : Dv)

/-- one Get of the program's cache, where both hold the same -/
theorem two_get (h : Two5 w0 Q w c b cr r n ch d) (hn : n < 300000) (p : Int) :
    Calls Tryz.prog 18 #[dp c, .int .i64 p] w fun e w' => ∃ v, e = .returned (.tuple #[v, .int .i64 (getC ch d p).1]) ∧ Turn w0 No Q w w' ∧
      (((getC ch d p).1 = 0 ∧ ∃ g, v = .slice (some ⟨g, 0, none⟩) 256 256 ∧ PageOk (getC ch d p).2.1 ∧ Blk w' g 84 (pc (getC ch d p).2.1) ∧ w0.heap.size ≤ g ∧ ¬ Q g ∧ ∃ K, Mid5 w0 (fun k => Q k ∨ k = g) K w' c b cr r (getC ch d p).2.2.1 (getC ch d p).2.2.2 ch d ∧ Few n ch d ∧ ChOk d.st.length ch) ∨
       ((getC ch d p).1 ≠ 0 ∧ v = .slice none 0 0 ∧ ∃ K, Mid5 w0 Q K w' c b cr r (getC ch d p).2.2.1 (getC ch d p).2.2.2 ch d ∧ Few n ch d ∧ ChOk d.st.length ch)) := by
  obtain ⟨K, h1, h2, h3, h4⟩ := h
  have ok := h1.ok
  refine (get_any w0 w No _ c b ch d n (by omega) h1.low h4 p).mono ?_
  rintro e w' ⟨v, rfl, hh, ht⟩
  have hRC : RefC w' cr r K ch d := h2.keep ht (fun k hk h => h.2 (.inl (.inl hk)))
  refine ⟨v, rfl, Only.mono ht (fun k _ hk => ⟨hk.1, fun hq => hk.2 (.inl (.inr hq))⟩), ?_⟩
  rcases hh with ⟨he, g, rfl, hz, hB, hng, hd⟩ | ⟨he, rfl, hd⟩
  · refine .inl ⟨he, g, rfl, hz, hB, ?_, fun hq => hng (.inl (.inr hq)), K, ⟨hd.less (fun k hk => ?_), hRC, fun k hk => ⟨(h3 k hk).1, fun hq => ?_⟩⟩, h4, ok⟩
    · rcases Nat.lt_or_ge g w0.heap.size with hlt | hge
      · exact absurd (.inr hlt) hng
      · exact hge
    · rcases hk with hk | hk | hk
      · exact .inl (.inl (.inl hk))
      · exact .inl (.inl (.inr hk))
      · exact .inr hk
    · rcases hq with hq | hq
      · exact (h3 k hk).2 hq
      · rw [hq] at hk; exact hng (.inl (.inl hk))
  · exact .inr ⟨he, rfl, K, ⟨hd.less (fun k hk => .inl hk), hRC, h3⟩, h4, ok⟩

theorem two_turn {w0 w w' : World} {Q T : Nat → Prop} {c b cr r n : Nat} {ch : Ch} {d : Dv} (h : Two5 w0 Q w c b cr r n ch d) (ho : Only T w w') (hT : ∀ k, T k → Q k ∧ w0.heap.size ≤ k) : Two5 w0 Q w' c b cr r n ch d := by
  obtain ⟨K, h1, h2, h3, h4⟩ := h
  exact ⟨K, h1.keep ho (fun k hk => .inl (.inr (hT k hk).1)) (fun k hk hk2 => by have := (hT k hk2).2; omega), h2.keep ho (fun k hk hk2 => (h3 k hk).2 (hT k hk2).1), h3, h4⟩

/-- and of the document's -/
theorem two_refGet {w0 w : World} {Q K : Nat → Prop} {c b cr r n : Nat} {ch : Ch} {d : Dv} {p : Int} (h : Mid5 w0 Q K w c b cr r (getC ch d p).2.2.1 (getC ch d p).2.2.2 ch d) (hf : Few n ch d) (ok : ChOk d.st.length ch) (hn : n < 300000) :
    Calls Tryz.prog 22 #[dp cr, .int .i64 p] w fun e w' => ∃ v, e = .returned (.tuple #[v, .int .i64 (getC ch d p).1]) ∧ Sl w' v (getC ch d p).2.1 ∧ (∀ k, v.ownBlock = some k → w.heap.size ≤ k ∧ k < w'.heap.size) ∧ Two5 w0 (fun k => Q k ∨ v.ownBlock = some k) w' c b cr r (n + 2) (getC ch d p).2.2.1 (getC ch d p).2.2.2 ∧ Turn w0 No Q w w' ∧ Only K w w' := by
  obtain ⟨h1, h2, h3⟩ := h
  refine (refGet_any w cr r K ch d n (by omega) h2 ok hf p).mono ?_
  rintro e w' ⟨v, rfl, hS, hk, hR, ho⟩
  have h4 := h1.keepgrow ho (fun k hk => .inl (.inl hk)) (fun k hk hk2 => by have := (h3 k hk2).1; omega)
  have hs0 := h1.only.size
  refine ⟨v, rfl, hS, hk, ⟨fun k => ((K k ∨ w.heap.size ≤ k) ∧ v.ownBlock ≠ some k) ∧ k < w'.heap.size, h4.less (fun k hk' => ?_), hR.bound, fun k hk' => ?_, few_get hf p⟩, ho.mono (fun k _ hk => ⟨.inr (h3 k hk).1, (h3 k hk).2⟩), ho⟩
  · rcases hk' with ⟨⟨hk' | hk', _⟩, hl⟩ | hk' | hk'
    · exact .inl (.inl hk')
    · exact .inr ⟨hk', hl⟩
    · exact .inl (.inr hk')
    · exact .inr (hk k hk')
  · rcases hk' with ⟨⟨hk' | hk', hv⟩, hl⟩
    · exact ⟨(h3 k hk').1, fun hq => hq.elim (h3 k hk').2 hv⟩
    · exact ⟨by omega, fun hq => hq.elim (fun hq => by have := h1.xlt k (.inr hq); omega) hv⟩
end

section
variable (w0 w : World) (Q : Nat → Prop) (c b cr r n : Nat) (ch : Ch) (d : Dv) (o : Oc)
set_option maxHeartbeats 1000000 in
theorem does_get (h : Two5 w0 Q w c b cr r n ch d) (ho : OcOk o) (hn : n < 100000) (hk : o.dO = 0) :
    Calls Tryz.prog 9 #[dp c, dp b, dp cr, .agg (occ o).toArray] w fun e w' => e = .returned (.bool true) ∧ Done5 w0 w Q c b cr r n w' := by
  obtain ⟨wA, hwA⟩ : ∃ wA, w.alloc (.cells (occ o).toArray 38) = wA := ⟨_, rfl⟩
  have hbA : Below w.heap.size w wA := by rw [← hwA]; exact (Below.refl _ w).alloc (Nat.le_refl _) _
  have hsA : wA.heap.size = w.heap.size + 1 := by rw [← hwA]; simp
  have hN : Blk wA w.heap.size 38 (occ o) := by rw [← hwA]; exact Blk.new w _ _
  have q0 : wA.cell? ⟨w.heap.size, 0, none⟩ = some (.int .i64 o.dO) := hN.cell 0
  rw [hk] at q0
  obtain ⟨K, h1, h2, h3, h4⟩ := two_below h hbA
  have hQ' : ∀ k, (Q k ∨ (w.heap.size ≤ k ∧ k < wA.heap.size)) → k < wA.heap.size := fun k hq => h1.xlt k (.inr hq)
  have ok := h1.ok
  obtain ⟨X, hX⟩ : ∃ X : Nat → Prop, X = fun k => Q k ∨ (w.heap.size ≤ k ∧ k < wA.heap.size) := ⟨_, rfl⟩
  have hXq : X w.heap.size := by rw [hX]; exact .inr ⟨Nat.le_refl _, by omega⟩
  have hXQ : ∀ k, Q k → X k := fun k hk => by rw [hX]; exact .inl hk
  rw [← hX] at h1 h3
  have hQA : Two5 w0 X wA c b cr r n ch d := ⟨K, h1, h2, h3, h4⟩
  have q1 : wA.cell? ⟨w.heap.size, 1, none⟩ = some (.int .i64 o.p) := hN.cell 1
  have HN := hide hN
  have HG1 := hide (two_get w0 wA X c b cr r n ch d hQA (by omega) o.p)
  have HTW := hide (@get_twice ch d o.p)
  have HNV := hide (@get_never _ ch d o.p ok)
  have HXQ := hide hXQ
  have HXq := hide hXq
  have HBA := hide hbA
  obtain ⟨P, hP⟩ : ∃ P, o.p = P := ⟨_, rfl⟩
  rw [hP] at q1 HG1 HTW HNV
  obtain ⟨E1, hE1⟩ : ∃ E1, (getC ch d P).1 = E1 := ⟨_, rfl⟩
  have HQ : Hid (∀ wz, Blk wz w.heap.size 38 (occ o) → wz.cell? ⟨w.heap.size, 1, none⟩ = some (.int .i64 P)) := fun wz hz => by rw [← hP]; exact hz.cell 1
  clear h h1 h2 h3 h4 hN hbA ok hQ' hX hXq hXQ ho hk hQA
  have hXw : ∀ wx wy, Turn w0 No X wx wy → Blk wx w.heap.size 38 (occ o) → Blk wy w.heap.size 38 (occ o) := fun wx wy ht hb => hb.only ht (fun hh => hh.2 HXq.out)
  have HXW := hide hXw
  clear hXw
  by_cases h10 : E1 = 0
  · -- it is handed out
    subst h10
    rw [hE1] at HG1
    obtain ⟨tw1, tw2⟩ := HTW.out hE1
    have HTW2 := hide tw2
    obtain ⟨bs, hbs⟩ : ∃ bs, (getC ch d P).2.1 = bs := ⟨_, rfl⟩
    obtain ⟨ch1, hch1⟩ : ∃ ch1, (getC ch d P).2.2.1 = ch1 := ⟨_, rfl⟩
    obtain ⟨d1, hd1⟩ : ∃ d1, (getC ch d P).2.2.2 = d1 := ⟨_, rfl⟩
    rw [hbs] at tw2
    rw [hch1, hd1] at tw1 tw2
    obtain ⟨ch2, hch2⟩ : ∃ ch2, (getC ch1 d1 P).2.2.1 = ch2 := ⟨_, rfl⟩
    obtain ⟨d2, hd2⟩ : ∃ d2, (getC ch1 d1 P).2.2.2 = d2 := ⟨_, rfl⟩
    have H1 : Hid (Calls Tryz.prog 18 #[dp c, .int .i64 P] wA fun e w' => ∃ g, e = .returned (.tuple #[.slice (some ⟨g, 0, none⟩) 256 256, .int .i64 0]) ∧ Turn w0 No X wA w' ∧ bs.length = 256 ∧ Bytes w' g 84 256 ∧ w0.heap.size ≤ g ∧ ¬ X g ∧ ∃ K, Mid5 w0 (fun k => X k ∨ k = g) K w' c b cr r ch1 d1 ch d ∧ Few n ch d ∧ ChOk d.st.length ch) := by
      refine HG1.out.mono ?_
      rintro e w' ⟨v, rfl, ht, ⟨_, g, rfl, hz, hB, hg0, hgX, K', hm, hf, hok⟩ | ⟨hne, _⟩⟩
      · rw [hbs] at hz hB
        rw [hch1, hd1] at hm
        exact ⟨g, rfl, ht, hz.1, bytes_page hB hz.1, hg0, hgX, K', hm, hf, hok⟩
      · exact absurd rfl hne
    have H2 : Hid (∀ w1 g K, bs.length = 256 → Mid5 w0 (fun k => X k ∨ k = g) K w1 c b cr r ch1 d1 ch d → Few n ch d → ChOk d.st.length ch → Calls Tryz.prog 22 #[dp cr, .int .i64 P] w1 fun e w' => ∃ a cap, e = .returned (.tuple #[.slice a 256 cap, .int .i64 0]) ∧ Sl w' (.slice a 256 cap) bs ∧ (∀ k, (Value.slice a 256 cap).ownBlock = some k → w1.heap.size ≤ k ∧ k < w'.heap.size) ∧ Two5 w0 (fun k => (X k ∨ k = g) ∨ (Value.slice a 256 cap).ownBlock = some k) w' c b cr r (n + 2) ch1 d1 ∧ Turn w0 No X w1 w' ∧ Only K w1 w') := fun w1 g K hbl hm hf ok => by
      rw [← hch1, ← hd1] at hm
      refine (two_refGet hm hf ok (by omega)).mono ?_
      rintro e w' ⟨v, rfl, k1, k2, k3, k4, k5⟩
      rw [hbs] at k1
      rw [hch1, hd1] at k3
      obtain ⟨a, cap, rfl⟩ := sl_form' k1
      rw [hbl] at k1 k2 k3
      rw [hE1, hbl]
      exact ⟨a, cap, rfl, k1, k2, k3, Only.mono k4 (fun k _ hk => ⟨hk.1, fun hq => hk.2 (.inl hq)⟩), k5⟩
    have H3 : Hid (∀ (Y : Nat → Prop) w3, Two5 w0 Y w3 c b cr r (n + 2) ch1 d1 → Calls Tryz.prog 18 #[dp c, .int .i64 P] w3 fun e w' => ∃ g, e = .returned (.tuple #[.slice (some ⟨g, 0, none⟩) 256 256, .int .i64 0]) ∧ Turn w0 No Y w3 w' ∧ Sl w' (.slice (some ⟨g, 0, none⟩) 256 256) bs ∧ ∃ K, Mid5 w0 (fun k => Y k ∨ k = g) K w' c b cr r ch2 d2 ch1 d1 ∧ Few (n + 2) ch1 d1 ∧ ChOk d1.st.length ch1) := fun Y w3 h3 => by
      refine (two_get w0 w3 Y c b cr r (n + 2) ch1 d1 h3 (by omega) P).mono ?_
      rintro e w' ⟨v, rfl, ht, ⟨_, g, rfl, hz, hB, hg0, hgX, K', hm, hf, hok⟩ | ⟨hne, _⟩⟩
      · rw [hch2, hd2] at hm
        have := blk_sl hB hz
        rw [tw2] at this
        rw [tw1]
        exact ⟨g, rfl, ht, this, K', hm, hf, hok⟩
      · exact absurd tw1 hne
    have H4 : Hid (∀ (Y : Nat → Prop) w4 K, Mid5 w0 Y K w4 c b cr r ch2 d2 ch1 d1 → Few (n + 2) ch1 d1 → ChOk d1.st.length ch1 → Calls Tryz.prog 22 #[dp cr, .int .i64 P] w4 fun e w' => ∃ a nn cap, e = .returned (.tuple #[.slice a nn cap, .int .i64 0]) ∧ (∃ Y' : Nat → Prop, (∀ k, Y k → Y' k) ∧ Two5 w0 Y' w' c b cr r (n + 4) ch2 d2) ∧ Turn w0 No Y w4 w') := fun Y w4 K hm hf ok => by
      rw [← hch2, ← hd2] at hm
      refine (two_refGet hm hf ok (by omega)).mono ?_
      rintro e w' ⟨v, rfl, k1, k2, k3, k4, k5⟩
      rw [hch2, hd2] at k3
      obtain ⟨a, cap, rfl⟩ := sl_form' k1
      rw [tw1]
      exact ⟨a, _, cap, rfl, ⟨_, fun k hk => .inl hk, k3⟩, k4⟩
    have HEnd : Hid (∀ (Y' : Nat → Prop) w', (∀ k, X k → Y' k) → Two5 w0 Y' w' c b cr r (n + 4) ch2 d2 → Turn w0 No X wA w' → ∀ w6, Below w'.heap.size w' w6 → Done5 w0 w Q c b cr r n w6) := fun Y' w' hY k1 k2 w6 hb =>
      ⟨⟨_, _, two_few (two_less (two_below k1 hb) (fun k hk => .inl (hY k (HXQ.out k hk)))) (by omega)⟩, ((Turn.of_below HBA.out).trans (Only.mono k2 (fun k _ hk => ⟨hk.1, fun hq => hk.2 (HXQ.out k hq)⟩))).trans (Turn.of_below hb)⟩
    clear HG1 HTW HTW2 HNV hbs hch1 hd1 hch2 hd2 tw1 tw2 hE1 hP
    go_enter Tryz.func9, Tryz.ntmps9
    go_wp2_with (first
      | (go_at_call 18; refine H1.out.mono ?_; rintro e w1 ⟨g, rfl, ht1, hbl, hby1, hg0, hgX, K1, hm1, hf1, ok1⟩; have hN1 := HXW.out wA w1 ht1 HN.out; have q11 := HQ.out w1 hN1; have HN1 := hide hN1; have HT1 := hide ht1; have HBY1 := hide hby1; have HG0 := hide hg0; have HGX := hide hgX; have HGK : Hid (¬ K1 g) := (fun hk => (hm1.2.2 g hk).2 (.inr rfl)); have HR2 := hide (H2.out w1 g K1 hbl hm1 hf1 ok1); clear H1 H2 ht1 hbl hby1 hg0 hgX hm1 hf1 ok1 hN1)
      | (go_at_call 22; refine HR2.out.mono ?_; rintro e w2 ⟨a2, cap2, rfl, hs2, hk2, htw2, ht2, ho2⟩; have HS2 := hide hs2; have HK2 := hide hk2; have HTW2 := hide htw2; have HT2 := hide (HT1.out.trans ht2); have HBY2 : Hid (Bytes w2 g 84 256) := (by obtain ⟨cs, b1, b2, b3⟩ := HBY1.out; exact ⟨cs, b1.only ho2 HGK.out, b2, b3⟩); have HGL : Hid (g < w1.heap.size) := (by obtain ⟨cs, b1, b2, b3⟩ := HBY1.out; exact b1.lt); have HN2 := hide (HXW.out w1 w2 ht2 HN1.out); clear HR2 hs2 hk2 htw2 ht2 ho2 HBY1 HGK HN1))
    go_loopg [13, 42] 256 (fun gk s13 iv wr => ∃ k : Nat, gk + k = 256 ∧ iv = .int .i64 k ∧ Bytes wr g 84 256 ∧ Only (· = g) w2 wr)
    case atStart => exact ⟨0, rfl, rfl, HBY2.out, Only.refl _ _⟩
    case round =>
      obtain ⟨k, hk, rfl, hby, how⟩ := hrel
      cases gk with
      | zero =>
        obtain rfl : k = 256 := by omega
        have htw3 : Two5 w0 (fun k => (X k ∨ k = g) ∨ (Value.slice a2 256 cap2).ownBlock = some k) wr c b cr r (n + 2) ch1 d1 := two_turn HTW2.out how (fun k e => by rw [e]; exact ⟨.inl (.inr rfl), HG0.out⟩)
        have ht3 : Turn w0 No X w2 wr := how.mono (fun k _ e => by rw [e]; exact ⟨.inr HG0.out, HGX.out⟩)
        have hN3 := HXW.out w2 wr ht3 HN2.out
        have q13 := HQ.out wr hN3
        have HN3 := hide hN3
        have HT3 := hide (HT2.out.trans ht3)
        have HS3 := hide (HS2.out.only how (fun k hk e => by have := (HK2.out k hk).1; have := HGL.out; omega))
        have HG3 := hide (H3.out _ wr htw3)
        clear htw3 ht3 hN3 hby how HTW2 HS2 HBY2 HN2 HT2 H3 q11 q0 q1
        go_wp2_with (first
          | (go_at_call 18; refine HG3.out.mono ?_; rintro e w4 ⟨g4, rfl, ht4, hs4, K4, hm4, hf4, ok4⟩; have HS34 := hide (HS3.out.only ht4 (fun k hk h => h.2 (.inr hk))); have ht4' : Turn w0 No X wr w4 := (Only.mono ht4 (fun k _ hk => ⟨hk.1, fun hq => hk.2 (.inl (.inl hq))⟩)); have hN4 := HXW.out wr w4 ht4' HN3.out; have q14 := HQ.out w4 hN4; have HN4 := hide hN4; have HT4 := hide (HT3.out.trans ht4'); have HS4 := hide hs4; have HR5 := hide (H4.out _ w4 K4 hm4 hf4 ok4); clear HG3 ht4 hs4 hm4 hf4 ok4 ht4' hN4 HS3 HN3 HT3 H4 q13)
          | (go_at_call 22; refine HR5.out.mono ?_; rintro e w5 ⟨a5, n5, cap5, rfl, ⟨Y5, hY5, htw5⟩, ht5⟩; have HSy := hide (HS34.out.only ht5 (fun k hk h => h.2 (.inl (.inr hk)))); have HSz := hide (HS4.out.only ht5 (fun k hk h => h.2 (.inr (by simp [Value.ownBlock] at hk; exact hk.symm)))); have HE5 := hide (HEnd.out Y5 w5 (fun k hk => hY5 k (.inl (.inl (.inl hk)))) htw5 (HT4.out.trans (Only.mono ht5 (fun k _ hk => ⟨hk.1, fun hq => hk.2 (.inl (.inl (.inl hq)))⟩)))); clear HR5 htw5 ht5 hY5 HS34 HS4 HN4 HT4 HEnd)
          | (go_at_call 15; refine (refSame_any w5 _ _ bs bs HSz.out HSy.out).mono ?_; rw [decide_eq_true rfl]; rintro e w6 ⟨rfl, hb6⟩; have HE6 := hide (HE5.out w6 hb6); clear HSz HSy hb6 HE5))
        go_ret
        exact ⟨rfl, HE6.out⟩
      | succ gk =>
        have hkl : k < 256 := by omega
        have hki : (k : Int) < 256 := by omega
        obtain ⟨z, c1, f1, hset⟩ := hby.at hkl
        have HSET := hide hset
        have HOW := hide how
        clear hby how hset
        go_wp2
        go_roundg gk
        case measure => omega
        case rel => exact ⟨k + 1, by omega, by go_num, (HSET.out _).1, HOW.out.trans (HSET.out _).2 (fun _ _ h => h)⟩
  · -- it is not
    have hnv := HNV.out (by rw [hE1]; exact h10)
    obtain ⟨ch1, hch1⟩ : ∃ ch1, (getC ch d P).2.2.1 = ch1 := ⟨_, rfl⟩
    obtain ⟨d1, hd1⟩ : ∃ d1, (getC ch d P).2.2.2 = d1 := ⟨_, rfl⟩
    rw [hch1, hd1] at hnv
    obtain ⟨E2, hE2⟩ : ∃ E2, (getC ch1 d1 P).1 = E2 := ⟨_, rfl⟩
    rw [hE2] at hnv
    obtain ⟨ch2, hch2⟩ : ∃ ch2, (getC ch1 d1 P).2.2.1 = ch2 := ⟨_, rfl⟩
    obtain ⟨d2, hd2⟩ : ∃ d2, (getC ch1 d1 P).2.2.2 = d2 := ⟨_, rfl⟩
    have hnil : (getC ch d P).2.1 = [] := getC_err (by rw [hE1]; exact h10)
    have H1 : Hid (Calls Tryz.prog 18 #[dp c, .int .i64 P] wA fun e w' => e = .returned (.tuple #[.slice none 0 0, .int .i64 E1]) ∧ Turn w0 No X wA w' ∧ ∃ K, Mid5 w0 X K w' c b cr r ch1 d1 ch d ∧ Few n ch d ∧ ChOk d.st.length ch) := by
      refine HG1.out.mono ?_
      rintro e w' ⟨v, rfl, ht, ⟨he, _⟩ | ⟨hne, rfl, K', hm, hf, hok⟩⟩
      · exact absurd (hE1.symm.trans he) h10
      · rw [hch1, hd1] at hm
        rw [hE1]
        exact ⟨rfl, ht, K', hm, hf, hok⟩
    have H2 : Hid (∀ w1 K, Mid5 w0 X K w1 c b cr r ch1 d1 ch d → Few n ch d → ChOk d.st.length ch → Calls Tryz.prog 22 #[dp cr, .int .i64 P] w1 fun e w' => ∃ a cap, e = .returned (.tuple #[.slice a 0 cap, .int .i64 E1]) ∧ Two5 w0 X w' c b cr r (n + 2) ch1 d1 ∧ Turn w0 No X w1 w') := fun w1 K hm hf ok => by
      rw [← hch1, ← hd1] at hm
      refine (two_refGet hm hf ok (by omega)).mono ?_
      rintro e w' ⟨v, rfl, k1, k2, k3, k4, k5⟩
      rw [hnil] at k1
      rw [hch1, hd1] at k3
      obtain ⟨a, cap, rfl⟩ := sl_form' k1
      rw [hE1]
      exact ⟨a, cap, rfl, two_less k3 (fun k hk => .inl hk), k4⟩
    have H3 : Hid (∀ w3, Two5 w0 X w3 c b cr r (n + 2) ch1 d1 → Calls Tryz.prog 18 #[dp c, .int .i64 P] w3 fun e w' => e = .returned (.tuple #[.slice none 0 0, .int .i64 E2]) ∧ Turn w0 No X w3 w' ∧ ∃ K, Mid5 w0 X K w' c b cr r ch2 d2 ch1 d1 ∧ Few (n + 2) ch1 d1 ∧ ChOk d1.st.length ch1) := fun w3 h3 => by
      refine (two_get w0 w3 X c b cr r (n + 2) ch1 d1 h3 (by omega) P).mono ?_
      rintro e w' ⟨v, rfl, ht, ⟨he, _⟩ | ⟨hne, rfl, K', hm, hf, hok⟩⟩
      · exact absurd (hE2.symm.trans he) hnv
      · rw [hch2, hd2] at hm
        rw [hE2]
        exact ⟨rfl, ht, K', hm, hf, hok⟩
    have H4 : Hid (∀ w4 K, Mid5 w0 X K w4 c b cr r ch2 d2 ch1 d1 → Few (n + 2) ch1 d1 → ChOk d1.st.length ch1 → Calls Tryz.prog 22 #[dp cr, .int .i64 P] w4 fun e w' => ∃ a nn cap, e = .returned (.tuple #[.slice a nn cap, .int .i64 E2]) ∧ Two5 w0 X w' c b cr r (n + 4) ch2 d2 ∧ Turn w0 No X w4 w') := fun w4 K hm hf ok => by
      rw [← hch2, ← hd2] at hm
      refine (two_refGet hm hf ok (by omega)).mono ?_
      rintro e w' ⟨v, rfl, k1, k2, k3, k4, k5⟩
      rw [hch2, hd2] at k3
      obtain ⟨a, cap, rfl⟩ := sl_form' k1
      rw [hE2]
      exact ⟨a, _, cap, rfl, two_less k3 (fun k hk => .inl hk), k4⟩
    have HEnd : Hid (∀ w', Two5 w0 X w' c b cr r (n + 4) ch2 d2 → Turn w0 No X wA w' → Done5 w0 w Q c b cr r n w') := fun w' k1 k2 =>
      ⟨⟨_, _, two_few (two_less k1 HXQ.out) (by omega)⟩, (Turn.of_below HBA.out).trans (Only.mono k2 (fun k _ hk => ⟨hk.1, fun hq => hk.2 (HXQ.out k hq)⟩))⟩
    have hE20 : ¬ E2 = 0 := hnv
    clear HG1 HTW HNV hch1 hd1 hch2 hd2 hE1 hE2 hP hnil hnv h10
    go_enter Tryz.func9, Tryz.ntmps9
    go_wp2_with (first
      | (go_at_call 18; refine H1.out.mono ?_; rintro e w1 ⟨rfl, ht1, K1, hm1, hf1, ok1⟩; have hN1 := HXW.out wA w1 ht1 HN.out; have q11 := HQ.out w1 hN1; have HN1 := hide hN1; have HT1 := hide ht1; have HR2 := hide (H2.out w1 K1 hm1 hf1 ok1); clear H1 H2 ht1 hm1 hf1 ok1 hN1)
      | (go_at_call 22; refine HR2.out.mono ?_; rintro e w2 ⟨a2, cap2, rfl, htw2, ht2⟩; have hN2 := HXW.out w1 w2 ht2 HN1.out; have q12 := HQ.out w2 hN2; have HN2 := hide hN2; have HT2 := hide (HT1.out.trans ht2); have HG3 := hide (H3.out w2 htw2); clear HR2 htw2 ht2 hN2 H3 HN1 HT1))
    go_loopg [13, 42] 0 (fun gk s13 iv wr => iv = .int .i64 0 ∧ w2 = wr)
    case atStart => exact ⟨rfl, rfl⟩
    case round =>
      obtain ⟨rfl, rfl⟩ := hrel
      clear q0 q1 q11
      go_wp2_with (first
        | (go_at_call 18; refine HG3.out.mono ?_; rintro e w4 ⟨rfl, ht4, K4, hm4, hf4, ok4⟩; have hN4 := HXW.out w2 w4 ht4 HN2.out; have q14 := HQ.out w4 hN4; have HT4 := hide (HT2.out.trans ht4); have HR5 := hide (H4.out w4 K4 hm4 hf4 ok4); clear HG3 ht4 hm4 hf4 ok4 hN4 HN2 HT2 H4 q12)
        | (go_at_call 22; refine HR5.out.mono ?_; rintro e w5 ⟨a5, n5, cap5, rfl, htw5, ht5⟩; have HE5 := hide (HEnd.out w5 htw5 (HT4.out.trans ht5)); clear HR5 htw5 ht5 HT4 HEnd))
      go_ret
      exact ⟨rfl, HE5.out⟩
end

end Go.Proofs.YtoplhehcjgldeaaGreat
