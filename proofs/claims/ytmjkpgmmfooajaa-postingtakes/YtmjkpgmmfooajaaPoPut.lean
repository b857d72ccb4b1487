/- Contracts: package posting's Put and List. -/
import Derived.Test.YtmjkpgmmfooajaaPoForm
import Derived.Test.YtmjkpgmmfooajaaPoCat
namespace Go.Proofs.Ytmjkpgmmfooajaa
set_option maxRecDepth 20000
open Go.RowKit
set_option linter.unusedVariables false
set_option linter.unusedSimpArgs false

/-- 'append' of a whole slice, nil or not, to a row of the call's own, however long -/
theorem run_append_slB {P : Program} (w : World) (base : Nat) (t ty e : TypeId) (i : TypeInfo) (ht : P.underlying t = some (.slice e)) (hi : P.info? e = some i) (hz : i.zero = some (.int .u8 0)) (hsize : i.size = 1) (hby : i.bytes = 1)
    (v : Value) (n : Nat) (xs : List Value) (hown : w.ownsRow base e 1 v n xs) (ao : Option Addr) (m cap : Nat) (zs : List Int) (S : Sl w (.slice ao m cap) zs) (hm : n + zs.length ≤ 140737488355328) (hbase : base ≤ w.heap.size) :
    ∃ v' w', (Builtin.append_ #[t, t] ty #[v, .slice ao m cap]).run P w = .ok v' w' ∧ w'.ownsRow base e 1 v' (n + zs.length) (xs ++ zs.map (Value.int .u8)) ∧ w.grownBy w' v.ownBlock := by
  have hn : m = zs.length := by obtain ⟨_, ao', cap', he, _⟩ := S; simp at he; exact he.2.1
  subst hn
  cases ao with
  | none =>
    obtain ⟨_, ao', cap', he, h1, _, h3, _⟩ := S
    simp only [Value.slice.injEq, true_and] at he
    obtain ⟨rfl, rfl⟩ := he
    obtain rfl := h3 rfl
    obtain rfl : zs = [] := List.eq_nil_of_length_eq_zero (by omega)
    exact ⟨v, w, run_append_owned_none w base t ty e i 1 ht hi v n xs hown, by simpa using hown, ⟨rfl, rfl, rfl, Nat.le_refl _, fun _ _ _ => rfl⟩⟩
  | some a =>
    obtain ⟨v', w', hr, h1, h2, h3⟩ := run_append_own (P := P) w base t ty e i (.int .u8 0) 1 1 ht hi hz hsize hby rfl (by decide) v n xs hown a zs.length cap (zs.map (Value.int .u8)) (by simp) (by
      intro j u hj
      have hjl : j < zs.length := by have := (List.getElem?_eq_some_iff.1 hj).1; simpa using this
      obtain ⟨ad, had, hs⟩ := S.src (by omega)
      obtain rfl := Option.some.inj had
      exact hs j u hj) (oneCell_bytes zs) (by unfold maxLen; omega) (by omega) hbase
    exact ⟨v', w', hr, h1, h2⟩
theorem Ob.appendB {w0 w : World} {B : Nat} {v : Value} {XS : List Int} (h : Ob w0 B w v XS) (ao : Option Addr) (m cap : Nat) (zs : List Int) (S : Sl w (.slice ao m cap) zs) (hl : XS.length + zs.length ≤ 140737488355328) :
    ∃ v' w', (Builtin.append_ #[23, 23] 23 #[v, .slice ao m cap]).run Try.prog w = .ok v' w' ∧ Ob w0 B w' v' (XS ++ zs) ∧ w.grownBy w' v.ownBlock := by
  obtain ⟨i0, hi, hz0, hz1, hz2⟩ := info_parts infoU8
  obtain ⟨v', w', hr, h1, h2⟩ := run_append_slB (P := Try.prog) w B 23 23 5 i0 Try.underlying23 hi hz0 hz1 hz2 v XS.length (XS.map (Value.int .u8)) h.1 ao m cap zs S hl h.2.2
  refine ⟨v', w', hr, ⟨?_, h.2.1.grown h2 h.2.2 (fun k hk => (World.ownsRow.lt h.1 k hk).1), Nat.le_trans h.2.2 h2.size⟩, h2⟩
  rw [List.length_append, List.map_append]
  exact h1

/-- what Put and List answer: bytes of the call's own, an error -/
def GivesBE (w : World) (zs : List Int) (er : Int) (e : Ending) (w' : World) : Prop :=
  ∃ u, e = .returned (.tuple #[u, .int .i64 er]) ∧ w'.ownsRow w.heap.size 5 1 u zs.length (zs.map (Value.int .u8)) ∧ Below w.heap.size w w'
theorem GivesBE.sl {w w' : World} {zs : List Int} {er : Int} {e : Ending} (hb : ByteOk zs) (h : GivesBE w zs er e w') : ∃ ao m cap, e = .returned (.tuple #[.slice ao m cap, .int .i64 er]) ∧ Sl w' (.slice ao m cap) zs ∧ m = zs.length ∧ Below w.heap.size w w' := by
  obtain ⟨u, rfl, ho, hbb⟩ := h
  have hs := sl_of_own_len ho hb
  obtain ⟨ao, cap, rfl⟩ := sl_form' hs
  exact ⟨ao, _, cap, rfl, hs, rfl, hbb⟩

/-- a posting's value, and its box -/
theorem PoV.open {w : World} {v : Value} {p : Po} (h : PoV w v p) : ∃ ao cap, v = .agg #[.int .u32 (p.doc : Int), .slice ao p.pos.length cap] ∧ Is w (.slice ao p.pos.length cap) p.pos ∧ p.doc < 4294967296 := by
  obtain ⟨h1, u, rfl, h2⟩ := h
  obtain ⟨ao, cap, rfl, _, _⟩ := h2.shape
  exact ⟨ao, cap, rfl, h2, h1⟩

set_option maxHeartbeats 1000000 in
theorem put_any (w : World) (prev : Nat) (vb : Value) (zs : List Int) (hz : Sl w vb zs) (hl : zs.length ≤ 700000) (v : Value) (p : Po) (h : PoV w v p) :
    Calls Try.prog 14 #[vb, .int .u32 (prev : Int), v] w (GivesBE w (if mayB prev p = true then zs ++ formP prev p else []) (checkP prev p)) := by
  obtain ⟨ao, cap, rfl, hu, h0⟩ := h.open
  obtain ⟨w1, hw1⟩ : ∃ w1, w.alloc (.cells #[.int .u32 (p.doc : Int), .slice ao p.pos.length cap] 34) = w1 := ⟨_, rfl⟩
  have hb1 : Below w.heap.size w w1 := by rw [← hw1]; exact (Below.refl _ w).alloc (Nat.le_refl _) _
  have hB1 : Blk w1 w.heap.size 34 [.int .u32 (p.doc : Int), .slice ao p.pos.length cap] := by rw [← hw1]; exact Blk.new w _ _
  have HBX : Hid (∀ W, Below w1.heap.size w1 W → W.cell? ⟨w.heap.size, 0, none⟩ = some (.int .u32 (p.doc : Int)) ∧ W.cell? ⟨w.heap.size, 1, none⟩ = some (.slice ao p.pos.length cap)) := fun W hb => by
    have := hB1.below hb hB1.lt
    exact ⟨this.cell 0, this.cell 1⟩
  have HCK := hide (check_any w1 prev _ p (h.below hb1))
  have HSZ := hide hz
  obtain ⟨bo, bm, bc, rfl⟩ := sl_form hz
  have hbok := hz.bytes
  have HB1 := hide hb1
  obtain ⟨c0, c1⟩ := HBX.out w1 (Below.refl _ _)
  cases hm : mayB prev p with
  | false =>
    rw [check_bad hm] at HCK ⊢
    generalize p.pos.length = n at *
    generalize p.doc = d at *
    clear hz hu h hb1 hB1 hm hbok
    go_enter Try.func14, Try.ntmps14
    go_wp2_with (go_at_call 16; refine HCK.out.mono ?_; rintro e w2 ⟨rfl, hb⟩; have HB2 := hide (HB1.out.trans (hb.mono HB1.out.size)); clear HCK hb)
    go_ret2
    exact ⟨_, rfl, own_nil _ _ _, HB2.out⟩
  | true =>
    rw [check_ok hm] at HCK ⊢
    have HFM : Hid (∀ W, Below w1.heap.size w1 W → Calls Try.prog 31 #[.int .u32 (prev : Int), .agg #[.int .u32 (p.doc : Int), .slice ao p.pos.length cap]] W fun e w' => ∃ u, e = .returned u ∧ w'.ownsRow W.heap.size 5 1 u (formP prev p).length ((formP prev p).map (Value.int .u8)) ∧ Below W.heap.size W w') := fun W hb => form_any W prev _ p ((h.below hb1).below hb) hm
    have hfl := (form_len hm).2.1
    have hfo := formP_ok prev p
    have HAPP : Hid (∀ (W : World) (a : Option Addr) (N c : Nat), W.ownsRow w.heap.size 5 1 (.slice a N c) N (([zs.map (Value.int .u8), (formP prev p).map (Value.int .u8)] : List (List Value)).flatten) → W.ownsRow w.heap.size 5 1 (.slice a N c) (zs ++ formP prev p).length ((zs ++ formP prev p).map (Value.int .u8))) := fun W a N c h => by
      have hx : ([zs.map (Value.int .u8), (formP prev p).map (Value.int .u8)] : List (List Value)).flatten = (zs ++ formP prev p).map (Value.int .u8) := by simp
      rw [hx] at h
      have hN : N = (zs ++ formP prev p).length := by have := h.1; simp at this; simp; omega
      rw [← hN]
      exact h
    generalize formP prev p = F at *
    generalize p.pos.length = n at *
    generalize p.doc = d at *
    have HCC : Hid (∀ (W : World) (u : Value), Below w1.heap.size w1 W → Sl W u F → ∀ x : Value, x = u → Calls Try.prog 35 #[.slice (some ⟨W.heap.size, 0, none⟩) 2 2] (W.alloc (.cells #[.slice bo bm bc, x] 23)) fun e w' => ∃ a N c, e = .returned (.slice a N c) ∧ w'.ownsRow W.heap.size 5 1 (.slice a N c) N (([zs.map (Value.int .u8), F.map (Value.int .u8)] : List (List Value)).flatten) ∧ Below W.heap.size W w') := fun W u hb hF x hx => by
      subst hx
      have hA : Below W.heap.size W (W.alloc (.cells #[.slice bo bm bc, x] 23)) := (Below.refl _ W).alloc (Nat.le_refl _) _
      refine (concatB_any _ W.heap.size [.slice bo bm bc, x] [zs.map (Value.int .u8), F.map (Value.int .u8)] rfl (by simp) (Blk.new W _ _) (fun i hi => ?_)).mono ?_
      · have h1 : RowR (W.alloc (.cells #[.slice bo bm bc, x] 23)) 1 (.slice bo bm bc) (zs.map (Value.int .u8)) := RowR.of_sl ((HSZ.out.below (HB1.out.trans (hb.mono HB1.out.size))).below hA) hl
        have h2 : RowR (W.alloc (.cells #[.slice bo bm bc, x] 23)) 1 x (F.map (Value.int .u8)) := RowR.of_sl (hF.below hA) (by omega)
        match i, hi with
        | 0, _ => exact h1
        | 1, _ => exact h2
        | k + 2, hi => simp at hi; omega
      · rintro e w' ⟨a, N, c, rfl, ho, hbb⟩
        exact ⟨a, N, c, rfl, ownsRow_le' ho (by simp), hA.trans (hbb.mono (by simp))⟩
    have HOK := hide hfo
    clear hz hu h hb1 hB1 hm hbok hfo
    go_enter Try.func14, Try.ntmps14
    go_wp2_with (first
      | (go_at_call 16; refine HCK.out.mono ?_; rintro e w2 ⟨rfl, hb⟩; have HB2 := hide hb; obtain ⟨d0, d1⟩ := HBX.out w2 hb; clear HCK hb c0 c1 hw1)
      | (go_at_call 31; refine (HFM.out w2 HB2.out).mono ?_; rintro e w3 ⟨u, rfl, ho, hb⟩; have HB3 := hide (HB2.out.trans (hb.mono HB2.out.size)); have HS3 := hide (sl_of_own_len ho HOK.out); obtain ⟨xo, xm, xc, rfl⟩ := sl_form HS3.out; clear HFM hb ho d0 d1)
      | (go_at_call 35; refine (HCC.out w3 _ HB3.out HS3.out _ rfl).mono ?_; rintro e w4 ⟨a, N, c, rfl, ho, hb⟩; have HO4 := hide ho; have HB4 := hide hb; clear HCC ho hb))
    go_ret2
    exact ⟨_, rfl, HAPP.out _ _ _ _ (ownsRow_le' HO4.out (by have := HB3.out.size; have := HB1.out.size; omega)), (HB1.out.trans (HB3.out.mono HB1.out.size)).trans (HB4.out.mono (by have := HB3.out.size; have := HB1.out.size; omega))⟩

end Go.Proofs.Ytmjkpgmmfooajaa
