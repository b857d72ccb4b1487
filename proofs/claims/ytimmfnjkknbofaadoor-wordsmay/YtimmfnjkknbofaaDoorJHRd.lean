/- Contracts: package pack's reader, once more: its bytes stay in the block that they are in. -/
import Derived.Test.YtimmfnjkknbofaaDoorJNRd
namespace Go.Proofs.YtimmfnjkknbofaaDoor
set_option maxRecDepth 20000
open Go.RowKit
set_option linter.unusedVariables false

set_option maxHeartbeats 400000 in
theorem take_k (w : World) (b : Nat) (u : Value) (zs : List Int) (er n : Int) (h : Rd w b u zs er) :
    Calls Tryd.prog 58 #[.pointer (some ⟨b, 0, none⟩), .int .i64 n] w fun e w' => ∃ v, e = .returned v ∧ Sl w' v (takeS zs er n).1 ∧ Off w' b v ∧ w.grownBy w' (some b) ∧ ∃ u', Rd w' b u' (takeS zs er n).2.1 (takeS zs er n).2.2 ∧ ∀ k, u'.ownBlock = some k → u.ownBlock = some k := by
  have HR := hide h
  have HE := err_any w b u zs er h
  obtain ⟨c0, c1, c2, hfr⟩ := h.cells
  obtain ⟨hg, ⟨hb, ao, cap, rfl, h1, h2, h3, h4⟩, hne⟩ := h
  unfold maxLen at h2
  have f1 := hfr 1
  have f2 := hfr 2
  have HNE := hide hne
  clear hfr h4 h3 hne
  by_cases e0 : er = 0
  · subst e0
    by_cases n0 : n < 0
    · have es : takeS zs 0 n = ([], zs, 1) := by simp [takeS, n0]
      rw [es]
      go_enter Tryd.func58, Tryd.ntmps58
      go_wp2_with (go_at_call 56; refine HE.mono ?_; rintro e w1 ⟨rfl, hw⟩; subst w1)
      go_ret
      exact ⟨_, rfl, Sl.nil _, Off.nil _ _, grown_set (grownBy_refl w _) _ _, _, rd_err HR.out 1, fun _ h => h⟩
    · by_cases n1 : (zs.length : Int) < n
      · have es : takeS zs 0 n = ([], zs, 10) := by simp [takeS, n0, n1]
        rw [es]
        go_enter Tryd.func58, Tryd.ntmps58
        go_wp2_with (go_at_call 56; refine HE.mono ?_; rintro e w1 ⟨rfl, hw⟩; subst w1)
        go_ret
        exact ⟨_, rfl, Sl.nil _, Off.nil _ _, grown_set (grownBy_refl w _) _ _, _, rd_err HR.out 10, fun _ h => h⟩
      · obtain ⟨m, rfl⟩ : ∃ m : Nat, n = m := ⟨n.toNat, by omega⟩
        have es : takeS zs 0 m = (zs.take m, zs.drop m, 0) := by simp only [takeS, if_neg n0, if_neg n1]; simp
        rw [es]
        have hm : m ≤ zs.length := by omega
        have ST := hide (sl_take m HR.out.2.1 hm)
        clear n0 n1
        by_cases hcm : cap = m
        · subst hcm
          go_enter Tryd.func58, Tryd.ntmps58
          go_wp2_with (go_at_call 56; refine HE.mono ?_; rintro e w1 ⟨rfl, hw⟩; subst w1)
          go_ret
          have hgg := grown_set (grownBy_refl w (some b)) 1 (.slice ao 0 0)
          refine ⟨_, rfl, ST.out.keep (fun k hk hlt => hgg.block k hlt (fun e => (HNE.out k (by cases ao <;> exact hk)).1 (by simpa using e))), fun k hk => by simpa using HNE.out k (by cases ao <;> exact hk), hgg, _, ⟨heap_set1 hg _, ?_, fun k hk => ?_⟩, fun k hk => ?_⟩
          · have S0 : Sl w (.slice ao 0 0) (zs.drop cap) := by
              have := sl_cut0 cap HR.out.2.1 hm rfl
              rwa [show zs.length - cap = 0 by omega] at this
            exact S0.keep (fun k hk hlt => hgg.block k hlt (fun e => (HNE.out k (by cases ao <;> exact hk)).1 (by simpa using e)))
          · simpa using HNE.out k (by cases ao <;> exact hk)
          · cases ao <;> exact hk
        · have hcm' : (cap == m) = false := by simpa using hcm
          go_enter Tryd.func58, Tryd.ntmps58
          go_wp2_with (go_at_call 56; refine HE.mono ?_; rintro e w1 ⟨rfl, hw⟩; subst w1)
          go_ret
          have hgg := grown_set (grownBy_refl w (some b)) 1 (.slice (Option.map (fun x => x.add m) ao) (zs.length - m) (cap - m))
          refine ⟨_, rfl, ST.out.keep (fun k hk hlt => hgg.block k hlt (fun e => (HNE.out k (by cases ao <;> exact hk)).1 (by simpa using e))), fun k hk => by simpa using HNE.out k (by cases ao <;> exact hk), hgg, _, ⟨heap_set1 hg _, ?_, fun k hk => ?_⟩, fun k hk => ?_⟩
          · exact (sl_cut m HR.out.2.1 hm).keep (fun k hk hlt => hgg.block k hlt (fun e => (HNE.out k (own_cut _ _ _ _ _ _ _ hk)).1 (by simpa using e)))
          · simpa using HNE.out k (own_cut _ _ _ _ _ _ _ hk)
          · exact own_cut _ _ _ _ _ _ _ hk
  · have es : takeS zs er n = ([], zs, er) := by simp [takeS, e0]
    rw [es]
    have e1 : (er == 0) = false := by simpa using e0
    go_enter Tryd.func58, Tryd.ntmps58
    go_wp2_with (go_at_call 56; refine HE.mono ?_; rintro e w1 ⟨rfl, hw⟩; subst w1)
    go_ret
    exact ⟨_, rfl, Sl.nil _, Off.nil _ _, grownBy_refl _ _, _, HR.out, fun _ h => h⟩

set_option maxRecDepth 20000 in
set_option maxHeartbeats 400000 in
theorem takeNumber_k (w : World) (b : Nat) (u : Value) (zs : List Int) (er : Int) (n : Nat) (h : Rd w b u zs er) (hn : n ≤ 8) :
    Calls Tryd.prog 55 #[.pointer (some ⟨b, 0, none⟩), .int .i64 n] w fun e w' => e = .returned (.int .u64 (numOf (takeS zs er n).1)) ∧ w.grownBy w' (some b) ∧ ∃ u', Rd w' b u' (takeS zs er n).2.1 (takeS zs er n).2.2 ∧ ∀ k, u'.ownBlock = some k → u.ownBlock = some k := by
  have HT := take_k w b u zs er n h
  have HL := takeS_len zs er n
  have HB := (takeS_ok zs er n h.2.1.bytes).1
  obtain ⟨⟨R, zs', er'⟩, hS⟩ : ∃ s, s = takeS zs er n := ⟨_, rfl⟩
  rw [← hS] at HT HL HB ⊢
  simp only at HT HL HB ⊢
  clear hS
  go_enter Tryd.func55, Tryd.ntmps55
  go_wp2_with (go_at_call 58; refine HT.mono ?_; rintro e w1 ⟨v, rfl, hs, hoff, hgr, u', hrd, hk'⟩; have HKK := hide hk'; clear hk'; obtain ⟨_, ao, cap, rfl, h1, h2, h3, h4⟩ := hs; have HGR := hide hgr; have HRD := hide hrd; have H4 := hide h4; clear hgr hrd h3 h4 hoff)
  unfold maxLen at h2
  go_loop [5, 12] (fun vv i => ∃ (k acc : Nat), k ≤ R.length ∧ acc < 256 ^ k ∧ numAcc acc (R.drop k) = numOf R ∧ vv = .int .u64 acc ∧ i = .int .i64 k) (fun _ i => R.length - (intOf i).toNat)
  case atStart => exact ⟨0, 0, Nat.zero_le _, by simp, rfl, rfl, rfl⟩
  case round =>
    obtain ⟨k, acc, hk, hacc, hnum, rfl, rfl⟩ := hrel
    by_cases hlt : k < R.length
    · obtain ⟨b', o, rfl, hc⟩ := H4.out (by intro h; simp [h] at hlt)
      have c1 := hc k hlt
      have hxb := HB.get k
      have hd := drop_cons R k hlt
      obtain ⟨x, hx⟩ : ∃ x, x = R.getD k 0 := ⟨_, rfl⟩
      rw [← hx] at c1 hxb hd
      have ha := Nat.lt_of_lt_of_le hacc (pow56 k (by omega))
      have hor := or_byte acc x ha hxb.1 hxb.2
      have hnext : numAcc (acc * 256 + x.toNat) (R.drop (k + 1)) = numOf R := by rw [← hnum, hd, numAcc]
      have hlt2 : acc * 256 + x.toNat < 256 ^ (k + 1) := by rw [Nat.pow_succ]; omega
      obtain ⟨N, hN⟩ : ∃ N, N = acc * 256 + x.toNat := ⟨_, rfl⟩
      rw [← hN] at hor hnext hlt2
      have HX := hide hnext
      clear hc H4 hx hd hnum hnext hN
      go_wp2
      go_round
      case rel => exact ⟨k + 1, N, by omega, hlt2, HX.out, by go_num, by go_num⟩
      case measure => simp [intOf]; omega
    · have he : numOf R = acc := by rw [← hnum, List.drop_eq_nil_of_le (by omega), numAcc]
      have HE := hide he
      clear he hnum
      go_wp2
      go_ret
      exact ⟨ret_int (by rw [HE.out]), HGR.out, _, HRD.out, HKK.out⟩

theorem readerU8_k (w : World) (b : Nat) (u : Value) (zs : List Int) (er : Int) (h : Rd w b u zs er) :
    Calls Tryd.prog 30 #[.pointer (some ⟨b, 0, none⟩)] w fun e w' => e = .returned (.int .u8 (numOf (takeS zs er 1).1)) ∧ w.grownBy w' (some b) ∧ ∃ u', Rd w' b u' (takeS zs er 1).2.1 (takeS zs er 1).2.2 ∧ ∀ k, u'.ownBlock = some k → u.ownBlock = some k := by
  have HT : Calls Tryd.prog 55 #[.pointer (some ⟨b, 0, none⟩), .int .i64 1] w fun e w' => e = .returned (.int .u64 (numOf (takeS zs er 1).1)) ∧ w.grownBy w' (some b) ∧ ∃ u', Rd w' b u' (takeS zs er 1).2.1 (takeS zs er 1).2.2 ∧ (∀ k, u'.ownBlock = some k → u.ownBlock = some k) := takeNumber_k w b u zs er 1 h (by omega)
  have hlt : numOf (takeS zs er 1).1 < 256 := numOf_lt _ 1 (takeS_ok zs er 1 h.2.1.bytes).1 (takeS_len zs er 1)
  obtain ⟨N, hN⟩ : ∃ N, N = numOf (takeS zs er 1).1 := ⟨_, rfl⟩
  rw [← hN] at HT hlt ⊢
  clear hN
  go_enter Tryd.func30, Tryd.ntmps30
  go_wp2_with (go_at_call 55; refine HT.mono ?_; rintro e w1 ⟨rfl, hg, u', hr, hk'⟩)
  go_ret
  exact ⟨rfl, hg, u', hr, hk'⟩

theorem readerU16_k (w : World) (b : Nat) (u : Value) (zs : List Int) (er : Int) (h : Rd w b u zs er) :
    Calls Tryd.prog 31 #[.pointer (some ⟨b, 0, none⟩)] w fun e w' => e = .returned (.int .u16 (numOf (takeS zs er 2).1)) ∧ w.grownBy w' (some b) ∧ ∃ u', Rd w' b u' (takeS zs er 2).2.1 (takeS zs er 2).2.2 ∧ ∀ k, u'.ownBlock = some k → u.ownBlock = some k := by
  have HT : Calls Tryd.prog 55 #[.pointer (some ⟨b, 0, none⟩), .int .i64 2] w fun e w' => e = .returned (.int .u64 (numOf (takeS zs er 2).1)) ∧ w.grownBy w' (some b) ∧ ∃ u', Rd w' b u' (takeS zs er 2).2.1 (takeS zs er 2).2.2 ∧ (∀ k, u'.ownBlock = some k → u.ownBlock = some k) := takeNumber_k w b u zs er 2 h (by omega)
  have hlt : numOf (takeS zs er 2).1 < 65536 := numOf_lt _ 2 (takeS_ok zs er 2 h.2.1.bytes).1 (takeS_len zs er 2)
  obtain ⟨N, hN⟩ : ∃ N, N = numOf (takeS zs er 2).1 := ⟨_, rfl⟩
  rw [← hN] at HT hlt ⊢
  clear hN
  go_enter Tryd.func31, Tryd.ntmps31
  go_wp2_with (go_at_call 55; refine HT.mono ?_; rintro e w1 ⟨rfl, hg, u', hr, hk'⟩)
  go_ret
  exact ⟨rfl, hg, u', hr, hk'⟩

/-- a reader, its block and its bytes' ahead of a place -/
def RdK (w : World) (b lim : Nat) (zs : List Int) (er : Int) : Prop := ∃ u, Rd w b u zs er ∧ b < lim ∧ ∀ k, u.ownBlock = some k → k < lim

theorem u8_k {w : World} {b lim : Nat} {zs : List Int} {er : Int} (h : RdK w b lim zs er) :
    Calls Tryd.prog 30 #[.pointer (some ⟨b, 0, none⟩)] w fun e w' => e = .returned (.int .u8 (numOf (takeS zs er 1).1)) ∧ w.grownBy w' (some b) ∧ RdK w' b lim (takeS zs er 1).2.1 (takeS zs er 1).2.2 := by
  obtain ⟨u, h1, h2, h3⟩ := h
  refine (readerU8_k w b u zs er h1).mono ?_
  rintro e w' ⟨rfl, hg, u', hr, hk⟩
  exact ⟨rfl, hg, u', hr, h2, fun k hh => h3 k (hk k hh)⟩
theorem u16_k {w : World} {b lim : Nat} {zs : List Int} {er : Int} (h : RdK w b lim zs er) :
    Calls Tryd.prog 31 #[.pointer (some ⟨b, 0, none⟩)] w fun e w' => e = .returned (.int .u16 (numOf (takeS zs er 2).1)) ∧ w.grownBy w' (some b) ∧ RdK w' b lim (takeS zs er 2).2.1 (takeS zs er 2).2.2 := by
  obtain ⟨u, h1, h2, h3⟩ := h
  refine (readerU16_k w b u zs er h1).mono ?_
  rintro e w' ⟨rfl, hg, u', hr, hk⟩
  exact ⟨rfl, hg, u', hr, h2, fun k hh => h3 k (hk k hh)⟩

end Go.Proofs.YtimmfnjkknbofaaDoor
/- Contracts: package pack's reader, once more: a text, and the end. (Written by mkwdrd.py out of NRd.tpl and Rd.tpl.) -/
namespace Go.Proofs.YtimmfnjkknbofaaDoor
set_option maxRecDepth 20000
open Go.RowKit
set_option linter.unusedVariables false

set_option maxHeartbeats 400000 in
theorem readerText_k (w : World) (b : Nat) (u : Value) (zs : List Int) (er most : Int) (h : Rd w b u zs er) :
    Calls Tryd.prog 32 #[.pointer (some ⟨b, 0, none⟩), .int .i64 most] w fun e w' => ∃ v, e = .returned v ∧ w'.ownsRow w.heap.size 5 1 v (textS zs er most).1.length ((textS zs er most).1.map (Value.int .u8)) ∧ w.grownBy w' (some b) ∧ ∃ u', Rd w' b u' (textS zs er most).2.1 (textS zs er most).2.2 ∧ ∀ k, u'.ownBlock = some k → u.ownBlock = some k := by
  have HR := hide h
  have HE := err_any w b u zs er h
  have HT := textLength_any w u zs most h.2.1
  have hok := tlen_ok zs most h.2.1.bytes
  obtain ⟨c0, c1, c2, hfr⟩ := h.cells
  have f2 := hfr 2
  have hu : ∃ ao cap, u = .slice ao zs.length cap := by obtain ⟨_, ⟨_, ao, cap, rfl, _⟩, _⟩ := h; exact ⟨ao, cap, rfl⟩
  obtain ⟨ao, cap, rfl⟩ := hu
  clear hfr h
  by_cases e0 : er = 0
  · subst e0
    obtain ⟨⟨m, te⟩, hS⟩ : ∃ s, s = tlen zs most := ⟨_, rfl⟩
    have ht : textS zs 0 most = if te ≠ 0 then ([], zs, te) else ((zs.take (1 + m.toNat)).drop 1, zs.drop (1 + m.toNat), 0) := by rw [textS, if_neg (by simp), ← hS]
    rw [← hS] at HT hok
    simp only at HT hok
    clear hS
    by_cases t0 : te = 0
    · subst t0
      rw [if_neg (by simp)] at ht
      rw [ht]
      obtain ⟨hm0, hm255, _, hm1⟩ := hok rfl
      obtain ⟨M, rfl⟩ : ∃ M : Nat, m = M := ⟨m.toNat, by omega⟩
      rw [show ((M : Nat) : Int).toNat = M by omega]
      clear ht hok
      have HK := take_k w b _ zs 0 (1 + (M : Int)) HR.out
      have es : takeS zs 0 (1 + (M : Int)) = (zs.take (1 + M), zs.drop (1 + M), 0) := by
        rw [takeS, if_neg (by simp), if_neg (by omega), if_neg (by omega), show (1 + (M : Int)).toNat = 1 + M by omega]
      rw [es] at HK
      simp only at HK
      have hl : (zs.take (1 + M)).length = 1 + M := by simp; omega
      have HL := hide hl
      have HL2 : Hid (((zs.take (1 + M)).drop 1).length ≤ 100000) := by show _ ≤ _; rw [List.length_drop]; omega
      clear es hl
      go_enter Tryd.func32, Tryd.ntmps32
      go_wp2_with (first
        | (go_at_call 56; refine HE.mono ?_; rintro e w1 ⟨rfl, hw⟩; subst w1; clear HE)
        | (go_at_call 57; refine HT.mono ?_; rintro e w1 ⟨rfl, hw⟩; subst w1; clear HT)
        | (go_at_call 58; refine HK.mono ?_; rintro e w1 ⟨v, rfl, hs, hoff, hgr, u', hrd, huo⟩; clear HK; have HS1 := hide hs; obtain ⟨_, ao1, cap1, rfl, hc1, hc2, _⟩ := hs; rw [HL.out]; rw [HL.out] at hc1 HS1; have hc3 : cap1 ≤ 2 ^ 63 - 1 := hc2; have K1 := hide (cut1a HS1.out HL.out); have K2 := hide (cut1b HS1.out HL.out); clear HS1))
      · refine (clone_any w1 _ _ (K1.out ‹_›) HL2.out).mono ?_
        rintro e w2 ⟨v2, rfl, hs2, hb2⟩
        go_wp2
        go_ret
        exact ⟨_, rfl, ownsRow_le' hs2 hgr.size, grown_below hgr hb2, u', hrd.keep hb2, huo⟩
      · refine (clone_any w1 _ _ K2.out HL2.out).mono ?_
        rintro e w2 ⟨v2, rfl, hs2, hb2⟩
        go_wp2
        go_ret
        exact ⟨_, rfl, ownsRow_le' hs2 hgr.size, grown_below hgr hb2, u', hrd.keep hb2, huo⟩
    · rw [if_pos t0] at ht
      rw [ht]
      have e1 : (te == 0) = false := by simpa using t0
      clear ht hok
      go_enter Tryd.func32, Tryd.ntmps32
      go_wp2_with (first
        | (go_at_call 56; refine HE.mono ?_; rintro e w1 ⟨rfl, hw⟩; subst w1; clear HE)
        | (go_at_call 57; refine HT.mono ?_; rintro e w1 ⟨rfl, hw⟩; subst w1; clear HT))
      go_ret
      exact ⟨_, rfl, own_nil _ _ _, grown_set (grownBy_refl w _) _ _, _, rd_err HR.out te, fun _ h => h⟩
  · have es : textS zs er most = ([], zs, er) := by simp [textS, e0]
    rw [es]
    have e1 : (er == 0) = false := by simpa using e0
    go_enter Tryd.func32, Tryd.ntmps32
    go_wp2_with (go_at_call 56; refine HE.mono ?_; rintro e w1 ⟨rfl, hw⟩; subst w1)
    go_ret
    exact ⟨_, rfl, own_nil _ _ _, grownBy_refl _ _, _, HR.out, fun _ h => h⟩

theorem text_k {w : World} {b lim : Nat} {zs : List Int} {er : Int} (h : RdK w b lim zs er) (most : Int) (hl : lim ≤ w.heap.size) :
    Calls Tryd.prog 32 #[.pointer (some ⟨b, 0, none⟩), .int .i64 most] w fun e w' => ∃ v, e = .returned v ∧ w'.ownsRow w.heap.size 5 1 v (textS zs er most).1.length ((textS zs er most).1.map (Value.int .u8)) ∧ w.grownBy w' (some b) ∧ RdK w' b lim (textS zs er most).2.1 (textS zs er most).2.2 := by
  obtain ⟨u, h1, h2, h3⟩ := h
  refine (readerText_k w b u zs er most h1).mono ?_
  rintro e w' ⟨v, rfl, ho, hg, u', hr, hk⟩
  exact ⟨v, rfl, ho, hg, u', hr, h2, fun k hh => h3 k (hk k hh)⟩
theorem RdK.only {S : Nat → Prop} {w w' : World} {b lim : Nat} {zs : List Int} {er : Int} (h : RdK w b lim zs er) (ho : Only S w w') (hS : ∀ k, k < lim → ¬ S k) : RdK w' b lim zs er := by
  obtain ⟨u, h1, h2, h3⟩ := h
  refine ⟨u, ⟨?_, h1.2.1.keep (fun k hk hlt => ho.block k hlt (hS k (h3 k hk))), fun k hk => ⟨(h1.2.2 k hk).1, Nat.lt_of_lt_of_le (h1.2.2 k hk).2 ho.size⟩⟩, h2, h3⟩
  rw [ho.block b h1.lt (hS b h2)]
  exact h1.1

theorem end_any (w : World) (b : Nat) (u : Value) (zs : List Int) (er : Int) (h : Rd w b u zs er) :
    Calls Tryd.prog 33 #[.pointer (some ⟨b, 0, none⟩)] w fun e w' => e = .returned (.int .i64 (if er ≠ 0 then er else if zs = [] then 0 else 12)) ∧ w' = w := by
  obtain ⟨c0, c1, c2, _⟩ := h.cells
  have HE := err_any w b u zs er h
  obtain ⟨_, ⟨_, ao, cap, rfl, _⟩, _⟩ := h
  have hz : zs = [] ↔ zs.length = 0 := List.length_eq_zero_iff.symm
  by_cases h0 : er = 0
  · subst h0
    by_cases h1 : zs.length = 0
    · have : (if (0 : Int) ≠ 0 then (0 : Int) else if zs = [] then 0 else 12) = 0 := by simp [hz.2 h1]
      rw [this]
      have hl : decide ((0 : Int) < (zs.length : Int)) = false := decide_eq_false (by omega)
      go_enter Tryd.func33, Tryd.ntmps33
      go_wp2_with (go_at_call 56; refine HE.mono ?_; rintro e w1 ⟨rfl, hw⟩; subst w1)
      go_ret
      exact ⟨rfl, rfl⟩
    · have : (if (0 : Int) ≠ 0 then (0 : Int) else if zs = [] then 0 else 12) = 12 := by simp [hz, h1]
      rw [this]
      have hl : (0 : Int) < (zs.length : Int) := by omega
      go_enter Tryd.func33, Tryd.ntmps33
      go_wp2_with (go_at_call 56; refine HE.mono ?_; rintro e w1 ⟨rfl, hw⟩; subst w1)
      go_ret
      exact ⟨rfl, rfl⟩
  · have : (if er ≠ 0 then er else if zs = [] then 0 else 12) = er := by simp [h0]
    rw [this]
    go_enter Tryd.func33, Tryd.ntmps33
    go_wp2_with (go_at_call 56; refine HE.mono ?_; rintro e w1 ⟨rfl, hw⟩; subst w1)
    go_ret
    exact ⟨rfl, rfl⟩

end Go.Proofs.YtimmfnjkknbofaaDoor
