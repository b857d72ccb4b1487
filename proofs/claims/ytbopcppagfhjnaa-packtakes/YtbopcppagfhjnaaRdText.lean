/- Contract: a text that is taken of package pack's reader in whatever state. -/
import Derived.Test.YtbopcppagfhjnaaRdAll
namespace Go.Proofs.Ytbopcppagfhjnaa
open Go.RowKit

/-- what a take of a text gives, leaves, and the first error behind it -/
def textS (zs : List Int) (er most : Int) : List Int × List Int × Int :=
  if er ≠ 0 then ([], zs, er) else if (tlen zs most).2 ≠ 0 then ([], zs, (tlen zs most).2) else ((zs.take (1 + (tlen zs most).1.toNat)).drop 1, zs.drop (1 + (tlen zs most).1.toNat), 0)

theorem tlen_ok (zs : List Int) (most : Int) (hb : ByteOk zs) (h : (tlen zs most).2 = 0) : 0 ≤ (tlen zs most).1 ∧ (tlen zs most).1 ≤ 255 ∧ 1 + (tlen zs most).1 ≤ zs.length := by
  have := hb.get 0
  unfold tlen at h ⊢
  split at h
  · simp at h
  · split at h
    · simp at h
    · split at h
      · simp at h
      · split at h
        · simp at h
        · rename_i h1 h2 h3 h4
          rw [if_neg h1, if_neg h2, if_neg h3, if_neg h4]
          simp only
          omega

theorem cut1a {w : World} {ao : Option Addr} {L : List Int} {M cap : Nat} (h : Sl w (.slice ao (1 + M) cap) L) (hl : L.length = 1 + M) (hc : cap = 1) : Sl w (.slice ao M 0) (L.drop 1) := by
  rw [← hl] at h
  have := sl_cut0 1 h (by omega) hc
  rwa [show L.length - 1 = M by omega] at this
theorem cut1b {w : World} {ao : Option Addr} {L : List Int} {M cap : Nat} (h : Sl w (.slice ao (1 + M) cap) L) (hl : L.length = 1 + M) : Sl w (.slice (Option.map (fun x => (⟨x.block, x.off + 1, none⟩ : Addr)) ao) M (cap - 1)) (L.drop 1) := by
  rw [← hl] at h
  have := sl_cut 1 h (by omega)
  have e : (fun x : Addr => x.add 1) = fun x => (⟨x.block, x.off + 1, none⟩ : Addr) := by funext x; simp [Addr.add]
  rwa [show L.length - 1 = M by omega, e] at this

set_option maxHeartbeats 400000 in
theorem readerText_any (w : World) (b : Nat) (u : Value) (zs : List Int) (er most : Int) (h : Rd w b u zs er) :
    Calls Try.prog 38 #[.pointer (some ⟨b, 0, none⟩), .int .i64 most] w fun e w' => ∃ v, e = .returned v ∧ Sl w' v (textS zs er most).1 ∧ Fresh w.heap.size w' v ∧ w.grownBy w' (some b) ∧ ∃ u', Rd w' b u' (textS zs er most).2.1 (textS zs er most).2.2 := by
  have HR := hide h
  have HE := err_any w b u zs er h
  have HT := textLength_any w u zs most h.2.1
  have hok := tlen_ok zs most h.2.1.bytes
  obtain ⟨c0, c1, c2, hfr⟩ := h.cells
  have f2 := hfr 2
  have hu : ∃ ao cap, u = .slice ao zs.length cap := by obtain ⟨_, ⟨_, ao, cap, rfl, _⟩, _⟩ := h; exact ⟨ao, cap, rfl⟩
  obtain ⟨ao, cap, rfl⟩ := hu
  clear hfr h
  by_cases e0 : er = 0
  · subst e0
    obtain ⟨⟨m, te⟩, hS⟩ : ∃ s, s = tlen zs most := ⟨_, rfl⟩
    have ht : textS zs 0 most = if te ≠ 0 then ([], zs, te) else ((zs.take (1 + m.toNat)).drop 1, zs.drop (1 + m.toNat), 0) := by rw [textS, if_neg (by simp), ← hS]
    rw [← hS] at HT hok
    simp only at HT hok
    clear hS
    by_cases t0 : te = 0
    · subst t0
      rw [if_neg (by simp)] at ht
      rw [ht]
      obtain ⟨hm0, hm255, hm1⟩ := hok rfl
      obtain ⟨M, rfl⟩ : ∃ M : Nat, m = M := ⟨m.toNat, by omega⟩
      rw [show ((M : Nat) : Int).toNat = M by omega]
      clear ht hok
      have HK := take_any w b _ zs 0 (1 + (M : Int)) HR.out
      have es : takeS zs 0 (1 + (M : Int)) = (zs.take (1 + M), zs.drop (1 + M), 0) := by
        rw [takeS, if_neg (by simp), if_neg (by omega), if_neg (by omega), show (1 + (M : Int)).toNat = 1 + M by omega]
      rw [es] at HK
      simp only at HK
      have hl : (zs.take (1 + M)).length = 1 + M := by simp; omega
      have HL := hide hl
      have HL2 : Hid (((zs.take (1 + M)).drop 1).length ≤ 100000) := by show _ ≤ _; rw [List.length_drop]; omega
      clear es hl
      go_enter Try.func38, Try.ntmps38
      go_wp2_with (first
        | (go_at_call 25; refine HE.mono ?_; rintro e w1 ⟨rfl, hw⟩; subst w1; clear HE)
        | (go_at_call 53; refine HT.mono ?_; rintro e w1 ⟨rfl, hw⟩; subst w1; clear HT)
        | (go_at_call 54; refine HK.mono ?_; rintro e w1 ⟨v, rfl, hs, hoff, hgr, u', hrd⟩; clear HK; have HS1 := hide hs; obtain ⟨_, ao1, cap1, rfl, hc1, hc2, _⟩ := hs; rw [HL.out]; rw [HL.out] at hc1 HS1; have hc3 : cap1 ≤ 2 ^ 63 - 1 := hc2; have K1 := hide (cut1a HS1.out HL.out); have K2 := hide (cut1b HS1.out HL.out); clear HS1))
      · refine (clone_any w1 _ _ (K1.out ‹_›) HL2.out).mono ?_
        rintro e w2 ⟨v2, rfl, hs2, hf2, hb2⟩
        go_wp2
        go_ret
        exact ⟨_, rfl, hs2, fun k hk => ⟨Nat.le_trans hgr.size (hf2 k hk).1, (hf2 k hk).2⟩, grown_below hgr hb2, u', hrd.keep hb2⟩
      · refine (clone_any w1 _ _ K2.out HL2.out).mono ?_
        rintro e w2 ⟨v2, rfl, hs2, hf2, hb2⟩
        go_wp2
        go_ret
        exact ⟨_, rfl, hs2, fun k hk => ⟨Nat.le_trans hgr.size (hf2 k hk).1, (hf2 k hk).2⟩, grown_below hgr hb2, u', hrd.keep hb2⟩
    · rw [if_pos t0] at ht
      rw [ht]
      have e1 : (te == 0) = false := by simpa using t0
      clear ht hok
      go_enter Try.func38, Try.ntmps38
      go_wp2_with (first
        | (go_at_call 25; refine HE.mono ?_; rintro e w1 ⟨rfl, hw⟩; subst w1; clear HE)
        | (go_at_call 53; refine HT.mono ?_; rintro e w1 ⟨rfl, hw⟩; subst w1; clear HT))
      go_ret
      exact ⟨_, rfl, Sl.nil _, Fresh.nil _ _, grown_set (grownBy_refl w _) _ _, _, rd_err HR.out te⟩
  · have es : textS zs er most = ([], zs, er) := by simp [textS, e0]
    rw [es]
    have e1 : (er == 0) = false := by simpa using e0
    go_enter Try.func38, Try.ntmps38
    go_wp2_with (go_at_call 25; refine HE.mono ?_; rintro e w1 ⟨rfl, hw⟩; subst w1)
    go_ret
    exact ⟨_, rfl, Sl.nil _, Fresh.nil _ _, grownBy_refl _ _, _, HR.out⟩

end Go.Proofs.Ytbopcppagfhjnaa
