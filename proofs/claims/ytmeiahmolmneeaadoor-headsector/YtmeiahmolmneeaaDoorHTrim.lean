/- Contract: bytes.Trim of noughts. -/
import Derived.Test.YtmeiahmolmneeaaDoorHPair
namespace Go.Proofs.YtmeiahmolmneeaaDoor
set_option maxRecDepth 20000
open Go.RowKit
set_option linter.unusedVariables false

theorem trimRight_zero (w : World) (ao : Option Addr) (cap : Nat) (zs : List Int) (h : Sl w (.slice ao zs.length cap) zs) (hz : ∀ i, i < zs.length → zs.getD i 0 = 0) :
    Calls Tryd.prog 42 #[.slice ao zs.length cap, .int .u8 0] w fun r w' => r = .returned (.slice ao 0 cap) ∧ w' = w := by
  have hcap := (sl_cap h).2
  unfold maxLen at hcap
  have HS := hide h
  clear h
  go_enter Tryd.func42, Tryd.ntmps42
  go_wp2
  go_loopg [0] zs.length (fun g s wr => s = .slice ao g cap ∧ g ≤ zs.length ∧ w = wr)
  case atStart => exact ⟨rfl, Nat.le_refl _, rfl⟩
  case round =>
    obtain ⟨rfl, hg, rfl⟩ := hrel
    cases gk with
    | zero =>
      go_wp2
      go_ret
      exact ⟨rfl, rfl⟩
    | succ g =>
      have hlt : g < zs.length := by omega
      obtain ⟨_, ao', cap', he, _, _, _, hc⟩ := HS.out
      simp only [Value.slice.injEq, true_and] at he
      obtain ⟨rfl, rfl⟩ := he
      obtain ⟨b, off, rfl, hcc⟩ := hc (by intro h; simp [h] at hlt)
      have c1 := hcc g hlt
      rw [hz g hlt] at c1
      have hpos : (0 : Int) < ((g + 1 : Nat) : Int) := by omega
      have hsub : (((g + 1 : Nat) : Int) - 1) = (g : Int) := by omega
      have hgi : (g : Int) < ((g + 1 : Nat) : Int) := by omega
      have hcut := fun wx => cut_hd (some ⟨b, off, none⟩) (g + 1) cap g (by omega) wx
      obtain ⟨G, hG⟩ : ∃ G, G = g + 1 := ⟨_, rfl⟩
      rw [← hG] at hpos hsub hgi hcut ⊢
      have HG := hide hG
      clear hc hcc hG
      go_wp2
      go_roundg g
      case measure => have := HG.out; omega
      case rel => exact ⟨rfl, by omega, rfl⟩

theorem trimLeft_zero (w : World) (ao : Option Addr) (cap : Nat) :
    Calls Tryd.prog 41 #[.slice ao 0 cap, .int .u8 0] w fun r w' => r = .returned (.slice none 0 0) ∧ w' = w := by
  go_enter Tryd.func41, Tryd.ntmps41
  go_wp2
  go_loopg [0] 1 (fun g s wr => s = .slice ao 0 cap ∧ w = wr)
  case atStart => exact ⟨rfl, rfl⟩
  case round =>
    obtain ⟨rfl, rfl⟩ := hrel
    go_wp2
    go_ret
    exact ⟨rfl, rfl⟩

set_option maxHeartbeats 1000000 in
theorem trim_zero (w : World) (ao : Option Addr) (cap : Nat) (zs : List Int) (h : Sl w (.slice ao zs.length cap) zs) (hz : ∀ i, i < zs.length → zs.getD i 0 = 0) (hl : 0 < zs.length) :
    Calls Tryd.prog 28 #[.slice ao zs.length cap, .string ⟨#[0]⟩] w fun r w' => r = .returned (.slice none 0 0) ∧ Below w.heap.size w w' := by
  have HR : Hid (∀ wx, Below w.heap.size w wx → Calls Tryd.prog 42 #[.slice ao zs.length cap, .int .u8 0] wx fun r w' => r = .returned (.slice ao 0 cap) ∧ w' = wx) := fun wx hb => trimRight_zero wx ao cap zs (h.below hb) hz
  have HLT := hide (fun wx => trimLeft_zero wx ao cap)
  obtain ⟨n, hn⟩ : ∃ n, n = zs.length := ⟨_, rfl⟩
  rw [← hn] at HR hl ⊢
  have hne : ((n : Int) == 0) = false := by simp; omega
  clear h hz hn
  go_enter Tryd.func28, Tryd.ntmps28
  go_wp2
  refine wp_region_facts (FL [isV (.slice ao n cap), isV (.string ⟨#[0]⟩), isV (.int .u8 0), isV (.slice ao 0 cap), isV (.string ⟨#[0]⟩), isV (.int .u8 0), isV (.slice none 0 0), isV (.slice none 0 0)]) 42 (by kernel_rfl) (by kernel_rfl) (by kernel_rfl) rfl (FL_stable _ (by repeat (first | exact trivial | refine ⟨stable_isV _, ?_⟩))) ?_ ?_
  · refine ⟨?_, ?_, ?_, ?_, ?_, ?_, ?_, ?_, trivial⟩
    · intro act wx h
      have e0 : act.eval (.tmp 0) = .slice ao n cap := h.old 0 (by kernel_rfl)
      have hbel := h.below
      clear h
      refine gives_by rfl act.eval rfl ?_
      generalize act.eval = ρ at *
      intro hf hc
      go_simp
      exact ⟨Below.refl _ _, rfl⟩
    · intro act wx h
      have e1 : act.eval (.tmp 1) = .string ⟨#[0]⟩ := h.old 1 (by kernel_rfl)
      have hbel := h.below
      clear h
      refine gives_by rfl act.eval rfl ?_
      generalize act.eval = ρ at *
      intro hf hc
      go_simp
      exact ⟨Below.refl _ _, rfl⟩
    · intro act wx h
      obtain ⟨v22, e22, f22⟩ := h.val 1 22 (by kernel_rfl)
      obtain rfl : v22 = .string ⟨#[0]⟩ := f22
      have hbel := h.below
      clear h
      refine gives_by rfl act.eval rfl ?_
      generalize act.eval = ρ at *
      intro hf hc
      go_simp
      exact ⟨Below.refl _ _, rfl⟩
    · intro act wx h
      obtain ⟨v21, e21, f21⟩ := h.val 0 21 (by kernel_rfl)
      obtain rfl : v21 = .slice ao n cap := f21
      obtain ⟨v23, e23, f23⟩ := h.val 2 23 (by kernel_rfl)
      obtain rfl : v23 = .int .u8 0 := f23
      have hbel := h.below
      clear h
      refine gives_by rfl act.eval rfl ?_
      generalize act.eval = ρ at *
      intro hf hc
      go_simp
      exact call_same (HR.out wx hbel) (fun _ => rfl)
    · intro act wx h
      have e1 : act.eval (.tmp 1) = .string ⟨#[0]⟩ := h.old 1 (by kernel_rfl)
      have hbel := h.below
      clear h
      refine gives_by rfl act.eval rfl ?_
      generalize act.eval = ρ at *
      intro hf hc
      go_simp
      exact ⟨Below.refl _ _, rfl⟩
    · intro act wx h
      obtain ⟨v25, e25, f25⟩ := h.val 4 25 (by kernel_rfl)
      obtain rfl : v25 = .string ⟨#[0]⟩ := f25
      have hbel := h.below
      clear h
      refine gives_by rfl act.eval rfl ?_
      generalize act.eval = ρ at *
      intro hf hc
      go_simp
      exact ⟨Below.refl _ _, rfl⟩
    · intro act wx h
      obtain ⟨v24, e24, f24⟩ := h.val 3 24 (by kernel_rfl)
      obtain rfl : v24 = .slice ao 0 cap := f24
      obtain ⟨v26, e26, f26⟩ := h.val 5 26 (by kernel_rfl)
      obtain rfl : v26 = .int .u8 0 := f26
      have hbel := h.below
      clear h
      refine gives_by rfl act.eval rfl ?_
      generalize act.eval = ρ at *
      intro hf hc
      go_simp
      exact call_same (HLT.out wx) (fun _ => rfl)
    · intro act wx h
      obtain ⟨v27, e27, f27⟩ := h.val 6 27 (by kernel_rfl)
      obtain rfl : v27 = .slice none 0 0 := f27
      have hbel := h.below
      clear h
      refine gives_by rfl act.eval rfl ?_
      generalize act.eval = ρ at *
      intro hf hc
      go_simp
      exact ⟨Below.refl _ _, rfl⟩
  · intro vals w2 hb2 hv
    have hv7 : vals 7 = .slice none 0 0 := hv 7 4 (by kernel_rfl)
    clear hv
    have HB2 := hide hb2
    generalize hact : putAll _ vals 0 _ = act
    subst hact
    simp only [putAll, Act.put, List.setIfInBounds_toArray, List.set_cons_zero, List.set_cons_succ, hv7, Nat.zero_add, Nat.reduceAdd]
    go_wp2
    go_ret
    exact ⟨rfl, HB2.out⟩

end Go.Proofs.YtmeiahmolmneeaaDoor
