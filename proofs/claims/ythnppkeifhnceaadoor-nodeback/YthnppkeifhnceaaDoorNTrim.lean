/- Contract: bytes.TrimRight of noughts. -/
import Derived.Test.YthnppkeifhnceaaDoorNGet
namespace Go.Proofs.YthnppkeifhnceaaDoor
set_option maxRecDepth 20000
open Go.RowKit
set_option linter.unusedVariables false
set_option linter.unusedSimpArgs false
set_option maxRecDepth 20000

/-- b[:h], its value shown -/
theorem cut_hd (ao : Option Addr) (n cap h : Nat) (h2 : h ≤ cap) (wx : World) :
    (Instr.slice 27 (.slice ao n cap) none (some (.int .i64 h)) none).run Tryd.prog wx = .ok (.slice ao h cap) wx := by
  rw [run_slice_h wx 27 ao n cap tySl .i64 h (by omega) (by omega), szSl]
  simp only [Result.andThen, sliced, Int.toNat_natCast]
  by_cases hc : cap = 0
  · rw [if_pos hc]; rfl
  · rw [if_neg hc]
    cases ao with
    | none => rfl
    | some x => simp [Addr.add]

/-- how many of the first g bytes are left without the noughts at their end -/
def trimN (zs : List Int) : Nat → Nat
  | 0 => 0
  | g + 1 => if zs.getD g 0 = 0 then trimN zs g else g + 1
theorem trimN_le (zs : List Int) (m : Nat) : ∀ g, (∀ i, m ≤ i → i < g → zs.getD i 0 = 0) → trimN zs g ≤ m
  | 0, _ => Nat.zero_le _
  | g + 1, h => by
    rw [trimN]
    by_cases hm : m ≤ g
    · rw [if_pos (h g hm (by omega))]
      exact trimN_le zs m g (fun i h1 h2 => h i h1 (by omega))
    · split
      · exact trimN_le zs m g (fun i h1 h2 => h i h1 (by omega))
      · omega
theorem trimN_bound (zs : List Int) : ∀ g, trimN zs g ≤ g
  | 0 => Nat.le_refl _
  | g + 1 => by
    rw [trimN]
    have := trimN_bound zs g
    split <;> omega

theorem trimRightByte_any (w : World) (ao : Option Addr) (cap : Nat) (zs : List Int) (h : Sl w (.slice ao zs.length cap) zs) :
    Calls Tryd.prog 22 #[.slice ao zs.length cap, .int .u8 0] w fun r w' => r = .returned (.slice ao (trimN zs zs.length) cap) ∧ w' = w := by
  have hcap := sl_cap h
  unfold maxLen at hcap
  have HS := hide h
  obtain ⟨T, hT⟩ : ∃ T, T = trimN zs zs.length := ⟨_, rfl⟩
  rw [← hT]
  have HT : Hid (trimN zs zs.length = T) := hT.symm
  clear h hT
  go_enter Tryd.func22, Tryd.ntmps22
  go_wp2
  go_loopg [0] zs.length (fun g s wr => s = .slice ao g cap ∧ g ≤ zs.length ∧ Hid (trimN zs g = T) ∧ w = wr)
  case atStart => exact ⟨rfl, Nat.le_refl _, HT, rfl⟩
  case round =>
    obtain ⟨rfl, hg, ht, rfl⟩ := hrel
    cases gk with
    | zero =>
      have h0 : Hid (T = 0) := by show T = 0; rw [← ht.out, trimN]
      clear HT ht
      go_wp2
      go_ret
      exact ⟨by rw [h0.out]; rfl, rfl⟩
    | succ g =>
      have hlt : g < zs.length := by omega
      obtain ⟨_, ao', cap', he, _, _, _, hc⟩ := HS.out
      simp only [Value.slice.injEq, true_and] at he
      obtain ⟨rfl, rfl⟩ := he
      obtain ⟨b, off, rfl, hcc⟩ := hc (by intro h; simp [h] at hlt)
      have c1 := hcc g hlt
      have hpos : (0 : Int) < ((g + 1 : Nat) : Int) := by omega
      have hsub : (((g + 1 : Nat) : Int) - 1) = (g : Int) := by omega
      have hgi : (g : Int) < ((g + 1 : Nat) : Int) := by omega
      have hcut := fun wx => cut_hd (some ⟨b, off, none⟩) (g + 1) cap g (by omega) wx
      have ht1 : Hid (T = if zs.getD g 0 = 0 then trimN zs g else g + 1) := by show T = _; rw [← ht.out, trimN]
      generalize zs.getD g 0 = z at *
      obtain ⟨G, hG⟩ : ∃ G, G = g + 1 := ⟨_, rfl⟩
      rw [← hG] at hpos hsub hgi hcut ht1 ⊢
      have HG := hide hG
      clear hc hcc hG HT ht
      by_cases hz : z = 0
      · subst hz
        have ht2 : Hid (trimN zs g = T) := by show _ = T; rw [ht1.out, if_pos rfl]
        clear ht1
        go_wp2
        go_roundg g
        case measure => have := HG.out; omega
        case rel => exact ⟨rfl, by omega, ht2, rfl⟩
      · have hzb : (z == 0) = false := by simpa using hz
        have ht2 : Hid (T = G) := by show T = G; rw [ht1.out, if_neg hz]
        clear ht1 hcut
        go_wp2
        go_ret
        exact ⟨by rw [ht2.out]; rfl, rfl⟩

theorem trimRight_any (w : World) (ao : Option Addr) (cap : Nat) (zs : List Int) (h : Sl w (.slice ao zs.length cap) zs) (hl : 0 < zs.length) :
    Calls Tryd.prog 9 #[.slice ao zs.length cap, .string ⟨#[0]⟩] w fun r w' => r = .returned (.slice ao (trimN zs zs.length) cap) ∧ w' = w := by
  have HR := hide (trimRightByte_any w ao cap zs h)
  obtain ⟨n, hn⟩ : ∃ n, n = zs.length := ⟨_, rfl⟩
  rw [← hn] at HR hl ⊢
  have hne : ((n : Int) == 0) = false := by simp; omega
  generalize trimN zs n = T at *
  clear h hn
  go_enter Tryd.func9, Tryd.ntmps9
  go_wp2_with (go_at_call 22; refine HR.out.mono ?_; rintro e w1 ⟨rfl, hw⟩; subst w1; clear HR)
  go_ret
  exact ⟨rfl, rfl⟩

/-- behind a node's bytes its page bears noughts -/
theorem put_trim {n : Nd} (h : checkN n = 0) : (putB n).length = 240 ∧ trimN (putB n) 240 ≤ sizeN n := by
  obtain ⟨hm, hs⟩ := checkN_zero.1 h
  have hl := bytesN_len hm
  have e : putB n = bytesN n ++ List.replicate (240 - (bytesN n).length) 0 := by unfold putB; rw [if_pos h, padN]
  refine ⟨by rw [e, List.length_append, List.length_replicate]; omega, trimN_le _ _ _ (fun i h1 h2 => ?_)⟩
  rw [e]
  simp only [List.getD]
  rw [List.getElem?_append_right (by omega)]
  by_cases hi : i - (bytesN n).length < 240 - (bytesN n).length
  · simp [hi]
  · simp [Nat.le_of_not_lt hi]

end Go.Proofs.YthnppkeifhnceaaDoor
