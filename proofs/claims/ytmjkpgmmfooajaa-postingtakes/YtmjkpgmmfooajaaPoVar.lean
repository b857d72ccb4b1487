/- Contract: how package pack puts a short number behind bytes. -/
import Derived.Test.YtmjkpgmmfooajaaNPk
import Derived.Test.YtmjkpgmmfooajaaPoNum
namespace Go.Proofs.Ytmjkpgmmfooajaa
set_option maxRecDepth 20000
open Go.RowKit

set_option maxRecDepth 10000 in
theorem or128 : ∀ m : Fin 256, (m.val ||| 128) = 128 + m.val % 128 := by decide
theorem or128_u8 (v : Nat) : bits .or .u8 ((v : Int) % 256) 128 = ((128 + v % 128 : Nat) : Int) := by
  have h := u8_or_nat (v % 256) 128 (by omega) (by omega)
  rw [or128 ⟨v % 256, by omega⟩] at h
  rw [show ((v : Int) % 256) = ((v % 256 : Nat) : Int) by omega]
  refine Eq.trans h ?_
  simp

set_option maxHeartbeats 400000 in
theorem packVar_any (w : World) (vb : Value) (zs : List Int) (v : Nat) (h : Sl w vb zs) (hl : zs.length ≤ 50000) (hv : v < 4294967296) :
    Calls Try.prog 45 #[vb, .int .u32 v] w fun e w' => ∃ u, e = .returned u ∧
      w'.ownsRow w.heap.size 5 1 u (zs ++ varBytes v).length ((zs ++ varBytes v).map (Value.int .u8)) ∧ Below w.heap.size w w' ∧ w.heap.size < w'.heap.size := by
  have hn := varLen_le5 hv
  have HN : Hid (varLen v = (varBytes v).length) := rfl
  have H := h
  obtain ⟨hb, ao, cap, rfl, h1, h2, h3, h4⟩ := h
  obtain ⟨n, hnn⟩ : ∃ n, n = varLen v := ⟨_, rfl⟩
  have HS := size_any v w hv
  rw [← hnn] at HS hn HN
  have HNN : Hid (n = varLen v) := hnn
  obtain ⟨B, hB⟩ : ∃ B, B = w.heap.size := ⟨_, rfl⟩
  have HC := copyWithRoom_any w (.slice ao zs.length cap) zs n H (by omega)
  rw [← hB] at HC
  rw [← hB]
  have HB : Hid (B = w.heap.size) := hB
  clear hnn hB h3 h4 h2
  go_enter Try.func45, Try.ntmps45
  go_wp2_with (first
    | (go_at_call 54; refine HS.mono ?_; rintro e w1 ⟨rfl, hw⟩; subst w1)
    | (go_at_call 53; refine HC.mono ?_; rintro e w1 ⟨rfl, ho1, hb1, hz1⟩))
  go_loopw [1, 6] (fun vv at' wr => ∃ (cur : Nat) (done : List Int), cur < 4294967296 ∧ varBytes v = done ++ varBytes cur ∧ vv = .int .u32 cur ∧ at' = .int .i64 (zs.length + done.length : Nat) ∧
      done.length + varLen cur = n ∧ wr.ownsRow B 5 1 (.slice (some ⟨B, 0, none⟩) (zs.length + n) (zs.length + n)) (zs.length + n) (((zs ++ done) ++ List.replicate (varLen cur) 0).map (Value.int .u8)) ∧ Below B w wr ∧ B < wr.heap.size)
    (fun vv _ _ => (intOf vv).toNat)
  case atStart => exact ⟨v, [], hv, rfl, rfl, rfl, by simpa using HNN.out.symm, by simpa [← HNN.out] using ho1, hb1, hz1⟩
  case round =>
    obtain ⟨cur, done, hc1, hc2, rfl, rfl, hc3, hown, hbr, hzr⟩ := hrel
    have hcl := varLen_le5 hc1
    obtain ⟨K, hK⟩ : ∃ K, K = zs.length + done.length := ⟨_, rfl⟩
    have hcell := hown.cellAt K (by omega)
    have hfr := hown.frozenAt K
    have hsome : ∃ q, wr.cell? ⟨B, K, none⟩ = some q := by
      rw [hcell]
      exact ⟨_, List.getElem?_eq_getElem (by simp; omega)⟩
    obtain ⟨q, hq⟩ := hsome
    rw [← hK]
    have HK : Hid (K = zs.length + done.length) := hK
    have hKn : K < zs.length + n := by omega
    have HC2 := hide hc2
    have HC3 := hide hc3
    clear hcell hK hc2 hc3
    by_cases hlt : cur < 128
    · have hst := hown.stored K (.int .u8 (cur : Int))
      have HO := hst.1
      have hgr := hst.2
      rw [HK.out, ← List.length_append, set_next _ _ _ (by omega), varLen_lt hlt] at HO
      have HOO := hide HO
      clear hst HO
      go_wp2
      go_ret
      have e1 : zs ++ varBytes v = zs ++ done ++ [(cur : Int)] := by rw [HC2.out, varBytes_lt hlt, List.append_assoc]
      have e2 : (zs ++ varBytes v).length = zs.length + n := by rw [List.length_append, ← HN.out]
      refine ⟨_, rfl, ?_, hbr.setCell (Nat.le_refl _) _, by simpa using hzr⟩
      rw [e2, e1]
      have := HOO.out
      rw [List.length_append, ← HK.out] at this
      simpa using this
    · have hor := or128_u8 cur
      have hst := hown.stored K (.int .u8 ((128 + cur % 128 : Nat) : Int))
      have HO := hst.1
      have hgr := hst.2
      rw [HK.out, ← List.length_append, set_next _ _ _ (by omega), varLen_ge hlt, Nat.add_sub_cancel] at HO
      have HOO := hide HO
      clear hst HO
      go_wp2
      go_roundw
      case rel =>
        refine ⟨cur / 128, done ++ [((128 + cur % 128 : Nat) : Int)], by omega, ?_, by go_num, ?_, ?_, ?_, hbr.setCell (Nat.le_refl _) _, by simpa using hzr⟩
        · rw [HC2.out, varBytes_ge hlt, List.append_assoc]; rfl
        · rw [HK.out]; simp; omega
        · have := HC3.out; rw [varLen_ge hlt] at this; simp; omega
        · have := HOO.out
          rw [List.length_append, ← HK.out] at this
          simpa using this
      case measure => simp [intOf]; omega

end Go.Proofs.Ytmjkpgmmfooajaa
