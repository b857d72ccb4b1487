/- Contracts: bytes sealed, by package crc and by the document's answer. -/
import Derived.Test.YtmeiahmolmneeaaDoorCrcSeal
namespace Go.Proofs.YtmeiahmolmneeaaDoor
set_option maxRecDepth 20000
open Go.RowKit

/-- a sum's four bytes, the highest first -/
def be4 (s : Nat) : List Int := [((s / 16777216 % 256 : Nat) : Int), ((s / 65536 % 256 : Nat) : Int), ((s / 256 % 256 : Nat) : Int), ((s % 256 : Nat) : Int)]
theorem be4_ok (s : Nat) : ByteOk (be4 s) := by
  intro z hz
  simp only [be4, List.mem_cons, List.not_mem_nil, or_false] at hz
  omega
def sealS (zs : List Int) : List Int := be4 (ofS zs) ++ zs
theorem sealS_len (zs : List Int) : (sealS zs).length = 4 + zs.length := by simp [sealS, be4]; omega
theorem sealS_ok {zs : List Int} (h : ByteOk zs) : ByteOk (sealS zs) := (be4_ok _).append' h

/-- what is shifted up, and what falls out above -/
theorem up8 (s k : Nat) : s * 256 ^ k % 4294967296 * 256 % 4294967296 = s * 256 ^ (k + 1) % 4294967296 := by
  rw [Nat.mod_mul_mod, Nat.pow_succ, Nat.mul_assoc]
theorem top8 (s : Nat) (hs : s < 4294967296) : ∀ k, k < 4 → (be4 s).getD k 0 = ((s * 256 ^ k % 4294967296 / 16777216 : Nat) : Int) := by
  intro k hk
  rcases (by omega : k = 0 ∨ k = 1 ∨ k = 2 ∨ k = 3) with rfl | rfl | rfl | rfl <;> simp [be4, List.getD] <;> omega

theorem made_room (w : World) (n : Nat) (hn : n ≤ 100000) : (w.alloc (.cells (madeCells #[Value.int .u8 0] (4 + n)) 5)).ownsRow w.heap.size 5 1 (.slice (some ⟨w.heap.size, 0, none⟩) 4 (4 + n)) 4 (([] ++ List.replicate 4 (0 : Int)).map (Value.int .u8)) := by
  refine ⟨rfl, .inr ⟨w.heap.size, 4 + n, madeCells #[Value.int .u8 0] (4 + n), rfl, Nat.le_refl _, by simp [World.alloc, -World.alloc_eq], by omega, by unfold maxLen; omega, by simp [size_madeCells], ?_⟩⟩
  rw [toList_madeCells_one, List.take_replicate, Nat.min_eq_left (by omega)]
  rfl

theorem set_next4 (xs : List Int) (n : Nat) (x : Int) (hn : 0 < n) :
    ((xs ++ List.replicate n 0).map (Value.int .u8)).set xs.length (.int .u8 x) = ((xs ++ [x]) ++ List.replicate (n - 1) 0).map (Value.int .u8) := by
  obtain ⟨m, rfl⟩ : ∃ m, n = m + 1 := ⟨n - 1, by omega⟩
  simp [List.replicate_succ]

set_option maxHeartbeats 1000000 in
theorem crcSeal_any (w : World) (v : Value) (zs : List Int) (h : Sl w v zs) (hT : Tab w) (hl : zs.length ≤ 100000) :
    Calls Tryd.prog 53 #[v] w fun e w' => ∃ u, e = .returned u ∧ w'.ownsRow w.heap.size 5 1 u (4 + zs.length) ((sealS zs).map (Value.int .u8)) ∧ Below w.heap.size w w' := by
  obtain ⟨i0, hi, hz0, hz1, hz2⟩ := info_parts infoU8
  have HO := crcOf_any _ _ _ _ (hT.alloc (.cells #[v] 24)) (parts_one h)
  rw [show [zs].flatten = zs by simp] at HO
  have hs := ofS_lt h.bytes
  have HS : Hid (sealS zs = be4 (ofS zs) ++ zs) := rfl
  obtain ⟨s, hss⟩ : ∃ s, s = ofS zs := ⟨_, rfl⟩
  rw [← hss] at HO hs HS
  have HOO := hide HO
  have HSL := hide h
  clear hss HO hT
  obtain ⟨ao, cap, rfl⟩ := sl_form' h
  have hcap := (sl_cap h).2
  clear h
  have hmk : ∀ wx : World, (Instr.makeSlice 24 (.int .i64 4) (.int .i64 (4 + (zs.length : Int)))).run Tryd.prog wx = .ok (.slice (some ⟨wx.heap.size, 0, none⟩) 4 (4 + zs.length)) (wx.alloc (.cells (madeCells #[Value.int .u8 0] (4 + zs.length)) 5)) := by
    intro wx
    have := run_make (P := Tryd.prog) wx 24 5 i0 (.int .u8 0) Tryd.underlying24 hi hz0 .i64 .i64 4 (4 + (zs.length : Int)) (by omega) (by omega) (by rw [hz2]; omega) (by omega)
    rw [hz1, Nat.mul_one, show (4 + (zs.length : Int)).toNat = 4 + zs.length by omega] at this
    exact this
  have hb0 : Below w.heap.size w (w.alloc (.cells #[.slice ao zs.length cap] 24)) := (Below.refl _ w).alloc (Nat.le_refl _) _
  go_enter Tryd.func53, Tryd.ntmps53
  go_wp2_with (go_at_call 70; refine HOO.out.mono ?_; rintro e w1 ⟨rfl, hw⟩; have hb1 : Below w.heap.size w w1 := (by rw [hw]; exact hb0); clear hw HOO)
  have ho := made_room w1 zs.length (by omega)
  have hbel1 := hb1.alloc hb1.size (.cells (madeCells #[Value.int .u8 0] (4 + zs.length)) 5)
  have hsz := hb1.size
  obtain ⟨B, hB⟩ : ∃ B, B = w1.heap.size := ⟨_, rfl⟩
  have hlt1 : B < (w1.alloc (.cells (madeCells #[Value.int .u8 0] (4 + zs.length)) 5)).heap.size := by simp [hB]
  rw [← hB] at ho hsz
  simp only [← hB]
  clear hB
  go_loopg [3, 15] 4 (fun g ss i wr => ∃ k : Nat, g + k = 4 ∧ ss = .int .u32 ((s * 256 ^ k % 4294967296 : Nat) : Int) ∧ i = .int .i64 k ∧ wr.ownsRow B 5 1 (.slice (some ⟨B, 0, none⟩) 4 (4 + zs.length)) 4 (((be4 s).take k ++ List.replicate (4 - k) 0).map (Value.int .u8)) ∧ Below w.heap.size w wr ∧ B < wr.heap.size)
  case atStart => exact ⟨0, rfl, by rw [Nat.pow_zero, Nat.mul_one, Nat.mod_eq_of_lt hs], rfl, by simpa using ho, hbel1, hlt1⟩
  case round =>
    obtain ⟨k, hk, rfl, rfl, hown, hbel, hlt⟩ := hrel
    have HB := hide hbel
    have HO := hide hown
    clear ho hbel1 hlt1 hown
    cases gk with
    | zero =>
      obtain rfl : k = 4 := by omega
      have hown : wr.ownsRow w.heap.size 5 1 (.slice (some ⟨B, 0, none⟩) 4 (4 + zs.length)) 4 ((be4 s).map (Value.int .u8)) := by
        have := HO.out
        rw [show (be4 s).take 4 ++ List.replicate (4 - 4) 0 = be4 s by simp [be4]] at this
        obtain ⟨h1, h2⟩ := this
        refine ⟨by simp [be4], ?_⟩
        rcases h2 with ⟨h, _⟩ | ⟨g, c, cur, e1, e2, e3⟩
        · simp at h
        · exact .inr ⟨g, c, cur, e1, Nat.le_trans hsz e2, e3⟩
      obtain ⟨v1, w2, hr1, ho1, hg1, hn1⟩ := run_append_sl (P := Tryd.prog) wr w.heap.size 24 24 5 i0 Tryd.underlying24 hi hz0 hz1 hz2 _ 4 _ hown ao zs.length cap zs (HSL.out.below HB.out) (by omega) HB.out.size
      have hb2 : Below w.heap.size w w2 := HB.out.grown hg1 HB.out.size (by intro j hj; cases hj; exact hsz)
      have HR1 := hide hr1
      have HO1 := hide ho1
      clear hr1 ho1 hown
      go_wp2_with (at_builtin; refine wpList_append_run _ rfl (.tmp 27) (.tmp 28) 24 rfl _ _ rfl rfl _ _ HR1.out ?_)
      go_ret
      refine ⟨_, rfl, ?_, hb2⟩
      rw [HS.out, List.map_append]
      exact HO1.out
    | succ g =>
      have hk4 : k < 4 := by omega
      have hki : (k : Int) < 4 := by omega
      have htop := top8 s hs k hk4
      have hup := up8 s k
      obtain ⟨sm, hsm⟩ : ∃ sm, sm = s * 256 ^ k % 4294967296 := ⟨_, rfl⟩
      rw [← hsm] at htop hup
      rw [← hsm]
      have hsmlt : sm < 4294967296 := by rw [hsm]; exact Nat.mod_lt _ (by omega)
      have hbyte : (sm : Int) / 16777216 = ((sm / 16777216 : Nat) : Int) := by omega
      obtain ⟨z, hz⟩ : ∃ z : Int, z = ((sm / 16777216 : Nat) : Int) := ⟨_, rfl⟩
      rw [← hz] at htop hbyte
      have hzb : 0 ≤ z ∧ z ≤ 255 := by omega
      have hz256 : z % 256 = z := by omega
      have hst := HO.out.stored k (.int .u8 z)
      have hfr := HO.out.frozenAt k
      obtain ⟨q, hq⟩ : ∃ q, wr.cell? ⟨B, k, none⟩ = some q := own_some HO.out k hk4
      have hO2 := hst.1
      have hlb : (be4 s).length = 4 := by simp [be4]
      have hset : (((be4 s).take k ++ List.replicate (4 - k) 0).map (Value.int .u8)).set k (.int .u8 z) = (((be4 s).take (k + 1) ++ List.replicate (4 - (k + 1)) 0).map (Value.int .u8)) := by
        have h := set_next4 ((be4 s).take k) (4 - k) z (by omega)
        rw [show ((be4 s).take k).length = k by simp [hlb]; omega] at h
        rw [h, take_getD (be4 s) (by rw [hlb]; exact hk4), htop, Nat.sub_sub]
      rw [hset] at hO2
      have HO2 := hide hO2
      have HUP := hide hup
      clear hst hO2 hset hz htop hup hlb hsm
      go_wp2
      go_roundg g
      case measure => omega
      case rel => exact ⟨k + 1, by omega, by rw [← HUP.out]; go_num, by go_num, HO2.out, HB.out.setCell hsz _, by simpa using hlt⟩

end Go.Proofs.YtmeiahmolmneeaaDoor
