/- Contracts: what was sealed, by package crc and by the document's answer; the document's seal. -/
import Derived.Test.YtmeiahmolmneeaaDoorCrcOpens
namespace Go.Proofs.YtmeiahmolmneeaaDoor
set_option maxRecDepth 20000
open Go.RowKit

/-- bytes as a number, the highest first -/
def beN (l : List Int) : Nat := l.foldl (fun a c => a * 256 + c.toNat) 0
theorem beN_snoc (l : List Int) (c : Int) : beN (l ++ [c]) = beN l * 256 + c.toNat := by simp [beN, List.foldl_append]
theorem beN_go : ∀ (l : List Int) (a : Nat), ByteOk l → l.foldl (fun a c => a * 256 + c.toNat) a + 1 ≤ (a + 1) * 256 ^ l.length
  | [], a, _ => by simp
  | c :: cs, a, h => by
    have h2 := h c (List.mem_cons_self ..)
    have ih := beN_go cs (a * 256 + c.toNat) (fun z hz => h z (List.mem_cons_of_mem _ hz))
    rw [List.foldl_cons, List.length_cons, Nat.pow_succ]
    refine Nat.le_trans ih ?_
    rw [Nat.mul_comm (256 ^ cs.length) 256, ← Nat.mul_assoc]
    exact Nat.mul_le_mul_right _ (by omega)
theorem beN_lt (l : List Int) (h : ByteOk l) : beN l < 256 ^ l.length := by
  have := beN_go l 0 h
  unfold beN
  omega
theorem beN_four (l : List Int) (h : ByteOk l) (hl : l.length = 4) (s : Nat) (hs : s < 4294967296) : beN l = s ↔ l = be4 s := by
  match l, hl with
  | [a, b, c, d], _ =>
    have ha := h a (by simp)
    have hb := h b (by simp)
    have hc := h c (by simp)
    have hd := h d (by simp)
    simp only [beN, List.foldl_cons, List.foldl_nil, be4, List.cons.injEq, and_true]
    omega

def isSeal (zs : List Int) : Prop := 4 ≤ zs.length ∧ zs.take 4 = be4 (ofS (zs.drop 4))
def sealB (zs : List Int) : Bool := decide (4 ≤ zs.length ∧ zs.take 4 = be4 (ofS (zs.drop 4)))
theorem sealB_yes {zs : List Int} (h : isSeal zs) : sealB zs = true := by unfold sealB; exact decide_eq_true (show 4 ≤ zs.length ∧ zs.take 4 = be4 (ofS (zs.drop 4)) from h)
theorem sealB_no {zs : List Int} (h : ¬ isSeal zs) : sealB zs = false := by unfold sealB; exact decide_eq_false (show ¬ (4 ≤ zs.length ∧ zs.take 4 = be4 (ofS (zs.drop 4))) from h)
def openB (zs : List Int) : List Int := if sealB zs = true then zs.drop 4 else []
theorem openB_yes {zs : List Int} (h : isSeal zs) : openB zs = zs.drop 4 := if_pos (sealB_yes h)
theorem openB_no {zs : List Int} (h : ¬ isSeal zs) : openB zs = [] := if_neg (by rw [sealB_no h]; simp)
theorem isSeal_seal (zs : List Int) : isSeal (sealS zs) := by
  have e1 : (sealS zs).drop 4 = zs := by simp [sealS, be4]
  have e2 : (sealS zs).take 4 = be4 (ofS zs) := by simp [sealS, be4]
  exact ⟨by rw [sealS_len]; omega, by rw [e1, e2]⟩
theorem openB_seal (zs : List Int) : openB (sealS zs) = zs := by
  rw [openB_yes (isSeal_seal zs)]
  simp [sealS, be4]
theorem isSeal_iff (zs : List Int) : sealS (zs.drop 4) = zs ↔ isSeal zs := by
  constructor
  · intro h
    have := isSeal_seal (zs.drop 4)
    rwa [h] at this
  · intro h
    unfold sealS
    rw [← h.2]
    exact List.take_append_drop 4 zs
theorem own_nil (w : World) (base : Nat) (e : TypeId) : w.ownsRow base e 1 (.slice none 0 0) 0 [] := ⟨rfl, .inl ⟨rfl, rfl⟩⟩

set_option maxRecDepth 10000 in
theorem or8 (sm : Nat) (c : Int) (h : sm * 256 + 255 < 4294967296) (h0 : 0 ≤ c) (h1 : c ≤ 255) : bits .or .u32 ((sm : Int) * 256) c = ((sm * 256 + c.toNat : Nat) : Int) := by
  have k1 : sm * 256 < 4294967296 := by omega
  have k2 : c.toNat < 4294967296 := by omega
  have k3 : c.toNat < 2 ^ 8 := by omega
  have := u32_or_nat (sm * 256) c.toNat k1 k2
  have e : sm * 256 ||| c.toNat = sm * 256 + c.toNat := by
    have := Nat.two_pow_add_eq_or_of_lt k3 sm
    rw [Nat.mul_comm, ← this]
  rw [e] at this
  rw [← this]
  congr 1
  omega

set_option maxHeartbeats 1000000 in
theorem crcOpen_any (w : World) (v : Value) (zs : List Int) (h : Sl w v zs) (hT : Tab w) (hl : zs.length ≤ 100000) :
    Calls Tryd.prog 84 #[v] w fun e w' => ∃ u, e = .returned (.tuple #[u, .bool (sealB zs)]) ∧ w'.ownsRow w.heap.size 5 1 u (openB zs).length ((openB zs).map (Value.int .u8)) ∧ Below w.heap.size w w' := by
  obtain ⟨ao, cap, rfl⟩ := sl_form' h
  have hcap := (sl_cap h).2
  unfold maxLen at hcap
  by_cases h4 : zs.length < 4
  · have hno : ¬ isSeal zs := fun hh => by have := hh.1; omega
    have h4i : (zs.length : Int) < 4 := by omega
    have ho : openB zs = [] := by exact openB_no hno
    have hd : sealB zs = false := sealB_no hno
    have HO := hide ho
    have HD := hide hd
    clear h hT ho hd hno
    go_enter Tryd.func84, Tryd.ntmps84
    go_wp2
    go_ret2
    exact ⟨.slice none 0 0, by rw [HD.out]; rfl, by rw [HO.out]; exact own_nil _ _ _, Below.refl _ _⟩
  · have h4i : ¬ (zs.length : Int) < 4 := by omega
    obtain ⟨x1, c1, r1, s1⟩ := cut_h w ao zs cap 4 h (by omega)
    obtain ⟨x2, c2, r2, s2⟩ := cut_l w ao zs cap 4 h (by omega)
    have S1 := s1 w h
    have S2 := s2 w h
    have l1 : (zs.take 4).length = 4 := by simp; omega
    have r1' : ∀ wx, (Instr.slice 24 (.slice ao zs.length cap) none (some (.int .i64 4)) none).run Tryd.prog wx = .ok (.slice x1 (zs.take 4).length c1) wx := r1
    have r2' : ∀ wx, (Instr.slice 24 (.slice ao zs.length cap) (some (.int .i64 4)) none none).run Tryd.prog wx = .ok (.slice x2 (zs.drop 4).length c2) wx := r2
    have HOf := crcOf_any _ _ _ _ (hT.alloc (.cells #[.slice x2 (zs.drop 4).length c2] 24)) (parts_one S2)
    rw [show [zs.drop 4].flatten = zs.drop 4 by simp] at HOf
    have hlt := ofS_lt S2.bytes
    have HI := hide (beN_four (zs.take 4) S1.bytes l1 (ofS (zs.drop 4)) hlt)
    have HSD : Hid (isSeal zs ↔ zs.take 4 = be4 (ofS (zs.drop 4))) := ⟨fun h => h.2, fun h => ⟨by omega, h⟩⟩
    have HOB : Hid ((isSeal zs → openB zs = zs.drop 4) ∧ (¬ isSeal zs → openB zs = [])) := ⟨openB_yes, openB_no⟩
    have hyl : (zs.drop 4).length ≤ 100000 := by simp; omega
    obtain ⟨X, hX⟩ : ∃ X, X = zs.take 4 := ⟨_, rfl⟩
    obtain ⟨Y, hY⟩ : ∃ Y, Y = zs.drop 4 := ⟨_, rfl⟩
    rw [← hX] at r1' S1 HI HSD l1
    rw [← hY] at r2' S2 HOf hlt HI HSD HOB hyl
    rw [l1] at r1' S1
    obtain ⟨n2, hn2⟩ : ∃ n, n = Y.length := ⟨_, rfl⟩
    rw [← hn2] at r2' S2 HOf hyl
    obtain ⟨s, hs⟩ : ∃ s, s = ofS Y := ⟨_, rfl⟩
    rw [← hs] at HOf hlt HI HSD
    have HOO := hide HOf
    have HS1 := hide S1
    have HS2 := hide S2
    have HN2 := hide hn2
    have okX := S1.bytes
    have HL1 := hide l1
    obtain ⟨_, ao1, cap1, he1, _, _, _, hc1⟩ := S1
    have he1' := he1
    simp only [Value.slice.injEq] at he1'
    obtain ⟨ha1, h44, hc11⟩ := he1'
    clear h44
    subst ha1 hc11
    have HC1 := hide hc1
    clear r1 r2 s1 s2 S2 hX hY HOf h hT hs hn2 hc1 he1 l1
    go_enter Tryd.func84, Tryd.ntmps84
    go_wp2
    go_loopg [4, 13] 4 (fun g ss i wr => ∃ k sm : Nat, g + k = 4 ∧ sm = beN (X.take k) ∧ ss = .int .u32 (sm : Int) ∧ i = .int .i64 k ∧ w = wr)
    case atStart => exact ⟨0, 0, rfl, rfl, rfl, rfl, rfl⟩
    case round =>
      obtain ⟨k, sm, hk, hsm, rfl, rfl, rfl⟩ := hrel
      have HSM := hide hsm
      cases gk with
      | zero =>
        obtain rfl : k = 4 := by omega
        rw [List.take_of_length_le (by rw [HL1.out]; omega)] at hsm
        have HE : Hid (sm = s ↔ isSeal zs) := by rw [hsm]; exact HI.out.trans HSD.out.symm
        clear hsm HSM
        by_cases heq : sm = s
        · subst heq
          have hyes : isSeal zs := HE.out.1 rfl
          have ho : openB zs = Y := HOB.out.1 hyes
          have hd : sealB zs = true := sealB_yes hyes
          have HC : Hid (∀ wx, Sl wx (.slice x2 n2 c2) Y → Calls Tryd.prog 22 #[.slice x2 n2 c2] wx fun e w' => ∃ u, e = .returned u ∧ w'.ownsRow wx.heap.size 5 1 u Y.length (Y.map (Value.int .u8)) ∧ Below wx.heap.size wx w') := fun wx hx => clone_any wx _ Y hx (by rw [← HN2.out]; exact hyl)
          have HO := hide ho
          have HD := hide hd
          clear ho hd hyes
          go_wp2_with (first
            | (go_at_call 70; refine HOO.out.mono ?_; rintro e w1 ⟨rfl, hw⟩; have hb1 : Below w.heap.size w w1 := (by rw [hw]; exact (Below.refl _ w).alloc (Nat.le_refl _) _); clear hw HOO)
            | (go_at_call 22; refine (HC.out _ (HS2.out.below hb1)).mono ?_; rintro e w2 ⟨u, rfl, ho2, hb2⟩; clear HC))
          go_ret2
          refine ⟨u, by rw [HD.out]; rfl, ?_, below_then hb1 hb2 (Nat.le_refl _)⟩
          rw [HO.out]
          obtain ⟨h1, h2⟩ := ho2
          refine ⟨h1, ?_⟩
          rcases h2 with h | ⟨g, c, cur, e1, e2, e3⟩
          · exact .inl h
          · exact .inr ⟨g, c, cur, e1, Nat.le_trans hb1.size e2, e3⟩
        · have hne : ((sm : Int) != (s : Int)) = true := by simp; omega
          have hno : ¬ isSeal zs := fun hh => heq (HE.out.2 hh)
          have ho : openB zs = [] := HOB.out.2 hno
          have hd : sealB zs = false := sealB_no hno
          have HO := hide ho
          have HD := hide hd
          clear ho hd hno heq
          go_wp2_with (first
            | (go_at_call 70; refine HOO.out.mono ?_; rintro e w1 ⟨rfl, hw⟩; have hb1 : Below w.heap.size w w1 := (by rw [hw]; exact (Below.refl _ w).alloc (Nat.le_refl _) _); clear hw HOO))
          go_ret2
          exact ⟨.slice none 0 0, by rw [HD.out]; rfl, by rw [HO.out]; exact own_nil _ _ _, hb1⟩
      | succ g =>
        have hk4 : k < 4 := by omega
        have hki : (k : Int) < 4 := by omega
        have hkX : k < X.length := by rw [HL1.out]; exact hk4
        obtain ⟨b, o, rfl, hcc⟩ := HC1.out (by intro h; simp [h] at hkX)
        have c1 := hcc k hkX
        have hcb := okX.get k
        obtain ⟨c, hc⟩ : ∃ c, c = X.getD k 0 := ⟨_, rfl⟩
        rw [← hc] at c1 hcb
        have HCC := hide hc
        have hb := beN_lt (X.take k) (okX.take k)
        have hlk : (X.take k).length = k := by simp; omega
        have hsb : sm * 256 + 255 < 4294967296 := by
          rw [hlk, ← hsm] at hb
          rcases (by omega : k = 0 ∨ k = 1 ∨ k = 2 ∨ k = 3) with rfl | rfl | rfl | rfl <;> simp at hb <;> omega
        have hor := or8 sm c hsb hcb.1 hcb.2
        obtain ⟨q, hq⟩ : ∃ q, q = sm * 256 + c.toNat := ⟨_, rfl⟩
        rw [← hq] at hor
        have HQ := hide hq
        clear hq hb hlk hsm hc hcc
        go_wp2
        go_roundg g
        case measure => omega
        case rel => exact ⟨k + 1, q, by omega, by rw [HQ.out, take_getD X hkX, beN_snoc, ← HSM.out, HCC.out], rfl, by go_num, rfl⟩

end Go.Proofs.YtmeiahmolmneeaaDoor
