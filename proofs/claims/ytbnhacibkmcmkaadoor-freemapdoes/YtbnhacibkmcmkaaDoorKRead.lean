/- Contract: package freemap's read. -/
import Derived.Test.YtbnhacibkmcmkaaDoorKParts
namespace Go.Proofs.YtbnhacibkmcmkaaDoor
set_option maxRecDepth 20000
open Go.RowKit
set_option linter.unusedVariables false
set_option maxRecDepth 100000

theorem tb_at {bs : List Int} (h : ByteOk bs) (a r : Nat) (hr : r < 8) : tb bs (8 * a + r) = (bs.getD a 0).toNat.testBit r := by
  rw [tb, show (8 * a + r) / 8 = a by omega, show (8 * a + r) % 8 = r by omega]
theorem bit_of (x r : Nat) (hx : x < 256) : ((x / 2 ^ r) &&& 1 = if x.testBit r then 1 else 0) := by
  rw [Nat.and_one_is_mod, ← Nat.shiftRight_eq_div_pow, Nat.testBit, Nat.and_comm]
  have := Nat.and_one_is_mod (x >>> r)
  rw [this]
  rcases Nat.mod_two_eq_zero_or_one (x >>> r) with h | h <;> rw [h] <;> simp

/-- what was read so far, in memory -/
structure RdI (w : World) (v : Value) (zs : List Int) (wr : World) : Prop where
  ints : Ints wr w.heap.size v zs
  below : Below w.heap.size w wr

set_option maxHeartbeats 4000000 in
theorem read_any (w : World) (v : Value) (vs : List Value) (pss : List (List Int)) (h : Parts w v vs pss) (hl : pss.length ≤ 100) : Calls Tryd.prog 40 #[v] w fun e w' => ∃ v', e = .returned v' ∧ Ints w' w.heap.size v' (rdAll 0 pss) ∧ Below w.heap.size w w' := by
  have HP := hide h
  obtain ⟨ao, cap, rfl, hc1, hc2, hvl⟩ := h.shape
  unfold maxLen at hc2
  obtain ⟨m, hm⟩ : ∃ m, pss.length = m := ⟨_, rfl⟩
  rw [hm] at HP hc1 hl hvl ⊢
  have HM := hide hm
  have HVL := hide hvl
  clear h hm hvl
  go_enter Tryd.func40, Tryd.ntmps40
  go_wp2
  go_loopg [3, 11] m (fun gg tv kv wr => ∃ k : Nat, gg + k = m ∧ kv = .int .i64 k ∧ RdI w tv (rdAll 0 (pss.take k)) wr)
  case atStart => exact ⟨0, rfl, rfl, Ints.nil _ _, Below.refl _ _⟩
  case round =>
    obtain ⟨k, hk, rfl, hrd⟩ := hrel
    have HRD := hide hrd
    obtain ⟨aot, capt, hut⟩ := hrd.ints.shape
    generalize hnt : (rdAll 0 (pss.take k)).length = nt at hut
    subst hut
    cases gk with
    | zero =>
      have hkm : k = m := by omega
      have h3 : ¬ (k : Int) < (m : Int) := by omega
      have HE : Hid (pss.take k = pss) := by show _ = _; rw [hkm]; exact List.take_of_length_le (by rw [HM.out]; exact Nat.le_refl _)
      clear hrd hkm hnt
      go_wp2
      go_ret
      have := HRD.out
      rw [HE.out] at this
      exact ⟨_, rfl, this.ints, this.below⟩
    | succ gg =>
      have h3 : (k : Int) < (m : Int) := by omega
      have hkl : k < vs.length := by rw [HVL.out]; omega
      obtain ⟨b, off, hao, hcell, hsl⟩ := (HP.out.below hrd.below).at k hkl
      subst hao
      have HTS : Hid (rdAll 0 (pss.take (k + 1)) = rdAll 0 (pss.take k) ++ rdRow k (pss.getD k []) (8 * min (pss.getD k []).length 128)) := by
        show _ = _
        have hkp : k < pss.length := by rw [HM.out]; omega
        rw [ci_take hkp, rdAll_snoc]
        simp only [List.length_take, Nat.zero_add]
        rw [show min k pss.length = k by omega]
      obtain ⟨bs, hbs⟩ : ∃ bs, pss.getD k [] = bs := ⟨_, rfl⟩
      rw [hbs] at hsl HTS
      obtain ⟨u, hu⟩ : ∃ u, vs.getD k (.slice none 0 0) = u := ⟨_, rfl⟩
      rw [hu] at hsl hcell
      obtain ⟨aob, capb, rfl, hb1, hb2⟩ := hsl.shape
      have HSL := hide hsl
      have HLB : Hid (∀ wr', Below w.heap.size w wr' → Sl wr' (.slice aob bs.length capb) bs) := fun wr' hb' => by
        have := ((HP.out.below hb').at k hkl).choose_spec.choose_spec.2.2
        rw [hu, hbs] at this
        exact this
      unfold maxLen at hb2
      obtain ⟨L, hL⟩ : ∃ L, bs.length = L := ⟨_, rfl⟩
      rw [hL] at HSL hb1 hcell HTS HLB
      obtain ⟨M, hMM⟩ : ∃ M, min L 128 = M := ⟨_, rfl⟩
      have hmin : ∀ (ts : Array TypeId) (t : TypeId) (wx : World), (Builtin.min_ ts t #[.int .i64 (L : Int), .int .i64 128]).run Tryd.prog wx = .ok (.int .i64 (M : Int)) wx := by
        intro ts t wx
        rw [run_min_int2]
        congr 2
        split <;> omega
      have hM1 : M ≤ 128 := by omega
      have hM2 : M ≤ L := by omega
      have hcut : ∀ wx, (Instr.slice 25 (.slice aob L capb) none (some (.int .i64 (M : Int))) none).run Tryd.prog wx = .ok (.slice aob M capb) wx := cut_head 25 5 1 Tryd.underlying25 sizeU8 aob L capb M (by omega) (by unfold maxLen; exact hb2)
      rw [hMM] at HTS
      have HBO := hide hsl.bytes
      have HLL := hide hL
      have hnt2 : nt ≤ 1024 * k := by
        rw [← hnt]
        refine Nat.le_trans (rdAll_len _ _) ?_
        simp
        omega
      clear hrd hsl hbs hu hL hMM hkl hnt
      go_wp2
      clear hmin hcut
      obtain ⟨R0, hR0⟩ : ∃ R0, rdAll 0 (pss.take k) = R0 := ⟨_, rfl⟩
      rw [hR0] at HTS HRD
      have hR0l : R0.length ≤ 1024 * k := by
        rw [← hR0]
        refine Nat.le_trans (rdAll_len _ _) ?_
        simp
        omega
      clear hR0
      have hM0 : RdI w (.slice aot nt capt) (R0 ++ rdRow k bs (8 * 0)) wr := by
        rw [show rdRow k bs (8 * 0) = [] from rfl, List.append_nil]
        exact HRD.out
      have HM0 := hide hM0
      obtain ⟨wr1, hwr1⟩ : ∃ wr1, wr = wr1 := ⟨_, rfl⟩
      clear hM0 HRD
      go_loopg [3, 22] M (fun g2 tv av wr2 => ∃ a : Nat, g2 + a = M ∧ av = .int .i64 a ∧ RdI w tv (R0 ++ rdRow k bs (8 * a)) wr2)
      case atStart => exact ⟨0, by omega, rfl, HM0.out⟩
      case round =>
        obtain ⟨a, ha, rfl, hra⟩ := hrel
        have HRA := hide hra
        clear HM0 hcell
        cases gk with
        | zero =>
          have haM : a = M := by omega
          have h4 : ¬ (a : Int) < (M : Int) := by omega
          subst haM
          clear hra
          go_wp2
          go_roundg gg
          case measure => omega
          case rel => exact ⟨k + 1, by omega, by go_num, by rw [HTS.out]; exact HRA.out⟩
        | succ g3 =>
          have h4 : (a : Int) < (M : Int) := by omega
          have hal : a < bs.length := by rw [HLL.out]; omega
          obtain ⟨bb, offb, haob, hcb⟩ := (HLB.out wr hra.below).at' a hal
          subst haob
          have hbg := HBO.out.get a
          obtain ⟨X, hX⟩ : ∃ X : Nat, bs.getD a 0 = X := ⟨(bs.getD a 0).toNat, by omega⟩
          rw [hX] at hcb hbg
          have hXl : X < 256 := by omega
          have HTB : Hid (∀ r, r < 8 → tb bs (8 * a + r) = X.testBit r) := fun r hr => by
            rw [tb_at HBO.out a r hr, hX]
            simp
          have hI0 : RdI w u3 (R0 ++ rdRow k bs (8 * a + 0)) wr := hra
          have HI0 := hide hI0
          clear hra hI0 hX hbg hal
          go_wp2
          go_loopg [3, 27] 8 (fun g4 tv rv wr2 => ∃ r : Nat, g4 + r = 8 ∧ rv = .int .i64 r ∧ RdI w tv (R0 ++ rdRow k bs (8 * a + r)) wr2)
          case atStart => exact ⟨0, by omega, rfl, HI0.out⟩
          case round =>
            obtain ⟨r, hr, rfl, hri⟩ := hrel
            have HRI := hide hri
            clear HI0 HRA hcb
            cases gk with
            | zero =>
              have hr8 : r = 8 := by omega
              subst hr8
              clear hri
              go_wp2
              go_roundg g3
              case measure => omega
              case rel => exact ⟨a + 1, by omega, by go_num, HRI.out⟩
            | succ g5 =>
              have hr8 : (r : Int) < 8 := by omega
              have hr8n : r < 8 := by omega
              obtain ⟨S, hS⟩ : ∃ S, X / 2 ^ r = S := ⟨_, rfl⟩
              have hSl : S < 256 := by rw [← hS]; exact Nat.lt_of_le_of_lt (Nat.div_le_self _ _) hXl
              have hSi : (X : Int) / 2 ^ r = (S : Int) := by rw [← hS]; simp
              have hand := u8_and_nat S 1 hSl (by decide)
              have hbit := bit_of X r hXl
              rw [hS] at hbit
              rw [hbit, show ((1 : Nat) : Int) = 1 from rfl] at hand
              have HSN := hide (rdRow_snoc k bs (8 * a + r))
              have htbr := HTB.out r hr8n
              rw [htbr] at HSN
              clear hS hbit htbr
              cases htb : X.testBit r with
              | false =>
                rw [htb] at hand HSN
                simp only [Bool.false_eq_true, if_false, List.append_nil] at hand HSN
                rw [show ((0 : Nat) : Int) = 0 from rfl] at hand
                clear htb hri
                go_wp2
                go_roundg g5
                case measure => omega
                case rel => exact ⟨r + 1, by omega, by go_num, by rw [← Nat.add_assoc, HSN.out]; exact HRI.out⟩
              | true =>
                rw [htb] at hand HSN
                simp only [if_true] at hand HSN
                rw [show ((1 : Nat) : Int) = 1 from rfl] at hand
                have hlen : (R0 ++ rdRow k bs (8 * a + r)).length + 1 ≤ 1000000 := by
                  have := rdRow_len k bs (8 * a + r)
                  rw [List.length_append]
                  omega
                obtain ⟨v', w', hrun, hi', ho'⟩ := run_append_int2 wr w.heap.size _ _ hri.ints ((k : Int) * 1024 + (a : Int) * 8 + (r : Int)) hlen hri.below.size
                have HN : Hid (RdI w v' (R0 ++ rdRow k bs (8 * a + (r + 1))) w') := by
                  refine ⟨?_, hri.below.trans (ho'.below hri.below.size (fun j hj e => by have := (hri.ints.lt j e).1; omega))⟩
                  rw [← Nat.add_assoc, HSN.out, ← List.append_assoc, show ((1024 * k + (8 * a + r) : Nat) : Int) = (k : Int) * 1024 + (a : Int) * 8 + (r : Int) by omega]
                  exact hi'
                obtain ⟨ao3, cap3, hu3⟩ := hri.ints.shape
                generalize (R0 ++ rdRow k bs (8 * a + r)).length = n3 at hu3
                subst hu3
                have HR := hide hrun
                clear hrun hi' ho' hlen htb hri HRI HSN
                go_wp2_with (at_builtin; (with_reducible refine wpList_append_run _ rfl (.tmp 35) (.tmp 43) 22 rfl _ _ ?_ ?_ _ _ HR.out ?_); exact rfl; exact rfl; clear HR)
                go_roundg g5
                case measure => omega
                case rel => exact ⟨r + 1, by omega, by go_num, HN.out⟩

end Go.Proofs.YtbnhacibkmcmkaaDoor
