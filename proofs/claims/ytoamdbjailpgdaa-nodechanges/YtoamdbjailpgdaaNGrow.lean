/- Contracts: package node's Grow and Shrink. -/
import Derived.Test.YtoamdbjailpgdaaNTurn
namespace Go.Proofs.Ytoamdbjailpgdaa
set_option maxRecDepth 20000
open Go.RowKit Go.Shelf
set_option linter.unusedVariables false
set_option linter.unusedSimpArgs false
set_option maxRecDepth 100000
attribute [local go_sem] Oper.semAt_some

/-- an inner node with a key and a child more, less -/
def gainN (n : Nd) (i : Nat) (key : List Int) (kid : Int) : Nd := ⟨false, [], n.ks.take i ++ ([key] ++ n.ks.drop i), n.cs.take (i + 1) ++ ([kid] ++ n.cs.drop (i + 1))⟩
def lessN (n : Nd) (i : Nat) : Nd := ⟨false, [], n.ks.take i ++ n.ks.drop (i + 1), n.cs.take (i + 1) ++ n.cs.drop (i + 2)⟩
def growN (n : Nd) (i : Int) (key : List Int) (kid : Int) : Nd := if innerB n then (if placeB i n.cs.length && kidB kid && keyB key then ownN (gainN n i.toNat key kid) else noNd) else noNd
def growE (n : Nd) (i : Int) (key : List Int) (kid : Int) : Int := if innerB n then (if placeB i n.cs.length && kidB kid && keyB key then ownE (gainN n i.toNat key kid) else 1) else 100
def shrinkN (n : Nd) (i : Int) : Nd := if innerB n then (if placeB i n.ks.length then ownN (lessN n i.toNat) else noNd) else noNd
def shrinkE (n : Nd) (i : Int) : Int := if innerB n then (if placeB i n.ks.length then ownE (lessN n i.toNat) else 1) else 100

theorem Bss.low {W : World} {pa : Option Addr} {np pc : Nat} {xs : List Value} {ps : List (List Int)} (h : Bss W (.slice pa np pc) xs ps) (hn : ps.length = np) (l : Nat) (hl : l ≤ np) : ∃ a' c', (∀ wx, (Instr.slice 23 (.slice pa np pc) (some (.int .i64 (l : Int))) none none).run Try.prog wx = .ok (.slice a' (np - l) c') wx) ∧ (∀ W', Bss W' (.slice pa np pc) xs ps → Bss W' (.slice a' (np - l) c') (xs.drop l) (ps.drop l)) := by
  subst hn
  obtain ⟨ao, cap, he, hc1, hc2⟩ := h.shape
  simp only [Value.slice.injEq, true_and] at he
  obtain ⟨rfl, rfl⟩ := he
  by_cases hlc : l < pc
  · exact ⟨_, _, fun wx => cut_low (P := Try.prog) 23 34 1 Try.underlying23 sizeRowE pa ps.length pc l hl hc1 hlc (by unfold maxLen; omega) wx, fun W' h' => h'.drop l hl⟩
  · obtain rfl : l = ps.length := by omega
    obtain rfl : pc = ps.length := by omega
    refine ⟨pa, 0, fun wx => by rw [Nat.sub_self]; exact cut_end (P := Try.prog) 23 34 1 Try.underlying23 sizeRowE pa ps.length (by unfold maxLen; omega) wx, fun W' h' => ?_⟩
    rw [Nat.sub_self, List.drop_eq_nil_of_le (Nat.le_refl _), List.drop_eq_nil_of_le (by rw [h'.1]; exact Nat.le_refl _)]
    exact ⟨rfl, pa, 0, rfl, Nat.le_refl _, by simp [maxLen], fun i hi => absurd hi (by simp), fun hne => absurd rfl hne⟩
theorem Is.low {W : World} {pa : Option Addr} {np pc : Nat} {ps : List Int} (h : Is W (.slice pa np pc) ps) (hn : ps.length = np) (l : Nat) (hl : l ≤ np) : ∃ a' c', (∀ wx, (Instr.slice 24 (.slice pa np pc) (some (.int .i64 (l : Int))) none none).run Try.prog wx = .ok (.slice a' (np - l) c') wx) ∧ (∀ W', Is W' (.slice pa np pc) ps → Is W' (.slice a' (np - l) c') (ps.drop l)) := by
  subst hn
  obtain ⟨ao, cap, he, hc1, hc2⟩ := h.shape
  simp only [Value.slice.injEq, true_and] at he
  obtain ⟨rfl, rfl⟩ := he
  by_cases hlc : l < pc
  · exact ⟨_, _, fun wx => cut_low (P := Try.prog) 24 3 1 Try.underlying24 sizeIntE pa ps.length pc l hl hc1 hlc (by unfold maxLen; omega) wx, fun W' h' => h'.drop l hl⟩
  · obtain rfl : l = ps.length := by omega
    obtain rfl : pc = ps.length := by omega
    refine ⟨pa, 0, fun wx => by rw [Nat.sub_self]; exact cut_end (P := Try.prog) 24 3 1 Try.underlying24 sizeIntE pa ps.length (by unfold maxLen; omega) wx, fun W' h' => ?_⟩
    rw [Nat.sub_self, List.drop_eq_nil_of_le (Nat.le_refl _)]
    exact ⟨pa, 0, rfl, Nat.le_refl _, by simp [maxLen], fun hne => absurd rfl hne⟩
def isLitI (B : Nat) (v1 : Value) (kid : Int) (v3 : Value) : Fct := fun v w => ∃ g g2, v = .slice (some ⟨g, 0, none⟩) 3 3 ∧ B ≤ g ∧ B ≤ g2 ∧ Blk w g 24 [v1, .slice (some ⟨g2, 0, none⟩) 1 1, v3] ∧ Blk w g2 3 [.int .i64 kid]
theorem st_isLitI {S : Nat → Prop} {B : Nat} {v1 v3 : Value} {kid : Int} (hS : ∀ j, S j → j < B) : ∀ v w w', Only S w w' → isLitI B v1 kid v3 v w → isLitI B v1 kid v3 v w' := fun v w w' ho ⟨g, g2, h1, h2, h3, h4, h5⟩ => ⟨g, g2, h1, h2, h3, h4.only ho (fun hs => by have := hS g hs; omega), h5.only ho (fun hs => by have := hS g2 hs; omega)⟩
theorem buildK2 (w : World) (a1 a2 : Option Addr) (n1 n2 c1 c2 : Nat) : (Instr.buildSlice 106 2 #[(0, .slice a1 n1 c1), (1, .slice a2 n2 c2)]).run Try.prog w = .ok (.slice (some ⟨w.heap.size, 0, none⟩) 2 2) (w.alloc (.cells #[.slice a1 n1 c1, .slice a2 n2 c2] 23)) := by kernel_rfl
theorem buildI3 (w : World) (a1 a2 a3 : Option Addr) (n1 n2 n3 c1 c2 c3 : Nat) : (Instr.buildSlice 108 3 #[(0, .slice a1 n1 c1), (1, .slice a2 n2 c2), (2, .slice a3 n3 c3)]).run Try.prog w = .ok (.slice (some ⟨w.heap.size, 0, none⟩) 3 3) (w.alloc (.cells #[.slice a1 n1 c1, .slice a2 n2 c2, .slice a3 n3 c3] 24)) := by kernel_rfl
theorem build_kid (w : World) (k : Int) : (Instr.buildSlice 24 1 #[(0, .int .i64 k)]).run Try.prog w = .ok (.slice (some ⟨w.heap.size, 0, none⟩) 1 1) (w.alloc (.cells #[.int .i64 k] 3)) := by kernel_rfl

set_option maxHeartbeats 1500000 in
theorem grow_any (w : World) (v : Value) (n : Nd) (h : NdV w v n) (i : Int) (kv : Value) (key : List Int) (hkv : Sl w kv key) (kid : Int) :
    Calls Try.prog 37 #[v, .int .i64 i, kv, .int .i64 kid] w (GivesN w (growN n i key kid) (growE n i key kid)) := by
  have HM : Hid (∀ w1, Below w.heap.size w w1 → Calls Try.prog 68 #[v] w1 fun e w' => e = .returned (.bool (innerB n)) ∧ Below w1.heap.size w1 w') := fun w1 hb => isInner_any w1 v n (h.below hb)
  have HNN : Hid (growN n i key kid = if innerB n then (if placeB i n.cs.length && kidB kid && keyB key then ownN (gainN n i.toNat key kid) else noNd) else noNd) := rfl
  have HEE : Hid (growE n i key kid = if innerB n then (if placeB i n.cs.length && kidB kid && keyB key then ownE (gainN n i.toNat key kid) else 1) else 100) := rfl
  have HKE : Hid (∀ w1, Below w.heap.size w w1 → Calls Try.prog 71 #[kv] w1 fun e w' => e = .returned (.bool (keyB key)) ∧ w' = w1) := fun w1 hb => isKey_any w1 kv key (hkv.below hb)
  have HKV := hide hkv
  have hza : ∀ wx : World, (zeroValue 26).run Try.prog wx = .ok (.agg #[.bool false, .slice none 0 0, .slice none 0 0, .slice none 0 0]) wx := fun wx => by kernel_rfl
  have HIN : Hid (innerB n = true → 1 ≤ n.ks.length ∧ n.ks.length ≤ 255 ∧ n.cs.length = n.ks.length + 1) := fun h => by have := innerB_ps h; omega
  have HLN : Hid (leafB n = true → n.ps.length ≤ 255) := fun h => (leafB_ps h).1
  have HLF : Hid (innerB n = true → n.lf = false) := innerB_lf
  have HLL : Hid (leafB n = true → n.lf = true) := leafB_lf
  have HMI : Hid (n.lf = false → mayN n = innerB n) := mayN_in
  have HML : Hid (n.lf = true → mayN n = leafB n) := mayN_lf
  have HMO : Hid (mayN n = (leafB n || innerB n)) := rfl
  obtain ⟨pa, pc, ka, kc, ca, cc, xs, ys, rfl, hp1, hk1, hc1, hp2, hk2, hc2, hP, hK, hC⟩ := h.open
  have HP := hide hP
  have HK := hide hK
  have HC := hide hC
  obtain ⟨q1, m1, dq, rfl⟩ := sl_form hkv
  unfold ndv at HM ⊢
  obtain ⟨lf, hlf⟩ : ∃ b, n.lf = b := ⟨_, rfl⟩
  obtain ⟨np, hnp⟩ : ∃ m, n.ps.length = m := ⟨_, rfl⟩
  obtain ⟨nk, hnk⟩ : ∃ m, n.ks.length = m := ⟨_, rfl⟩
  obtain ⟨nc, hnc⟩ : ∃ m, n.cs.length = m := ⟨_, rfl⟩
  have HNP := hide hnp
  have HNK := hide hnk
  have HNC := hide hnc
  have HF0 := hide hlf
  rw [hnp, hnk, hnc, hlf] at HM
  rw [hnp] at HLN HP hp1
  rw [hnk, hnc] at HIN
  rw [hnk] at HK hk1
  rw [hnc] at HC hc1
  rw [hlf] at HLF HLL HMI HML
  rw [hnp, hnk, hnc, hlf]
  obtain ⟨w1, hw1, hcg⟩ := cg_new w (.bool lf) (.slice pa np pc) (.slice ka nk kc) (.slice ca nc cc)
  have HG1 := hide hcg
  obtain ⟨⟨z0, z1, z2, z3⟩, _⟩ := node_cells hcg.2.1
  clear h hP hK hC hcg hnp hnk hnc hlf
  cases hib : innerB n with
  | false =>
    rw [hib] at HNN HEE HM
    simp only [Bool.false_eq_true, if_false] at HNN HEE
    rw [HNN.out, HEE.out]
    clear HNN HEE
    go_enter Try.func37, Try.ntmps37
    go_wp2_with (first
      | (go_at_call 68; refine (HM.out w1 HG1.out.1).mono ?_; rintro e w2 ⟨rfl, hb2⟩; have HG2 := hide (HG1.out.grow hb2); (try clear z0 z1 z2 z3); (try clear d0 d1 d2 d3 k0 k1 k2 k3); obtain ⟨⟨z0, z1, z2, z3⟩, _⟩ := node_cells HG2.out.2.1; obtain ⟨⟨d0, d1, d2, d3⟩, k0, k1, k2, k3⟩ := node_cells HG2.out.2.2; clear HM hb2))
    (try simp only [Exit.inBlock, Exit.then])
    refine bodyPost_ret (ret_node1 rfl _ _ (w.heap.size + 1) _ _ _ _ _ rfl rfl (laidN_blk HG2.out.2.2 _ _ _ _)) rfl ?_
    exact cg_no HG2.out _ _ _ _ _ rfl
  | true =>
    have hlf : lf = false := HLF.out hib
    rw [hib] at HNN HEE HM
    simp only [if_true] at HNN HEE
    subst hlf
    obtain ⟨hn1, hn2, hn3⟩ := HIN.out hib
    have hn4 : nc ≤ nk + 1 := by omega
    have hn5 : nk + 1 ≤ nc := by omega
    clear hn3
    rw [HNC.out] at HNN HEE
    cases hPB : placeB i nc with
    | true =>
      obtain ⟨K, rfl, hKm⟩ := place_nat hPB
      cases hKB : kidB kid with
      | true =>
        cases hEB : keyB key with
        | true =>
          rw [hPB, hKB, hEB] at HNN HEE
          simp only [Bool.and_self, if_true, Int.toNat_natCast] at HNN HEE
          rw [hEB] at HKE
          rw [HNN.out, HEE.out]
          clear HNN HEE
          have HCT := hide (fun wx => cut_head (P := Try.prog) 23 34 1 Try.underlying23 sizeRowE ka nk kc K (by omega) (by unfold maxLen; omega) wx)
          have HCI0 : Hid (∀ wx, (Instr.slice 24 (.slice ca nc cc) none (some (.int .i64 (K + 1 : Int))) none).run Try.prog wx = .ok (.slice ca (K + 1) cc) wx) := fun wx => by
            have := cut_head (P := Try.prog) 24 3 1 Try.underlying24 sizeIntE ca nc cc (K + 1) (by omega) (by unfold maxLen; omega) wx
            rwa [show ((K + 1 : Nat) : Int) = (K + 1 : Int) by omega] at this
          obtain ⟨ba, bc, hlo, hB⟩ := HK.out.low HNK.out (K) (by omega)
          obtain ⟨da, dc, hlo2, hB2⟩ := HC.out.low HNC.out (K + 1) (by omega)
          have HLO : Hid (∀ wx, (Instr.slice 23 (.slice ka nk kc) (some (.int .i64 (K : Int))) none none).run Try.prog wx = .ok (.slice ba (nk - (K)) bc) wx) := fun wx => by
            have := hlo wx
            exact this
          have HLI : Hid (∀ wx, (Instr.slice 24 (.slice ca nc cc) (some (.int .i64 (K + 1 : Int))) none none).run Try.prog wx = .ok (.slice da (nc - (K + 1)) dc) wx) := fun wx => by
            have := hlo2 wx
            rwa [show ((K + 1 : Nat) : Int) = (K + 1 : Int) by omega] at this
          obtain ⟨bn, hbn⟩ : ∃ m, nk - (K) = m := ⟨_, rfl⟩
          obtain ⟨dn, hdn⟩ : ∃ m, nc - (K + 1) = m := ⟨_, rfl⟩
          rw [hbn] at HLO hB
          rw [hdn] at HLI hB2
          have HT1 : Hid (∀ W, Below w.heap.size w W → Bss W (.slice ka K kc) (ys.take K) (n.ks.take K)) := fun W hb => by
            have := HK.out.below hb
            rw [← HNK.out] at this
            exact this.take K kc (by rw [HNK.out]; omega) (by omega) (by unfold maxLen; omega)
          have HD1 : Hid (∀ W, Below w.heap.size w W → Bss W (.slice ba bn bc) (ys.drop (K)) (n.ks.drop (K))) := fun W hb => hB W (HK.out.below hb)
          have HT2 : Hid (∀ W, Below w.heap.size w W → Is W (.slice ca (K + 1) cc) (n.cs.take (K + 1))) := fun W hb => by
            have := HC.out.below hb
            rw [← HNC.out] at this
            exact this.take (by rw [HNC.out]; omega) cc (by omega) (by unfold maxLen; omega)
          have HD2 : Hid (∀ W, Below w.heap.size w W → Is W (.slice da dn dc) (n.cs.drop (K + 1))) := fun W hb => hB2 W (HC.out.below hb)
          obtain ⟨KR, hKR⟩ : ∃ x, x = (ys.take K ++ ([Value.slice q1 m1 dq] ++ ys.drop K)) := ⟨_, rfl⟩
          obtain ⟨IV, hIV⟩ : ∃ x, x = iv (n.cs.take (K + 1) ++ ([kid] ++ n.cs.drop (K + 1))) := ⟨_, rfl⟩
          obtain ⟨DN, hDN⟩ : ∃ x, x = gainN n K key kid := ⟨_, rfl⟩
          rw [← hDN]
          have HKR := hide hKR
          have HIV := hide hIV
          have HDN := hide hDN
          clear hKR hIV hDN hlo hlo2 hB hB2 hbn hdn
          have HCK : Hid (∀ wx g g2, Below w.heap.size w wx → Blk wx g 23 [.slice ka K kc, .slice (some ⟨g2, 0, none⟩) 1 1, .slice ba bn bc] → Blk wx g2 34 [.slice q1 m1 dq] → Calls Try.prog 78 #[.slice (some ⟨g, 0, none⟩) 3 3] wx fun e w' => ∃ r N c, e = .returned (.slice r N c) ∧ w'.ownsRow wx.heap.size 34 1 (.slice r N c) N KR ∧ Below wx.heap.size wx w') := fun wx g g2 hbw hB hB2 => by
            refine (concatK_any wx g [.slice ka K kc, .slice (some ⟨g2, 0, none⟩) 1 1, .slice ba bn bc] [ys.take K, [.slice q1 m1 dq], ys.drop K] rfl (by simp) hB (lit_rows rfl (by
              intro x hx
              simp only [List.zip_cons_cons, List.zip_nil_right, List.mem_cons, List.not_mem_nil, or_false] at hx
              rcases hx with rfl | rfl | rfl
              · exact RowR.of_bss (HT1.out wx hbw) (by rw [List.length_take]; have := HNK.out; omega)
              · exact ⟨some ⟨g2, 0, none⟩, 1, 1, rfl, by simp, by omega, fun h => (by cases h), fun b hb j u hj => (by
                  obtain rfl := (Option.some.inj hb)
                  rw [Addr.add_mid, Nat.zero_add, hB2.cell]
                  exact hj), fun u hu => (by simp at hu; subst hu; rfl)⟩
              · exact RowR.of_bss (HD1.out wx hbw) (by rw [List.length_drop]; have := HNK.out; omega)))).mono ?_
            rintro e w' ⟨r, N, c, rfl, ho, hb'⟩
            exact ⟨r, N, c, rfl, (by rw [HKR.out]; simpa using ho), hb'⟩
          have HCI : Hid (∀ wx g g2, Below w.heap.size w wx → Blk wx g 24 [.slice ca (K + 1) cc, .slice (some ⟨g2, 0, none⟩) 1 1, .slice da dn dc] → Blk wx g2 3 [.int .i64 kid] → Calls Try.prog 79 #[.slice (some ⟨g, 0, none⟩) 3 3] wx fun e w' => ∃ r N c, e = .returned (.slice r N c) ∧ w'.ownsRow wx.heap.size 3 1 (.slice r N c) N IV ∧ Below wx.heap.size wx w') := fun wx g g2 hbw hB hB2 => by
            refine (concatI_any wx g [.slice ca (K + 1) cc, .slice (some ⟨g2, 0, none⟩) 1 1, .slice da dn dc] [iv (n.cs.take (K + 1)), [.int .i64 kid], iv (n.cs.drop (K + 1))] rfl (by simp) hB (lit_rows rfl (by
              intro x hx
              simp only [List.zip_cons_cons, List.zip_nil_right, List.mem_cons, List.not_mem_nil, or_false] at hx
              rcases hx with rfl | rfl | rfl
              · exact RowR.of_is (HT2.out wx hbw) (by rw [List.length_take]; have := HNC.out; omega)
              · exact ⟨some ⟨g2, 0, none⟩, 1, 1, rfl, by simp, by omega, fun h => (by cases h), fun b hb j u hj => (by
                  obtain rfl := (Option.some.inj hb)
                  rw [Addr.add_mid, Nat.zero_add, hB2.cell]
                  exact hj), fun u hu => (by simp at hu; subst hu; rfl)⟩
              · exact RowR.of_is (HD2.out wx hbw) (by rw [List.length_drop]; have := HNC.out; omega)))).mono ?_
            rintro e w' ⟨r, N, c, rfl, ho, hb'⟩
            exact ⟨r, N, c, rfl, (by rw [HIV.out]; simpa [iv] using ho), hb'⟩
          have HND : Hid (∀ wx a1 n1 c1 a2 n2 c2, Below w.heap.size w wx → wx.ownsRow (w.heap.size + 2) 34 1 (.slice a1 n1 c1) n1 KR → wx.ownsRow (w.heap.size + 2) 3 1 (.slice a2 n2 c2) n2 IV → NdV wx (.agg #[.bool false, .slice none 0 0, .slice a1 n1 c1, .slice a2 n2 c2]) DN) := fun wx a1 n1 c1 a2 n2 c2 hbw h1 h2 => by
            rw [HDN.out]
            have e1 : n1 = KR.length := by have := h1.1; omega
            rw [HIV.out] at h2
            have e2 : n2 = (n.cs.take (K + 1) ++ ([kid] ++ n.cs.drop (K + 1))).length := by have := h2.1; rw [iv, List.length_map] at this; omega
            rw [e1] at h1 ⊢
            rw [e2] at h2 ⊢
            refine ⟨_, _, _, [], KR, rfl, Prs.nil _, bss_own h1 ?_ ?_, (show Ints wx _ _ _ from h2).is⟩
            · rw [HKR.out]
              show _ = (n.ks.take K ++ ([key] ++ n.ks.drop K)).length
              simp only [List.length_append, (HT1.out wx hbw).1, (HD1.out wx hbw).1, List.length_cons, List.length_nil]
            · rw [HKR.out]
              exact keys_append (HT1.out wx hbw).1 (HT1.out wx hbw).texts (keys_append (ys := [.slice q1 m1 dq]) (ks := [key]) rfl (fun i hi => by
                obtain rfl : i = 0 := by simp at hi; omega
                exact HKV.out.below hbw) (HD1.out wx hbw).texts)
          clear HT1 HT2 HD1 HD2 HDN HKR HIV HP HK HC
          go_enter Try.func37, Try.ntmps37
          go_wp2_with (first
            | (go_at_call 68; refine (HM.out w1 HG1.out.1).mono ?_; rintro e w2 ⟨rfl, hb2⟩; have HG2 := hide (HG1.out.grow hb2); (try clear z0 z1 z2 z3); (try clear d0 d1 d2 d3 k0 k1 k2 k3); obtain ⟨⟨z0, z1, z2, z3⟩, _⟩ := node_cells HG2.out.2.1; obtain ⟨⟨d0, d1, d2, d3⟩, k0, k1, k2, k3⟩ := node_cells HG2.out.2.2; clear HM hb2)
            | (go_at_call 76; refine (isPlace_any w2 _ _).mono ?_; rintro e w3 ⟨rfl, hw⟩; subst w3; rw [hPB])
            | (go_at_call 77; refine (isChild_any w2 _).mono ?_; rintro e w3 ⟨rfl, hw⟩; subst w3; rw [hKB])
            | (go_at_call 71; refine (HKE.out w2 HG2.out.1).mono ?_; rintro e w3 ⟨rfl, hw⟩; subst w3))
          refine wp_region_mix (fun j => j = w.heap.size + 1) [some (isV (.pointer (some ⟨w.heap.size, 2, none⟩))), some (isV (.slice ka nk kc)), some (isV (.int .i64 (K : Int))), some (isV (.slice ka K kc)), some (isV (.slice q1 m1 dq)), some (isLit (w.heap.size + 2) 34 [.slice q1 m1 dq]), some (isV (.pointer (some ⟨w.heap.size, 2, none⟩))), some (isV (.slice ka nk kc)), some (isV (.int .i64 (K : Int))), some (isV (.slice ba bn bc)), some (isLitK (w.heap.size + 2) ka K kc q1 m1 dq ba bn bc), some (isRowO (w.heap.size + 2) 34 1 KR), some (isV (.pointer (some ⟨w.heap.size, 3, none⟩))), some (isV (.slice ca nc cc)), some (isV (.int .i64 (K : Int))), some (isV (.int .i64 (K + 1 : Int))), some (isV (.slice ca (K + 1) cc)), some (isV (.int .i64 kid)), some (isLit (w.heap.size + 2) 3 [.int .i64 kid]), some (isV (.pointer (some ⟨w.heap.size, 3, none⟩))), some (isV (.slice ca nc cc)), some (isV (.int .i64 (K : Int))), some (isV (.int .i64 (K + 1 : Int))), some (isV (.slice da dn dc)), some (isLitI (w.heap.size + 2) (.slice ca (K + 1) cc) kid (.slice da dn dc)), some (isRowO (w.heap.size + 2) 3 1 IV), some (isNd2 (w.heap.size + 2) KR IV), some (isTup (w.heap.size + 2) (ownN DN) (ownE DN)), some (isNdO (w.heap.size + 2) (ownN DN)), some (isV (.int .i64 (ownE DN))), none, none] [30, 31] (CgS w [.bool false, .slice pa np pc, .slice ka nk kc, .slice ca nc cc] (ownN DN) (ownE DN) 31) 63 (by kernel_rfl) (by kernel_rfl) (by kernel_rfl) (by kernel_rfl) rfl ?_ ?_ ?_ ?_ ?_
          · intro vals0
            exact (HG2.out.keep ((Only.refl _ w2).drew) : CgB w [.bool false, .slice pa np pc, .slice ka nk kc, .slice ca nc cc] zeroC w2.drew)
          · refine allF_at _ ?_
            repeat (first | exact trivial | refine allF_none ?_ | refine allF_isV ?_ | refine allF_cons (st_isLit _ _ (fun j hj => by omega)) ?_ | refine allF_cons (st_isLitK (fun j hj => by omega)) ?_ | refine allF_cons (st_isLitI (fun j hj => by omega)) ?_ | refine allF_cons (st_isRowO _ _ _ (fun j hj => by omega)) ?_ | refine allF_cons (st_isNd2 (fun j hj => by omega)) ?_ | refine allF_cons (st_isTup _ _ (fun j hj => by omega)) ?_ | refine allF_cons (st_isNdO _ (fun j hj => by omega)) ?_)
          · exact CgS.ind (by decide)
          · refine ⟨?_, ?_, ?_, ?_, ?_, ?_, ?_, ?_, ?_, ?_, ?_, ?_, ?_, ?_, ?_, ?_, ?_, ?_, ?_, ?_, ?_, ?_, ?_, ?_, ?_, ?_, ?_, ?_, ?_, ?_, ?_, ?_, trivial⟩
            · intro k vals act wx hk h hs
              have e4 : act.eval (.tmp 4) = .pointer (some ⟨w.heap.size, 0, none⟩) := h.old 4 (by kernel_rfl)
              clear h
              refine gives_by rfl act.eval rfl ?_
              generalize act.eval = ρ at *
              intro hf hc
              go_simp
              exact ⟨rfl, Only.refl _ _, hs⟩
            · intro k vals act wx hk h hs
              obtain ⟨v33, e33, f33⟩ := h.f 0 33 (by kernel_rfl) rfl
              obtain rfl : v33 = .pointer (some ⟨w.heap.size, 2, none⟩) := f33
              clear h
              obtain ⟨hbw, hAx, hsz⟩ := CgS.any hk hs
              obtain ⟨⟨x0, x1, x2, x3⟩, _⟩ := node_cells hAx
              refine gives_by rfl act.eval rfl ?_
              generalize act.eval = ρ at *
              intro hf hc
              go_simp
              exact ⟨rfl, Only.refl _ _, hs⟩
            · intro k vals act wx hk h hs
              have e1 : act.eval (.tmp 1) = .int .i64 (K : Int) := h.old 1 (by kernel_rfl)
              clear h
              refine gives_by rfl act.eval rfl ?_
              generalize act.eval = ρ at *
              intro hf hc
              go_simp
              exact ⟨rfl, Only.refl _ _, hs⟩
            · intro k vals act wx hk h hs
              obtain ⟨v34, e34, f34⟩ := h.f 1 34 (by kernel_rfl) rfl
              obtain rfl : v34 = .slice ka nk kc := f34
              obtain ⟨v35, e35, f35⟩ := h.f 2 35 (by kernel_rfl) rfl
              obtain rfl : v35 = .int .i64 (K : Int) := f35
              clear h
              have hct := HCT.out wx
              refine gives_by rfl act.eval rfl ?_
              generalize act.eval = ρ at *
              intro hf hc
              go_simp
              exact ⟨rfl, Only.refl _ _, hs⟩
            · intro k vals act wx hk h hs
              have e2 : act.eval (.tmp 2) = .slice q1 m1 dq := h.old 2 (by kernel_rfl)
              clear h
              refine gives_by rfl act.eval rfl ?_
              generalize act.eval = ρ at *
              intro hf hc
              go_simp
              exact ⟨rfl, Only.refl _ _, hs⟩
            · intro k vals act wx hk h hs
              obtain ⟨v37, e37, f37⟩ := h.f 4 37 (by kernel_rfl) rfl
              obtain rfl : v37 = .slice q1 m1 dq := f37
              clear h
              obtain ⟨hbw, hAx, hsz⟩ := CgS.any hk hs
              refine gives_of_run rfl (exec_buildSlice1 23 1 (.tmp 37) rfl _ _ e37 (build_row wx q1 m1 dq)) ?_
              have hon : Only (fun _ => False) wx (wx.alloc (.cells #[.slice q1 m1 dq] 34)) := (Only.refl _ wx).alloc _
              exact ⟨⟨wx.heap.size, rfl, hsz, Blk.new wx _ [.slice q1 m1 dq]⟩, hon, hs.keep hk hon⟩
            · intro k vals act wx hk h hs
              have e4 : act.eval (.tmp 4) = .pointer (some ⟨w.heap.size, 0, none⟩) := h.old 4 (by kernel_rfl)
              clear h
              refine gives_by rfl act.eval rfl ?_
              generalize act.eval = ρ at *
              intro hf hc
              go_simp
              exact ⟨rfl, Only.refl _ _, hs⟩
            · intro k vals act wx hk h hs
              obtain ⟨v39, e39, f39⟩ := h.f 6 39 (by kernel_rfl) rfl
              obtain rfl : v39 = .pointer (some ⟨w.heap.size, 2, none⟩) := f39
              clear h
              obtain ⟨hbw, hAx, hsz⟩ := CgS.any hk hs
              obtain ⟨⟨x0, x1, x2, x3⟩, _⟩ := node_cells hAx
              refine gives_by rfl act.eval rfl ?_
              generalize act.eval = ρ at *
              intro hf hc
              go_simp
              exact ⟨rfl, Only.refl _ _, hs⟩
            · intro k vals act wx hk h hs
              have e1 : act.eval (.tmp 1) = .int .i64 (K : Int) := h.old 1 (by kernel_rfl)
              clear h
              refine gives_by rfl act.eval rfl ?_
              generalize act.eval = ρ at *
              intro hf hc
              go_simp
              exact ⟨rfl, Only.refl _ _, hs⟩
            · intro k vals act wx hk h hs
              obtain ⟨v40, e40, f40⟩ := h.f 7 40 (by kernel_rfl) rfl
              obtain rfl : v40 = .slice ka nk kc := f40
              obtain ⟨v41, e41, f41⟩ := h.f 8 41 (by kernel_rfl) rfl
              obtain rfl : v41 = .int .i64 (K : Int) := f41
              clear h
              have hlo := HLO.out wx
              refine gives_by rfl act.eval rfl ?_
              generalize act.eval = ρ at *
              intro hf hc
              go_simp
              exact ⟨rfl, Only.refl _ _, hs⟩
            · intro k vals act wx hk h hs
              obtain ⟨v36, e36, f36⟩ := h.f 3 36 (by kernel_rfl) rfl
              obtain rfl : v36 = .slice ka K kc := f36
              obtain ⟨v38, e38, f38⟩ := h.f 5 38 (by kernel_rfl) rfl
              obtain ⟨g38, rfl, hg38, B38⟩ := f38
              obtain ⟨v42, e42, f42⟩ := h.f 9 42 (by kernel_rfl) rfl
              obtain rfl : v42 = .slice ba bn bc := f42
              clear h
              obtain ⟨hbw, hAx, hsz⟩ := CgS.any hk hs
              refine gives_of_run rfl (exec_build3 106 3 (.tmp 36) (.tmp 38) (.tmp 42) rfl _ _ _ _ e36 e38 e42 (buildK3 wx ka (some ⟨g38, 0, none⟩) ba K 1 bn kc 1 bc)) ?_
              have hon : Only (fun _ => False) wx (wx.alloc (.cells #[.slice ka K kc, .slice (some ⟨g38, 0, none⟩) 1 1, .slice ba bn bc] 23)) := (Only.refl _ wx).alloc _
              exact ⟨⟨wx.heap.size, g38, rfl, hsz, hg38, Blk.new wx _ [.slice ka K kc, .slice (some ⟨g38, 0, none⟩) 1 1, .slice ba bn bc], B38.only hon (fun h => h)⟩, hon, hs.keep hk hon⟩
            · intro k vals act wx hk h hs
              obtain ⟨v43, e43, f43⟩ := h.f 10 43 (by kernel_rfl) rfl
              obtain ⟨g43, g38', rfl, hg43, hg38', B43, B38'⟩ := f43
              clear h
              refine gives_by rfl act.eval rfl ?_
              generalize act.eval = ρ at *
              intro hf hc
              go_simp
              obtain ⟨hbw, hAx, hsz⟩ := CgS.any hk hs
              refine (HCK.out wx g43 g38' hbw B43 B38').mono ?_
              rintro e w' ⟨r, N, c, he, ho, hb'⟩
              exact ⟨_, he, ⟨r, N, c, rfl, own_le' ho hsz⟩, Only.of_below _ hb', hs.keep hk (Only.of_below _ hb')⟩
            · intro k vals act wx hk h hs
              have e4 : act.eval (.tmp 4) = .pointer (some ⟨w.heap.size, 0, none⟩) := h.old 4 (by kernel_rfl)
              clear h
              refine gives_by rfl act.eval rfl ?_
              generalize act.eval = ρ at *
              intro hf hc
              go_simp
              exact ⟨rfl, Only.refl _ _, hs⟩
            · intro k vals act wx hk h hs
              obtain ⟨v45, e45, f45⟩ := h.f 12 45 (by kernel_rfl) rfl
              obtain rfl : v45 = .pointer (some ⟨w.heap.size, 3, none⟩) := f45
              clear h
              obtain ⟨hbw, hAx, hsz⟩ := CgS.any hk hs
              obtain ⟨⟨x0, x1, x2, x3⟩, _⟩ := node_cells hAx
              refine gives_by rfl act.eval rfl ?_
              generalize act.eval = ρ at *
              intro hf hc
              go_simp
              exact ⟨rfl, Only.refl _ _, hs⟩
            · intro k vals act wx hk h hs
              have e1 : act.eval (.tmp 1) = .int .i64 (K : Int) := h.old 1 (by kernel_rfl)
              clear h
              refine gives_by rfl act.eval rfl ?_
              generalize act.eval = ρ at *
              intro hf hc
              go_simp
              exact ⟨rfl, Only.refl _ _, hs⟩
            · intro k vals act wx hk h hs
              obtain ⟨v47, e47, f47⟩ := h.f 14 47 (by kernel_rfl) rfl
              obtain rfl : v47 = .int .i64 (K : Int) := f47
              clear h
              refine gives_by rfl act.eval rfl ?_
              generalize act.eval = ρ at *
              intro hf hc
              go_simp
              rw [IntWalk.i64_in _ (by omega)]
              exact ⟨rfl, Only.refl _ _, hs⟩
            · intro k vals act wx hk h hs
              obtain ⟨v46, e46, f46⟩ := h.f 13 46 (by kernel_rfl) rfl
              obtain rfl : v46 = .slice ca nc cc := f46
              obtain ⟨v48, e48, f48⟩ := h.f 15 48 (by kernel_rfl) rfl
              obtain rfl : v48 = .int .i64 (K + 1 : Int) := f48
              clear h
              have hct := HCI0.out wx
              refine gives_by rfl act.eval rfl ?_
              generalize act.eval = ρ at *
              intro hf hc
              go_simp
              exact ⟨rfl, Only.refl _ _, hs⟩
            · intro k vals act wx hk h hs
              have e3 : act.eval (.tmp 3) = .int .i64 kid := h.old 3 (by kernel_rfl)
              clear h
              refine gives_by rfl act.eval rfl ?_
              generalize act.eval = ρ at *
              intro hf hc
              go_simp
              exact ⟨rfl, Only.refl _ _, hs⟩
            · intro k vals act wx hk h hs
              obtain ⟨v50, e50, f50⟩ := h.f 17 50 (by kernel_rfl) rfl
              obtain rfl : v50 = .int .i64 kid := f50
              clear h
              obtain ⟨hbw, hAx, hsz⟩ := CgS.any hk hs
              refine gives_of_run rfl (exec_buildSlice1 24 1 (.tmp 50) rfl _ _ e50 (build_kid wx kid)) ?_
              have hon : Only (fun _ => False) wx (wx.alloc (.cells #[.int .i64 kid] 3)) := (Only.refl _ wx).alloc _
              exact ⟨⟨wx.heap.size, rfl, hsz, Blk.new wx _ [.int .i64 kid]⟩, hon, hs.keep hk hon⟩
            · intro k vals act wx hk h hs
              have e4 : act.eval (.tmp 4) = .pointer (some ⟨w.heap.size, 0, none⟩) := h.old 4 (by kernel_rfl)
              clear h
              refine gives_by rfl act.eval rfl ?_
              generalize act.eval = ρ at *
              intro hf hc
              go_simp
              exact ⟨rfl, Only.refl _ _, hs⟩
            · intro k vals act wx hk h hs
              obtain ⟨v52, e52, f52⟩ := h.f 19 52 (by kernel_rfl) rfl
              obtain rfl : v52 = .pointer (some ⟨w.heap.size, 3, none⟩) := f52
              clear h
              obtain ⟨hbw, hAx, hsz⟩ := CgS.any hk hs
              obtain ⟨⟨x0, x1, x2, x3⟩, _⟩ := node_cells hAx
              refine gives_by rfl act.eval rfl ?_
              generalize act.eval = ρ at *
              intro hf hc
              go_simp
              exact ⟨rfl, Only.refl _ _, hs⟩
            · intro k vals act wx hk h hs
              have e1 : act.eval (.tmp 1) = .int .i64 (K : Int) := h.old 1 (by kernel_rfl)
              clear h
              refine gives_by rfl act.eval rfl ?_
              generalize act.eval = ρ at *
              intro hf hc
              go_simp
              exact ⟨rfl, Only.refl _ _, hs⟩
            · intro k vals act wx hk h hs
              obtain ⟨v54, e54, f54⟩ := h.f 21 54 (by kernel_rfl) rfl
              obtain rfl : v54 = .int .i64 (K : Int) := f54
              clear h
              refine gives_by rfl act.eval rfl ?_
              generalize act.eval = ρ at *
              intro hf hc
              go_simp
              rw [IntWalk.i64_in _ (by omega)]
              exact ⟨rfl, Only.refl _ _, hs⟩
            · intro k vals act wx hk h hs
              obtain ⟨v53, e53, f53⟩ := h.f 20 53 (by kernel_rfl) rfl
              obtain rfl : v53 = .slice ca nc cc := f53
              obtain ⟨v55, e55, f55⟩ := h.f 22 55 (by kernel_rfl) rfl
              obtain rfl : v55 = .int .i64 (K + 1 : Int) := f55
              clear h
              have hlo := HLI.out wx
              refine gives_by rfl act.eval rfl ?_
              generalize act.eval = ρ at *
              intro hf hc
              go_simp
              exact ⟨rfl, Only.refl _ _, hs⟩
            · intro k vals act wx hk h hs
              obtain ⟨v49, e49, f49⟩ := h.f 16 49 (by kernel_rfl) rfl
              obtain rfl : v49 = .slice ca (K + 1) cc := f49
              obtain ⟨v51, e51, f51⟩ := h.f 18 51 (by kernel_rfl) rfl
              obtain ⟨g51, rfl, hg51, B51⟩ := f51
              obtain ⟨v56, e56, f56⟩ := h.f 23 56 (by kernel_rfl) rfl
              obtain rfl : v56 = .slice da dn dc := f56
              clear h
              obtain ⟨hbw, hAx, hsz⟩ := CgS.any hk hs
              refine gives_of_run rfl (exec_build3 108 3 (.tmp 49) (.tmp 51) (.tmp 56) rfl _ _ _ _ e49 e51 e56 (buildI3 wx ca (some ⟨g51, 0, none⟩) da (K + 1) 1 dn cc 1 dc)) ?_
              have hon : Only (fun _ => False) wx (wx.alloc (.cells #[.slice ca (K + 1) cc, .slice (some ⟨g51, 0, none⟩) 1 1, .slice da dn dc] 24)) := (Only.refl _ wx).alloc _
              exact ⟨⟨wx.heap.size, g51, rfl, hsz, hg51, Blk.new wx _ [.slice ca (K + 1) cc, .slice (some ⟨g51, 0, none⟩) 1 1, .slice da dn dc], B51.only hon (fun h => h)⟩, hon, hs.keep hk hon⟩
            · intro k vals act wx hk h hs
              obtain ⟨v57, e57, f57⟩ := h.f 24 57 (by kernel_rfl) rfl
              obtain ⟨g57, g51', rfl, hg57, hg51', B57, B51'⟩ := f57
              clear h
              refine gives_by rfl act.eval rfl ?_
              generalize act.eval = ρ at *
              intro hf hc
              go_simp
              obtain ⟨hbw, hAx, hsz⟩ := CgS.any hk hs
              refine (HCI.out wx g57 g51' hbw B57 B51').mono ?_
              rintro e w' ⟨r, N, c, he, ho, hb'⟩
              exact ⟨_, he, ⟨r, N, c, rfl, own_le' ho hsz⟩, Only.of_below _ hb', hs.keep hk (Only.of_below _ hb')⟩
            · intro k vals act wx hk h hs
              obtain ⟨v44, e44, f44⟩ := h.f 11 44 (by kernel_rfl) rfl
              obtain ⟨a44, n44, c44, rfl, O44⟩ := f44
              obtain ⟨v58, e58, f58⟩ := h.f 25 58 (by kernel_rfl) rfl
              obtain ⟨a58, n58, c58, rfl, O58⟩ := f58
              clear h
              refine gives_by rfl act.eval rfl ?_
              generalize act.eval = ρ at *
              intro hf hc
              go_simp
              exact ⟨⟨a44, n44, c44, a58, n58, c58, rfl, O44, O58⟩, Only.refl _ _, hs⟩
            · intro k vals act wx hk h hs
              obtain ⟨v59, e59, f59⟩ := h.f 26 59 (by kernel_rfl) rfl
              obtain ⟨a59, n59, c59, a59', n59', c59', rfl, O59, O59'⟩ := f59
              clear h
              refine gives_by rfl act.eval rfl ?_
              generalize act.eval = ρ at *
              intro hf hc
              go_simp
              obtain ⟨hbw, hAx, hsz⟩ := CgS.any hk hs
              refine (owned_tup (HND.out wx _ _ _ _ _ _ hbw O59 O59') hsz).mono ?_
              rintro e w' ⟨u, he, ht, hb'⟩
              exact ⟨u, he, ht, Only.of_below _ hb', hs.keep hk (Only.of_below _ hb')⟩
            · intro k vals act wx hk h hs
              obtain ⟨v60, e60, f60⟩ := h.f 27 60 (by kernel_rfl) rfl
              obtain ⟨l60, p60, np60, pc60, k60, nk60, kc60, q60, nq60, qc60, rfl, N60⟩ := f60
              clear h
              refine gives_by rfl act.eval rfl ?_
              generalize act.eval = ρ at *
              intro hf hc
              go_simp
              exact ⟨⟨l60, p60, np60, pc60, k60, nk60, kc60, q60, nq60, qc60, rfl, N60⟩, Only.refl _ _, hs⟩
            · intro k vals act wx hk h hs
              obtain ⟨v60, e60, f60⟩ := h.f 27 60 (by kernel_rfl) rfl
              obtain ⟨l60, p60, np60, pc60, k60, nk60, kc60, q60, nq60, qc60, rfl, N60⟩ := f60
              clear h
              refine gives_by rfl act.eval rfl ?_
              generalize act.eval = ρ at *
              intro hf hc
              go_simp
              exact ⟨rfl, Only.refl _ _, hs⟩
            · intro vals act wx h hs
              have e8 : act.eval (.tmp 8) = .pointer (some ⟨w.heap.size + 1, 0, none⟩) := h.old 8 (by kernel_rfl)
              obtain ⟨v61, e61, f61⟩ := h.f 28 61 (by kernel_rfl) rfl
              obtain ⟨l61, p61, np61, pc61, k61, nk61, kc61, q61, nq61, qc61, rfl, N61⟩ := f61
              clear h
              have hj : CgB w [.bool false, .slice pa np pc, .slice ka nk kc, .slice ca nc cc] zeroC wx := hs
              obtain ⟨⟨d0, d1', d2, d3⟩, k0, k1, k2, k3⟩ := node_cells hj.2.2
              have ho := laidN_only wx (w.heap.size + 1) (.bool l61) (.slice p61 np61 pc61) (.slice k61 nk61 kc61) (.slice q61 nq61 qc61)
              have hfin : CgS w [.bool false, .slice pa np pc, .slice ka nk kc, .slice ca nc cc] (ownN DN) (ownE DN) 31 1 (updV vals 30 undef) (laidN wx (w.heap.size + 1) (.bool l61) (.slice p61 np61 pc61) (.slice k61 nk61 kc61) (.slice q61 nq61 qc61)) := ⟨l61, p61, np61, pc61, k61, nk61, kc61, q61, nq61, qc61, ⟨hj.1.trans (ho.below hj.1.size (fun j hh e => by omega)), hj.2.1.only ho (by omega), laidN_blk hj.2.2 _ _ _ _⟩, N61.only ho (fun j hh => by omega)⟩
              clear hs hj N61
              refine gives_by rfl act.eval rfl ?_
              generalize act.eval = ρ at *
              intro hf hc
              go_simp
              exact ⟨ho, hfin⟩
            · intro vals act wx h hs
              obtain ⟨v62, e62, f62⟩ := h.f 29 62 (by kernel_rfl) rfl
              obtain rfl : v62 = .int .i64 (ownE DN) := f62
              clear h
              have hj : CgS w [.bool false, .slice pa np pc, .slice ka nk kc, .slice ca nc cc] (ownN DN) (ownE DN) 31 1 vals wx := hs
              refine gives_by rfl act.eval rfl ?_
              generalize act.eval = ρ at *
              intro hf hc
              go_simp
              exact ⟨Only.refl _ _, ⟨hj, rfl⟩⟩
          · intro vals w8 hv hs
            obtain ⟨⟨l8, p8, n8, c8, k8, nk8, kc8, q8, nq8, qc8, hj, hn⟩, h19⟩ : (∃ l9 p9 n9 c9 k9 m9 d9 q9 r9 s9, CgB w [.bool false, .slice pa np pc, .slice ka nk kc, .slice ca nc cc] [.bool l9, .slice p9 n9 c9, .slice k9 m9 d9, .slice q9 r9 s9] w8 ∧ NdN w8 (w.heap.size + 2) (.agg #[.bool l9, .slice p9 n9 c9, .slice k9 m9 d9, .slice q9 r9 s9]) (ownN DN)) ∧ vals 31 = .int .i64 (ownE DN) := hs
            have HJ8 := hide hj
            have HN8 := hide hn
            clear hv hj hn
            simp only [putAll, Act.put, List.setIfInBounds_toArray, List.set_cons_zero, List.set_cons_succ, Nat.zero_add, Nat.reduceAdd, h19]
            (try go_wp2)
            (try simp only [Exit.inBlock, Exit.then])
            refine bodyPost_ret (ret_node1 rfl _ _ (w.heap.size + 1) _ _ _ _ _ rfl rfl HJ8.out.2.2) rfl ?_
            exact ⟨_, rfl, HN8.out.le (by omega), HJ8.out.1⟩
        | false =>
          rw [hPB, hKB, hEB] at HNN HEE
          simp only [Bool.and_false, Bool.false_eq_true, if_false] at HNN HEE
          rw [HNN.out, HEE.out]
          clear HNN HEE
          go_enter Try.func37, Try.ntmps37
          go_wp2_with (first
            | (go_at_call 68; refine (HM.out w1 HG1.out.1).mono ?_; rintro e w2 ⟨rfl, hb2⟩; have HG2 := hide (HG1.out.grow hb2); (try clear z0 z1 z2 z3); (try clear d0 d1 d2 d3 k0 k1 k2 k3); obtain ⟨⟨z0, z1, z2, z3⟩, _⟩ := node_cells HG2.out.2.1; obtain ⟨⟨d0, d1, d2, d3⟩, k0, k1, k2, k3⟩ := node_cells HG2.out.2.2; clear HM hb2)
            | (go_at_call 76; refine (isPlace_any w2 _ _).mono ?_; rintro e w3 ⟨rfl, hw⟩; subst w3; rw [hPB])
            | (go_at_call 77; refine (isChild_any w2 _).mono ?_; rintro e w3 ⟨rfl, hw⟩; subst w3; rw [hKB])
            | (go_at_call 71; refine (HKE.out w2 HG2.out.1).mono ?_; rintro e w3 ⟨rfl, hw⟩; subst w3; rw [hEB]))
          (try simp only [Exit.inBlock, Exit.then])
          refine bodyPost_ret (ret_node1 rfl _ _ (w.heap.size + 1) _ _ _ _ _ rfl rfl (laidN_blk HG2.out.2.2 _ _ _ _)) rfl ?_
          exact cg_no HG2.out _ _ _ _ _ rfl
      | false =>
        rw [hPB, hKB] at HNN HEE
        simp only [Bool.and_false, Bool.false_and, Bool.false_eq_true, if_false] at HNN HEE
        rw [HNN.out, HEE.out]
        clear HNN HEE
        go_enter Try.func37, Try.ntmps37
        go_wp2_with (first
          | (go_at_call 68; refine (HM.out w1 HG1.out.1).mono ?_; rintro e w2 ⟨rfl, hb2⟩; have HG2 := hide (HG1.out.grow hb2); (try clear z0 z1 z2 z3); (try clear d0 d1 d2 d3 k0 k1 k2 k3); obtain ⟨⟨z0, z1, z2, z3⟩, _⟩ := node_cells HG2.out.2.1; obtain ⟨⟨d0, d1, d2, d3⟩, k0, k1, k2, k3⟩ := node_cells HG2.out.2.2; clear HM hb2)
          | (go_at_call 76; refine (isPlace_any w2 _ _).mono ?_; rintro e w3 ⟨rfl, hw⟩; subst w3; rw [hPB])
          | (go_at_call 77; refine (isChild_any w2 _).mono ?_; rintro e w3 ⟨rfl, hw⟩; subst w3; rw [hKB]))
        (try simp only [Exit.inBlock, Exit.then])
        refine bodyPost_ret (ret_node1 rfl _ _ (w.heap.size + 1) _ _ _ _ _ rfl rfl (laidN_blk HG2.out.2.2 _ _ _ _)) rfl ?_
        exact cg_no HG2.out _ _ _ _ _ rfl
    | false =>
      rw [hPB] at HNN HEE
      simp only [Bool.false_and, Bool.false_eq_true, if_false] at HNN HEE
      rw [HNN.out, HEE.out]
      clear HNN HEE
      go_enter Try.func37, Try.ntmps37
      go_wp2_with (first
        | (go_at_call 68; refine (HM.out w1 HG1.out.1).mono ?_; rintro e w2 ⟨rfl, hb2⟩; have HG2 := hide (HG1.out.grow hb2); (try clear z0 z1 z2 z3); (try clear d0 d1 d2 d3 k0 k1 k2 k3); obtain ⟨⟨z0, z1, z2, z3⟩, _⟩ := node_cells HG2.out.2.1; obtain ⟨⟨d0, d1, d2, d3⟩, k0, k1, k2, k3⟩ := node_cells HG2.out.2.2; clear HM hb2)
        | (go_at_call 76; refine (isPlace_any w2 _ _).mono ?_; rintro e w3 ⟨rfl, hw⟩; subst w3; rw [hPB]))
      (try simp only [Exit.inBlock, Exit.then])
      refine bodyPost_ret (ret_node1 rfl _ _ (w.heap.size + 1) _ _ _ _ _ rfl rfl (laidN_blk HG2.out.2.2 _ _ _ _)) rfl ?_
      exact cg_no HG2.out _ _ _ _ _ rfl

set_option maxHeartbeats 1500000 in
theorem shrink_any (w : World) (v : Value) (n : Nd) (h : NdV w v n) (i : Int) :
    Calls Try.prog 39 #[v, .int .i64 i] w (GivesN w (shrinkN n i) (shrinkE n i)) := by
  have HM : Hid (∀ w1, Below w.heap.size w w1 → Calls Try.prog 68 #[v] w1 fun e w' => e = .returned (.bool (innerB n)) ∧ Below w1.heap.size w1 w') := fun w1 hb => isInner_any w1 v n (h.below hb)
  have HNN : Hid (shrinkN n i = if innerB n then (if placeB i n.ks.length then ownN (lessN n i.toNat) else noNd) else noNd) := rfl
  have HEE : Hid (shrinkE n i = if innerB n then (if placeB i n.ks.length then ownE (lessN n i.toNat) else 1) else 100) := rfl
  have hza : ∀ wx : World, (zeroValue 26).run Try.prog wx = .ok (.agg #[.bool false, .slice none 0 0, .slice none 0 0, .slice none 0 0]) wx := fun wx => by kernel_rfl
  have HIN : Hid (innerB n = true → 1 ≤ n.ks.length ∧ n.ks.length ≤ 255 ∧ n.cs.length = n.ks.length + 1) := fun h => by have := innerB_ps h; omega
  have HLN : Hid (leafB n = true → n.ps.length ≤ 255) := fun h => (leafB_ps h).1
  have HLF : Hid (innerB n = true → n.lf = false) := innerB_lf
  have HLL : Hid (leafB n = true → n.lf = true) := leafB_lf
  have HMI : Hid (n.lf = false → mayN n = innerB n) := mayN_in
  have HML : Hid (n.lf = true → mayN n = leafB n) := mayN_lf
  have HMO : Hid (mayN n = (leafB n || innerB n)) := rfl
  obtain ⟨pa, pc, ka, kc, ca, cc, xs, ys, rfl, hp1, hk1, hc1, hp2, hk2, hc2, hP, hK, hC⟩ := h.open
  have HP := hide hP
  have HK := hide hK
  have HC := hide hC
  unfold ndv at HM ⊢
  obtain ⟨lf, hlf⟩ : ∃ b, n.lf = b := ⟨_, rfl⟩
  obtain ⟨np, hnp⟩ : ∃ m, n.ps.length = m := ⟨_, rfl⟩
  obtain ⟨nk, hnk⟩ : ∃ m, n.ks.length = m := ⟨_, rfl⟩
  obtain ⟨nc, hnc⟩ : ∃ m, n.cs.length = m := ⟨_, rfl⟩
  have HNP := hide hnp
  have HNK := hide hnk
  have HNC := hide hnc
  have HF0 := hide hlf
  rw [hnp, hnk, hnc, hlf] at HM
  rw [hnp] at HLN HP hp1
  rw [hnk, hnc] at HIN
  rw [hnk] at HK hk1
  rw [hnc] at HC hc1
  rw [hlf] at HLF HLL HMI HML
  rw [hnp, hnk, hnc, hlf]
  obtain ⟨w1, hw1, hcg⟩ := cg_new w (.bool lf) (.slice pa np pc) (.slice ka nk kc) (.slice ca nc cc)
  have HG1 := hide hcg
  obtain ⟨⟨z0, z1, z2, z3⟩, _⟩ := node_cells hcg.2.1
  clear h hP hK hC hcg hnp hnk hnc hlf
  cases hib : innerB n with
  | false =>
    rw [hib] at HNN HEE HM
    simp only [Bool.false_eq_true, if_false] at HNN HEE
    rw [HNN.out, HEE.out]
    clear HNN HEE
    go_enter Try.func39, Try.ntmps39
    go_wp2_with (first
      | (go_at_call 68; refine (HM.out w1 HG1.out.1).mono ?_; rintro e w2 ⟨rfl, hb2⟩; have HG2 := hide (HG1.out.grow hb2); (try clear z0 z1 z2 z3); (try clear d0 d1 d2 d3 k0 k1 k2 k3); obtain ⟨⟨z0, z1, z2, z3⟩, _⟩ := node_cells HG2.out.2.1; obtain ⟨⟨d0, d1, d2, d3⟩, k0, k1, k2, k3⟩ := node_cells HG2.out.2.2; clear HM hb2))
    (try simp only [Exit.inBlock, Exit.then])
    refine bodyPost_ret (ret_node1 rfl _ _ (w.heap.size + 1) _ _ _ _ _ rfl rfl (laidN_blk HG2.out.2.2 _ _ _ _)) rfl ?_
    exact cg_no HG2.out _ _ _ _ _ rfl
  | true =>
    have hlf : lf = false := HLF.out hib
    rw [hib] at HNN HEE HM
    simp only [if_true] at HNN HEE
    subst hlf
    obtain ⟨hn1, hn2, hn3⟩ := HIN.out hib
    have hn4 : nc ≤ nk + 1 := by omega
    have hn5 : nk + 1 ≤ nc := by omega
    clear hn3
    rw [HNK.out] at HNN HEE
    cases hPB : placeB i nk with
    | true =>
      obtain ⟨K, rfl, hKm⟩ := place_nat hPB
      rw [hPB] at HNN HEE
      simp only [if_true, Int.toNat_natCast] at HNN HEE
      rw [HNN.out, HEE.out]
      clear HNN HEE
      have HCT := hide (fun wx => cut_head (P := Try.prog) 23 34 1 Try.underlying23 sizeRowE ka nk kc K (by omega) (by unfold maxLen; omega) wx)
      have HCI0 : Hid (∀ wx, (Instr.slice 24 (.slice ca nc cc) none (some (.int .i64 (K + 1 : Int))) none).run Try.prog wx = .ok (.slice ca (K + 1) cc) wx) := fun wx => by
        have := cut_head (P := Try.prog) 24 3 1 Try.underlying24 sizeIntE ca nc cc (K + 1) (by omega) (by unfold maxLen; omega) wx
        rwa [show ((K + 1 : Nat) : Int) = (K + 1 : Int) by omega] at this
      obtain ⟨ba, bc, hlo, hB⟩ := HK.out.low HNK.out (K + 1) (by omega)
      obtain ⟨da, dc, hlo2, hB2⟩ := HC.out.low HNC.out (K + 2) (by omega)
      have HLO : Hid (∀ wx, (Instr.slice 23 (.slice ka nk kc) (some (.int .i64 (K + 1 : Int))) none none).run Try.prog wx = .ok (.slice ba (nk - (K + 1)) bc) wx) := fun wx => by
        have := hlo wx
        rwa [show ((K + 1 : Nat) : Int) = (K + 1 : Int) by omega] at this
      have HLI : Hid (∀ wx, (Instr.slice 24 (.slice ca nc cc) (some (.int .i64 (K + 2 : Int))) none none).run Try.prog wx = .ok (.slice da (nc - (K + 2)) dc) wx) := fun wx => by
        have := hlo2 wx
        rwa [show ((K + 2 : Nat) : Int) = (K + 2 : Int) by omega] at this
      obtain ⟨bn, hbn⟩ : ∃ m, nk - (K + 1) = m := ⟨_, rfl⟩
      obtain ⟨dn, hdn⟩ : ∃ m, nc - (K + 2) = m := ⟨_, rfl⟩
      rw [hbn] at HLO hB
      rw [hdn] at HLI hB2
      have HT1 : Hid (∀ W, Below w.heap.size w W → Bss W (.slice ka K kc) (ys.take K) (n.ks.take K)) := fun W hb => by
        have := HK.out.below hb
        rw [← HNK.out] at this
        exact this.take K kc (by rw [HNK.out]; omega) (by omega) (by unfold maxLen; omega)
      have HD1 : Hid (∀ W, Below w.heap.size w W → Bss W (.slice ba bn bc) (ys.drop (K + 1)) (n.ks.drop (K + 1))) := fun W hb => hB W (HK.out.below hb)
      have HT2 : Hid (∀ W, Below w.heap.size w W → Is W (.slice ca (K + 1) cc) (n.cs.take (K + 1))) := fun W hb => by
        have := HC.out.below hb
        rw [← HNC.out] at this
        exact this.take (by rw [HNC.out]; omega) cc (by omega) (by unfold maxLen; omega)
      have HD2 : Hid (∀ W, Below w.heap.size w W → Is W (.slice da dn dc) (n.cs.drop (K + 2))) := fun W hb => hB2 W (HC.out.below hb)
      obtain ⟨KR, hKR⟩ : ∃ x, x = (ys.take K ++ ys.drop (K + 1)) := ⟨_, rfl⟩
      obtain ⟨IV, hIV⟩ : ∃ x, x = iv (n.cs.take (K + 1) ++ n.cs.drop (K + 2)) := ⟨_, rfl⟩
      obtain ⟨DN, hDN⟩ : ∃ x, x = lessN n K := ⟨_, rfl⟩
      rw [← hDN]
      have HKR := hide hKR
      have HIV := hide hIV
      have HDN := hide hDN
      clear hKR hIV hDN hlo hlo2 hB hB2 hbn hdn
      have HCK : Hid (∀ wx g, Below w.heap.size w wx → Blk wx g 23 [.slice ka K kc, .slice ba bn bc] → Calls Try.prog 78 #[.slice (some ⟨g, 0, none⟩) 2 2] wx fun e w' => ∃ r N c, e = .returned (.slice r N c) ∧ w'.ownsRow wx.heap.size 34 1 (.slice r N c) N KR ∧ Below wx.heap.size wx w') := fun wx g hbw hB => by
        refine (concatK_any wx g [.slice ka K kc, .slice ba bn bc] [ys.take K, ys.drop (K + 1)] rfl (by simp) hB (lit_rows rfl (by
          intro x hx
          simp only [List.zip_cons_cons, List.zip_nil_right, List.mem_cons, List.not_mem_nil, or_false] at hx
          rcases hx with rfl | rfl
          · exact RowR.of_bss (HT1.out wx hbw) (by rw [List.length_take]; have := HNK.out; omega)
          · exact RowR.of_bss (HD1.out wx hbw) (by rw [List.length_drop]; have := HNK.out; omega)))).mono ?_
        rintro e w' ⟨r, N, c, rfl, ho, hb'⟩
        exact ⟨r, N, c, rfl, (by rw [HKR.out]; simpa using ho), hb'⟩
      have HCI : Hid (∀ wx g, Below w.heap.size w wx → Blk wx g 24 [.slice ca (K + 1) cc, .slice da dn dc] → Calls Try.prog 79 #[.slice (some ⟨g, 0, none⟩) 2 2] wx fun e w' => ∃ r N c, e = .returned (.slice r N c) ∧ w'.ownsRow wx.heap.size 3 1 (.slice r N c) N IV ∧ Below wx.heap.size wx w') := fun wx g hbw hB => by
        refine (concatI_any wx g [.slice ca (K + 1) cc, .slice da dn dc] [iv (n.cs.take (K + 1)), iv (n.cs.drop (K + 2))] rfl (by simp) hB (lit_rows rfl (by
          intro x hx
          simp only [List.zip_cons_cons, List.zip_nil_right, List.mem_cons, List.not_mem_nil, or_false] at hx
          rcases hx with rfl | rfl
          · exact RowR.of_is (HT2.out wx hbw) (by rw [List.length_take]; have := HNC.out; omega)
          · exact RowR.of_is (HD2.out wx hbw) (by rw [List.length_drop]; have := HNC.out; omega)))).mono ?_
        rintro e w' ⟨r, N, c, rfl, ho, hb'⟩
        exact ⟨r, N, c, rfl, (by rw [HIV.out]; simpa [iv] using ho), hb'⟩
      have HND : Hid (∀ wx a1 n1 c1 a2 n2 c2, Below w.heap.size w wx → wx.ownsRow (w.heap.size + 2) 34 1 (.slice a1 n1 c1) n1 KR → wx.ownsRow (w.heap.size + 2) 3 1 (.slice a2 n2 c2) n2 IV → NdV wx (.agg #[.bool false, .slice none 0 0, .slice a1 n1 c1, .slice a2 n2 c2]) DN) := fun wx a1 n1 c1 a2 n2 c2 hbw h1 h2 => by
        rw [HDN.out]
        have e1 : n1 = KR.length := by have := h1.1; omega
        rw [HIV.out] at h2
        have e2 : n2 = (n.cs.take (K + 1) ++ n.cs.drop (K + 2)).length := by have := h2.1; rw [iv, List.length_map] at this; omega
        rw [e1] at h1 ⊢
        rw [e2] at h2 ⊢
        refine ⟨_, _, _, [], KR, rfl, Prs.nil _, bss_own h1 ?_ ?_, (show Ints wx _ _ _ from h2).is⟩
        · rw [HKR.out]
          show _ = (n.ks.take K ++ n.ks.drop (K + 1)).length
          simp only [List.length_append, (HT1.out wx hbw).1, (HD1.out wx hbw).1]
        · rw [HKR.out]
          exact keys_append (HT1.out wx hbw).1 (HT1.out wx hbw).texts (HD1.out wx hbw).texts
      clear HT1 HT2 HD1 HD2 HDN HKR HIV HP HK HC
      go_enter Try.func39, Try.ntmps39
      go_wp2_with (first
        | (go_at_call 68; refine (HM.out w1 HG1.out.1).mono ?_; rintro e w2 ⟨rfl, hb2⟩; have HG2 := hide (HG1.out.grow hb2); (try clear z0 z1 z2 z3); (try clear d0 d1 d2 d3 k0 k1 k2 k3); obtain ⟨⟨z0, z1, z2, z3⟩, _⟩ := node_cells HG2.out.2.1; obtain ⟨⟨d0, d1, d2, d3⟩, k0, k1, k2, k3⟩ := node_cells HG2.out.2.2; clear HM hb2)
        | (go_at_call 76; refine (isPlace_any w2 _ _).mono ?_; rintro e w3 ⟨rfl, hw⟩; subst w3; rw [hPB]))
      refine wp_region_mix (fun j => j = w.heap.size + 1) [some (isV (.pointer (some ⟨w.heap.size, 2, none⟩))), some (isV (.slice ka nk kc)), some (isV (.int .i64 (K : Int))), some (isV (.slice ka K kc)), some (isV (.pointer (some ⟨w.heap.size, 2, none⟩))), some (isV (.slice ka nk kc)), some (isV (.int .i64 (K : Int))), some (isV (.int .i64 (K + 1 : Int))), some (isV (.slice ba bn bc)), some (isLit (w.heap.size + 2) 23 [.slice ka K kc, .slice ba bn bc]), some (isRowO (w.heap.size + 2) 34 1 KR), some (isV (.pointer (some ⟨w.heap.size, 3, none⟩))), some (isV (.slice ca nc cc)), some (isV (.int .i64 (K : Int))), some (isV (.int .i64 (K + 1 : Int))), some (isV (.slice ca (K + 1) cc)), some (isV (.pointer (some ⟨w.heap.size, 3, none⟩))), some (isV (.slice ca nc cc)), some (isV (.int .i64 (K : Int))), some (isV (.int .i64 (K + 2 : Int))), some (isV (.slice da dn dc)), some (isLit (w.heap.size + 2) 24 [.slice ca (K + 1) cc, .slice da dn dc]), some (isRowO (w.heap.size + 2) 3 1 IV), some (isNd2 (w.heap.size + 2) KR IV), some (isTup (w.heap.size + 2) (ownN DN) (ownE DN)), some (isNdO (w.heap.size + 2) (ownN DN)), some (isV (.int .i64 (ownE DN))), none, none] [27, 28] (CgS w [.bool false, .slice pa np pc, .slice ka nk kc, .slice ca nc cc] (ownN DN) (ownE DN) 28) 46 (by kernel_rfl) (by kernel_rfl) (by kernel_rfl) (by kernel_rfl) rfl ?_ ?_ ?_ ?_ ?_
      · intro vals0
        exact (HG2.out.keep ((Only.refl _ w2).drew) : CgB w [.bool false, .slice pa np pc, .slice ka nk kc, .slice ca nc cc] zeroC w2.drew)
      · refine allF_at _ ?_
        repeat (first | exact trivial | refine allF_none ?_ | refine allF_isV ?_ | refine allF_cons (st_isLit _ _ (fun j hj => by omega)) ?_ | refine allF_cons (st_isLitK (fun j hj => by omega)) ?_ | refine allF_cons (st_isLitI (fun j hj => by omega)) ?_ | refine allF_cons (st_isRowO _ _ _ (fun j hj => by omega)) ?_ | refine allF_cons (st_isNd2 (fun j hj => by omega)) ?_ | refine allF_cons (st_isTup _ _ (fun j hj => by omega)) ?_ | refine allF_cons (st_isNdO _ (fun j hj => by omega)) ?_)
      · exact CgS.ind (by decide)
      · refine ⟨?_, ?_, ?_, ?_, ?_, ?_, ?_, ?_, ?_, ?_, ?_, ?_, ?_, ?_, ?_, ?_, ?_, ?_, ?_, ?_, ?_, ?_, ?_, ?_, ?_, ?_, ?_, ?_, ?_, trivial⟩
        · intro k vals act wx hk h hs
          have e2 : act.eval (.tmp 2) = .pointer (some ⟨w.heap.size, 0, none⟩) := h.old 2 (by kernel_rfl)
          clear h
          refine gives_by rfl act.eval rfl ?_
          generalize act.eval = ρ at *
          intro hf hc
          go_simp
          exact ⟨rfl, Only.refl _ _, hs⟩
        · intro k vals act wx hk h hs
          obtain ⟨v19, e19, f19⟩ := h.f 0 19 (by kernel_rfl) rfl
          obtain rfl : v19 = .pointer (some ⟨w.heap.size, 2, none⟩) := f19
          clear h
          obtain ⟨hbw, hAx, hsz⟩ := CgS.any hk hs
          obtain ⟨⟨x0, x1, x2, x3⟩, _⟩ := node_cells hAx
          refine gives_by rfl act.eval rfl ?_
          generalize act.eval = ρ at *
          intro hf hc
          go_simp
          exact ⟨rfl, Only.refl _ _, hs⟩
        · intro k vals act wx hk h hs
          have e1 : act.eval (.tmp 1) = .int .i64 (K : Int) := h.old 1 (by kernel_rfl)
          clear h
          refine gives_by rfl act.eval rfl ?_
          generalize act.eval = ρ at *
          intro hf hc
          go_simp
          exact ⟨rfl, Only.refl _ _, hs⟩
        · intro k vals act wx hk h hs
          obtain ⟨v20, e20, f20⟩ := h.f 1 20 (by kernel_rfl) rfl
          obtain rfl : v20 = .slice ka nk kc := f20
          obtain ⟨v21, e21, f21⟩ := h.f 2 21 (by kernel_rfl) rfl
          obtain rfl : v21 = .int .i64 (K : Int) := f21
          clear h
          have hct := HCT.out wx
          refine gives_by rfl act.eval rfl ?_
          generalize act.eval = ρ at *
          intro hf hc
          go_simp
          exact ⟨rfl, Only.refl _ _, hs⟩
        · intro k vals act wx hk h hs
          have e2 : act.eval (.tmp 2) = .pointer (some ⟨w.heap.size, 0, none⟩) := h.old 2 (by kernel_rfl)
          clear h
          refine gives_by rfl act.eval rfl ?_
          generalize act.eval = ρ at *
          intro hf hc
          go_simp
          exact ⟨rfl, Only.refl _ _, hs⟩
        · intro k vals act wx hk h hs
          obtain ⟨v23, e23, f23⟩ := h.f 4 23 (by kernel_rfl) rfl
          obtain rfl : v23 = .pointer (some ⟨w.heap.size, 2, none⟩) := f23
          clear h
          obtain ⟨hbw, hAx, hsz⟩ := CgS.any hk hs
          obtain ⟨⟨x0, x1, x2, x3⟩, _⟩ := node_cells hAx
          refine gives_by rfl act.eval rfl ?_
          generalize act.eval = ρ at *
          intro hf hc
          go_simp
          exact ⟨rfl, Only.refl _ _, hs⟩
        · intro k vals act wx hk h hs
          have e1 : act.eval (.tmp 1) = .int .i64 (K : Int) := h.old 1 (by kernel_rfl)
          clear h
          refine gives_by rfl act.eval rfl ?_
          generalize act.eval = ρ at *
          intro hf hc
          go_simp
          exact ⟨rfl, Only.refl _ _, hs⟩
        · intro k vals act wx hk h hs
          obtain ⟨v25, e25, f25⟩ := h.f 6 25 (by kernel_rfl) rfl
          obtain rfl : v25 = .int .i64 (K : Int) := f25
          clear h
          refine gives_by rfl act.eval rfl ?_
          generalize act.eval = ρ at *
          intro hf hc
          go_simp
          rw [IntWalk.i64_in _ (by omega)]
          exact ⟨rfl, Only.refl _ _, hs⟩
        · intro k vals act wx hk h hs
          obtain ⟨v24, e24, f24⟩ := h.f 5 24 (by kernel_rfl) rfl
          obtain rfl : v24 = .slice ka nk kc := f24
          obtain ⟨v26, e26, f26⟩ := h.f 7 26 (by kernel_rfl) rfl
          obtain rfl : v26 = .int .i64 (K + 1 : Int) := f26
          clear h
          have hlo := HLO.out wx
          refine gives_by rfl act.eval rfl ?_
          generalize act.eval = ρ at *
          intro hf hc
          go_simp
          exact ⟨rfl, Only.refl _ _, hs⟩
        · intro k vals act wx hk h hs
          obtain ⟨v22, e22, f22⟩ := h.f 3 22 (by kernel_rfl) rfl
          obtain rfl : v22 = .slice ka K kc := f22
          obtain ⟨v27, e27, f27⟩ := h.f 8 27 (by kernel_rfl) rfl
          obtain rfl : v27 = .slice ba bn bc := f27
          clear h
          obtain ⟨hbw, hAx, hsz⟩ := CgS.any hk hs
          refine gives_of_run rfl (exec_build2 106 2 (.tmp 22) (.tmp 27) rfl _ _ _ e22 e27 (buildK2 wx ka ba K bn kc bc)) ?_
          have hon : Only (fun _ => False) wx (wx.alloc (.cells #[.slice ka K kc, .slice ba bn bc] 23)) := (Only.refl _ wx).alloc _
          exact ⟨⟨wx.heap.size, rfl, hsz, Blk.new wx _ [.slice ka K kc, .slice ba bn bc]⟩, hon, hs.keep hk hon⟩
        · intro k vals act wx hk h hs
          obtain ⟨v28, e28, f28⟩ := h.f 9 28 (by kernel_rfl) rfl
          obtain ⟨g28, rfl, hg28, B28⟩ := f28
          clear h
          refine gives_by rfl act.eval rfl ?_
          generalize act.eval = ρ at *
          intro hf hc
          go_simp
          obtain ⟨hbw, hAx, hsz⟩ := CgS.any hk hs
          refine (HCK.out wx g28 hbw B28).mono ?_
          rintro e w' ⟨r, N, c, he, ho, hb'⟩
          exact ⟨_, he, ⟨r, N, c, rfl, own_le' ho hsz⟩, Only.of_below _ hb', hs.keep hk (Only.of_below _ hb')⟩
        · intro k vals act wx hk h hs
          have e2 : act.eval (.tmp 2) = .pointer (some ⟨w.heap.size, 0, none⟩) := h.old 2 (by kernel_rfl)
          clear h
          refine gives_by rfl act.eval rfl ?_
          generalize act.eval = ρ at *
          intro hf hc
          go_simp
          exact ⟨rfl, Only.refl _ _, hs⟩
        · intro k vals act wx hk h hs
          obtain ⟨v30, e30, f30⟩ := h.f 11 30 (by kernel_rfl) rfl
          obtain rfl : v30 = .pointer (some ⟨w.heap.size, 3, none⟩) := f30
          clear h
          obtain ⟨hbw, hAx, hsz⟩ := CgS.any hk hs
          obtain ⟨⟨x0, x1, x2, x3⟩, _⟩ := node_cells hAx
          refine gives_by rfl act.eval rfl ?_
          generalize act.eval = ρ at *
          intro hf hc
          go_simp
          exact ⟨rfl, Only.refl _ _, hs⟩
        · intro k vals act wx hk h hs
          have e1 : act.eval (.tmp 1) = .int .i64 (K : Int) := h.old 1 (by kernel_rfl)
          clear h
          refine gives_by rfl act.eval rfl ?_
          generalize act.eval = ρ at *
          intro hf hc
          go_simp
          exact ⟨rfl, Only.refl _ _, hs⟩
        · intro k vals act wx hk h hs
          obtain ⟨v32, e32, f32⟩ := h.f 13 32 (by kernel_rfl) rfl
          obtain rfl : v32 = .int .i64 (K : Int) := f32
          clear h
          refine gives_by rfl act.eval rfl ?_
          generalize act.eval = ρ at *
          intro hf hc
          go_simp
          rw [IntWalk.i64_in _ (by omega)]
          exact ⟨rfl, Only.refl _ _, hs⟩
        · intro k vals act wx hk h hs
          obtain ⟨v31, e31, f31⟩ := h.f 12 31 (by kernel_rfl) rfl
          obtain rfl : v31 = .slice ca nc cc := f31
          obtain ⟨v33, e33, f33⟩ := h.f 14 33 (by kernel_rfl) rfl
          obtain rfl : v33 = .int .i64 (K + 1 : Int) := f33
          clear h
          have hct := HCI0.out wx
          refine gives_by rfl act.eval rfl ?_
          generalize act.eval = ρ at *
          intro hf hc
          go_simp
          exact ⟨rfl, Only.refl _ _, hs⟩
        · intro k vals act wx hk h hs
          have e2 : act.eval (.tmp 2) = .pointer (some ⟨w.heap.size, 0, none⟩) := h.old 2 (by kernel_rfl)
          clear h
          refine gives_by rfl act.eval rfl ?_
          generalize act.eval = ρ at *
          intro hf hc
          go_simp
          exact ⟨rfl, Only.refl _ _, hs⟩
        · intro k vals act wx hk h hs
          obtain ⟨v35, e35, f35⟩ := h.f 16 35 (by kernel_rfl) rfl
          obtain rfl : v35 = .pointer (some ⟨w.heap.size, 3, none⟩) := f35
          clear h
          obtain ⟨hbw, hAx, hsz⟩ := CgS.any hk hs
          obtain ⟨⟨x0, x1, x2, x3⟩, _⟩ := node_cells hAx
          refine gives_by rfl act.eval rfl ?_
          generalize act.eval = ρ at *
          intro hf hc
          go_simp
          exact ⟨rfl, Only.refl _ _, hs⟩
        · intro k vals act wx hk h hs
          have e1 : act.eval (.tmp 1) = .int .i64 (K : Int) := h.old 1 (by kernel_rfl)
          clear h
          refine gives_by rfl act.eval rfl ?_
          generalize act.eval = ρ at *
          intro hf hc
          go_simp
          exact ⟨rfl, Only.refl _ _, hs⟩
        · intro k vals act wx hk h hs
          obtain ⟨v37, e37, f37⟩ := h.f 18 37 (by kernel_rfl) rfl
          obtain rfl : v37 = .int .i64 (K : Int) := f37
          clear h
          refine gives_by rfl act.eval rfl ?_
          generalize act.eval = ρ at *
          intro hf hc
          go_simp
          rw [IntWalk.i64_in _ (by omega)]
          exact ⟨rfl, Only.refl _ _, hs⟩
        · intro k vals act wx hk h hs
          obtain ⟨v36, e36, f36⟩ := h.f 17 36 (by kernel_rfl) rfl
          obtain rfl : v36 = .slice ca nc cc := f36
          obtain ⟨v38, e38, f38⟩ := h.f 19 38 (by kernel_rfl) rfl
          obtain rfl : v38 = .int .i64 (K + 2 : Int) := f38
          clear h
          have hlo := HLI.out wx
          refine gives_by rfl act.eval rfl ?_
          generalize act.eval = ρ at *
          intro hf hc
          go_simp
          exact ⟨rfl, Only.refl _ _, hs⟩
        · intro k vals act wx hk h hs
          obtain ⟨v34, e34, f34⟩ := h.f 15 34 (by kernel_rfl) rfl
          obtain rfl : v34 = .slice ca (K + 1) cc := f34
          obtain ⟨v39, e39, f39⟩ := h.f 20 39 (by kernel_rfl) rfl
          obtain rfl : v39 = .slice da dn dc := f39
          clear h
          obtain ⟨hbw, hAx, hsz⟩ := CgS.any hk hs
          refine gives_of_run rfl (exec_build2 108 2 (.tmp 34) (.tmp 39) rfl _ _ _ e34 e39 (buildI2 wx ca da (K + 1) dn cc dc)) ?_
          have hon : Only (fun _ => False) wx (wx.alloc (.cells #[.slice ca (K + 1) cc, .slice da dn dc] 24)) := (Only.refl _ wx).alloc _
          exact ⟨⟨wx.heap.size, rfl, hsz, Blk.new wx _ [.slice ca (K + 1) cc, .slice da dn dc]⟩, hon, hs.keep hk hon⟩
        · intro k vals act wx hk h hs
          obtain ⟨v40, e40, f40⟩ := h.f 21 40 (by kernel_rfl) rfl
          obtain ⟨g40, rfl, hg40, B40⟩ := f40
          clear h
          refine gives_by rfl act.eval rfl ?_
          generalize act.eval = ρ at *
          intro hf hc
          go_simp
          obtain ⟨hbw, hAx, hsz⟩ := CgS.any hk hs
          refine (HCI.out wx g40 hbw B40).mono ?_
          rintro e w' ⟨r, N, c, he, ho, hb'⟩
          exact ⟨_, he, ⟨r, N, c, rfl, own_le' ho hsz⟩, Only.of_below _ hb', hs.keep hk (Only.of_below _ hb')⟩
        · intro k vals act wx hk h hs
          obtain ⟨v29, e29, f29⟩ := h.f 10 29 (by kernel_rfl) rfl
          obtain ⟨a29, n29, c29, rfl, O29⟩ := f29
          obtain ⟨v41, e41, f41⟩ := h.f 22 41 (by kernel_rfl) rfl
          obtain ⟨a41, n41, c41, rfl, O41⟩ := f41
          clear h
          refine gives_by rfl act.eval rfl ?_
          generalize act.eval = ρ at *
          intro hf hc
          go_simp
          exact ⟨⟨a29, n29, c29, a41, n41, c41, rfl, O29, O41⟩, Only.refl _ _, hs⟩
        · intro k vals act wx hk h hs
          obtain ⟨v42, e42, f42⟩ := h.f 23 42 (by kernel_rfl) rfl
          obtain ⟨a42, n42, c42, a42', n42', c42', rfl, O42, O42'⟩ := f42
          clear h
          refine gives_by rfl act.eval rfl ?_
          generalize act.eval = ρ at *
          intro hf hc
          go_simp
          obtain ⟨hbw, hAx, hsz⟩ := CgS.any hk hs
          refine (owned_tup (HND.out wx _ _ _ _ _ _ hbw O42 O42') hsz).mono ?_
          rintro e w' ⟨u, he, ht, hb'⟩
          exact ⟨u, he, ht, Only.of_below _ hb', hs.keep hk (Only.of_below _ hb')⟩
        · intro k vals act wx hk h hs
          obtain ⟨v43, e43, f43⟩ := h.f 24 43 (by kernel_rfl) rfl
          obtain ⟨l43, p43, np43, pc43, k43, nk43, kc43, q43, nq43, qc43, rfl, N43⟩ := f43
          clear h
          refine gives_by rfl act.eval rfl ?_
          generalize act.eval = ρ at *
          intro hf hc
          go_simp
          exact ⟨⟨l43, p43, np43, pc43, k43, nk43, kc43, q43, nq43, qc43, rfl, N43⟩, Only.refl _ _, hs⟩
        · intro k vals act wx hk h hs
          obtain ⟨v43, e43, f43⟩ := h.f 24 43 (by kernel_rfl) rfl
          obtain ⟨l43, p43, np43, pc43, k43, nk43, kc43, q43, nq43, qc43, rfl, N43⟩ := f43
          clear h
          refine gives_by rfl act.eval rfl ?_
          generalize act.eval = ρ at *
          intro hf hc
          go_simp
          exact ⟨rfl, Only.refl _ _, hs⟩
        · intro vals act wx h hs
          have e4 : act.eval (.tmp 4) = .pointer (some ⟨w.heap.size + 1, 0, none⟩) := h.old 4 (by kernel_rfl)
          obtain ⟨v44, e44, f44⟩ := h.f 25 44 (by kernel_rfl) rfl
          obtain ⟨l44, p44, np44, pc44, k44, nk44, kc44, q44, nq44, qc44, rfl, N44⟩ := f44
          clear h
          have hj : CgB w [.bool false, .slice pa np pc, .slice ka nk kc, .slice ca nc cc] zeroC wx := hs
          obtain ⟨⟨d0, d1', d2, d3⟩, k0, k1, k2, k3⟩ := node_cells hj.2.2
          have ho := laidN_only wx (w.heap.size + 1) (.bool l44) (.slice p44 np44 pc44) (.slice k44 nk44 kc44) (.slice q44 nq44 qc44)
          have hfin : CgS w [.bool false, .slice pa np pc, .slice ka nk kc, .slice ca nc cc] (ownN DN) (ownE DN) 28 1 (updV vals 27 undef) (laidN wx (w.heap.size + 1) (.bool l44) (.slice p44 np44 pc44) (.slice k44 nk44 kc44) (.slice q44 nq44 qc44)) := ⟨l44, p44, np44, pc44, k44, nk44, kc44, q44, nq44, qc44, ⟨hj.1.trans (ho.below hj.1.size (fun j hh e => by omega)), hj.2.1.only ho (by omega), laidN_blk hj.2.2 _ _ _ _⟩, N44.only ho (fun j hh => by omega)⟩
          clear hs hj N44
          refine gives_by rfl act.eval rfl ?_
          generalize act.eval = ρ at *
          intro hf hc
          go_simp
          exact ⟨ho, hfin⟩
        · intro vals act wx h hs
          obtain ⟨v45, e45, f45⟩ := h.f 26 45 (by kernel_rfl) rfl
          obtain rfl : v45 = .int .i64 (ownE DN) := f45
          clear h
          have hj : CgS w [.bool false, .slice pa np pc, .slice ka nk kc, .slice ca nc cc] (ownN DN) (ownE DN) 28 1 vals wx := hs
          refine gives_by rfl act.eval rfl ?_
          generalize act.eval = ρ at *
          intro hf hc
          go_simp
          exact ⟨Only.refl _ _, ⟨hj, rfl⟩⟩
      · intro vals w8 hv hs
        obtain ⟨⟨l8, p8, n8, c8, k8, nk8, kc8, q8, nq8, qc8, hj, hn⟩, h19⟩ : (∃ l9 p9 n9 c9 k9 m9 d9 q9 r9 s9, CgB w [.bool false, .slice pa np pc, .slice ka nk kc, .slice ca nc cc] [.bool l9, .slice p9 n9 c9, .slice k9 m9 d9, .slice q9 r9 s9] w8 ∧ NdN w8 (w.heap.size + 2) (.agg #[.bool l9, .slice p9 n9 c9, .slice k9 m9 d9, .slice q9 r9 s9]) (ownN DN)) ∧ vals 28 = .int .i64 (ownE DN) := hs
        have HJ8 := hide hj
        have HN8 := hide hn
        clear hv hj hn
        simp only [putAll, Act.put, List.setIfInBounds_toArray, List.set_cons_zero, List.set_cons_succ, Nat.zero_add, Nat.reduceAdd, h19]
        (try go_wp2)
        (try simp only [Exit.inBlock, Exit.then])
        refine bodyPost_ret (ret_node1 rfl _ _ (w.heap.size + 1) _ _ _ _ _ rfl rfl HJ8.out.2.2) rfl ?_
        exact ⟨_, rfl, HN8.out.le (by omega), HJ8.out.1⟩
    | false =>
      rw [hPB] at HNN HEE
      simp only [Bool.false_eq_true, if_false] at HNN HEE
      rw [HNN.out, HEE.out]
      clear HNN HEE
      go_enter Try.func39, Try.ntmps39
      go_wp2_with (first
        | (go_at_call 68; refine (HM.out w1 HG1.out.1).mono ?_; rintro e w2 ⟨rfl, hb2⟩; have HG2 := hide (HG1.out.grow hb2); (try clear z0 z1 z2 z3); (try clear d0 d1 d2 d3 k0 k1 k2 k3); obtain ⟨⟨z0, z1, z2, z3⟩, _⟩ := node_cells HG2.out.2.1; obtain ⟨⟨d0, d1, d2, d3⟩, k0, k1, k2, k3⟩ := node_cells HG2.out.2.2; clear HM hb2)
        | (go_at_call 76; refine (isPlace_any w2 _ _).mono ?_; rintro e w3 ⟨rfl, hw⟩; subst w3; rw [hPB]))
      (try simp only [Exit.inBlock, Exit.then])
      refine bodyPost_ret (ret_node1 rfl _ _ (w.heap.size + 1) _ _ _ _ _ rfl rfl (laidN_blk HG2.out.2.2 _ _ _ _)) rfl ?_
      exact cg_no HG2.out _ _ _ _ _ rfl

end Go.Proofs.Ytoamdbjailpgdaa
