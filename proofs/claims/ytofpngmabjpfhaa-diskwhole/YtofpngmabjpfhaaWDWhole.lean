/- The walk of the statement DiskWhole. -/
import Derived.Test.YtofpngmabjpfhaaDMath
import Derived.OpenShut
namespace Go.Proofs.Ytofpngmabjpfhaa
open Go.RowKit Go.ChangeShapes Go.WideShapes
set_option linter.unusedVariables false

def foursK (n k : Nat) : List Int := List.replicate k 4 ++ List.replicate (n - k) 0
theorem foursK_len {n k : Nat} (h : k ≤ n) : (foursK n k).length = n := by simp [foursK]; omega
theorem foursK_set {n k : Nat} (h : k < n) : (foursK n k).set k 4 = foursK n (k + 1) := by
  unfold foursK
  rw [List.set_append_right _ _ (by simp), List.length_replicate, Nat.sub_self, show n - k = (n - (k + 1)) + 1 by omega, List.replicate_succ, List.set_cons_zero, List.replicate_succ', List.append_assoc]
  rfl
theorem foursK_end (n : Nat) : foursK n n = List.replicate n 4 := by simp [foursK]
theorem fours_ok (n : Nat) : ByteOk (List.replicate n 4) := fun z hz => by rw [(List.mem_replicate.1 hz).2]; omega

set_option maxHeartbeats 1000000 in
set_option maxRecDepth 20000 in
theorem diskWhole_walk (w : World) (v : Value) (os : List OpA) (hs : Script w v os) :
    Calls Try.prog 6 #[v] w fun e w' => e = .returned (.bool true) ∧ Below w.heap.size w w' := by
  have HFew := hide (few_any w v os hs)
  have HLive : Hid (∀ wx : World, Calls Try.prog 9 #[] wx fun e w' => e = .returned (.bool true) ∧ Below wx.heap.size wx w') := fun wx => live_any wx
  have HLive2 := HLive
  have HNew : Hid (∀ wx : World, Calls Try.prog _ _ _ _) := fun wx => new_ok wx 8 (by omega) (by omega)
  cases hfew : fewB os with
  | false =>
    rw [hfew] at HFew
    clear hs
    go_enter Try.func6, Try.ntmps6
    go_wp2_with (first
      | (go_at_call 8; refine HFew.out.mono ?_; rintro e w1 ⟨⟨u, rfl, _, hu⟩, hb1⟩; obtain rfl := hu rfl; clear HFew)
      | (go_at_call 10; refine (HNew.out w1).mono ?_; rintro e w2 ⟨b, rfl, hd2, hb2⟩; have HB2 := hide hb2; clear HNew hd2 hb2)
      | (go_at_call 9; refine (HLive.out w2).mono ?_; rintro e w3 ⟨rfl, hb3⟩; have HB3 := hide hb3; clear HLive hb3)
      | (go_at_call 9; refine (HLive2.out w3).mono ?_; rintro e w4 ⟨rfl, hb4⟩; have HB4 := hide hb4; clear HLive2 hb4))
    go_ret
    exact ⟨rfl, below_then (below_then (below_then hb1 HB2.out (Nat.le_refl _)) HB3.out (Nat.le_refl _)) HB4.out (Nat.le_refl _)⟩
  | true =>
    rw [hfew] at HFew
    obtain ⟨T, hT⟩ : ∃ T, T = os.take 50 := ⟨_, rfl⟩
    have hTl : T.length ≤ 50 := by rw [hT]; simp; omega
    rw [← hT] at HFew
    clear hT hs
    have HC0 := hide (calm_playK (calm_new 8) T T.length)
    have HP0 : Hid (∀ w3 b u, DevL w w3 b (newD 8) → Script w u T → Calls Try.prog 21 #[dp b, u, .int .i64 8] w3 fun e w' => e = .returned (.bool true) ∧ DevL w w' b (playK 8 (newD 8) T T.length)) := fun w3 b u h1 h2 => plays_any w w3 b (newD 8) u T 8 0 h1 h2 (calm_new 8) (by omega) (by omega)
    obtain ⟨D0, hD0⟩ : ∃ D0, D0 = playK 8 (newD 8) T T.length := ⟨_, rfl⟩
    rw [← hD0] at HC0 HP0
    have hws : D0.ws.length ≤ 50 := by have := HC0.out.ws; omega
    have hstl : D0.st.length = 8 := HC0.out.st
    have HST8 := hide hstl
    clear hD0 hstl
    go_enter Try.func6, Try.ntmps6
    go_wp2_with (first
      | (go_at_call 8; refine HFew.out.mono ?_; rintro e w1 ⟨⟨u, rfl, hu, _⟩, hb1⟩; have HU := hide (hu rfl); have HB1 := hide hb1; clear HFew hu hb1)
      | (go_at_call 10; refine (HNew.out w1).mono ?_; rintro e w2 ⟨b, rfl, hd2, hb2⟩; have HD2 : Hid (DevL w w2 b (newD 8)) := ⟨hd2.mono (fun k _ hk => Nat.le_trans HB1.out.size hk), below_then HB1.out hb2 (Nat.le_refl _)⟩; clear HNew hd2 hb2 HB1)
      | (go_at_call 9; refine (HLive.out w2).mono ?_; rintro e w3 ⟨rfl, hb3⟩; have HD3 := hide (HD2.out.below hb3); clear HLive hb3 HD2)
      | (go_at_call 21; refine (HP0.out w3 b u HD3.out HU.out).mono ?_; rintro e w4 ⟨rfl, hd4⟩; have HD4 := hide hd4; clear HD3 hd4 HP0 HU)
      | (go_at_call 14; refine (clone_any w4 b _ D0 HD4.out.dev (by omega)).mono ?_; rintro e w5 ⟨c, rfl, hc5, hb5⟩; have HDB := hide (HD4.out.dev.bound.below hb5); have HDC := hide hc5.bound; have HW5 := hide (below_then HD4.out.bel hb5 (Nat.le_refl _)); have hs45 := hb5.size; have hs04 := HD4.out.bel.size; clear hc5 hb5 HD4)
      | (go_at_call 19; refine (image_any w5 c _ D0 HDC.out).mono ?_; rintro e w6 ⟨u1, rfl, ho6, hb6⟩; have HO6 := hide ho6; have HB6 := hide hb6; have hs56 := hb6.size; clear ho6 hb6))
    obtain ⟨st', hst'⟩ : ∃ st', st' = syncK D0.st D0.ws D0.ws.length := ⟨_, rfl⟩
    have hok := HDB.out.ok
    have HSH : Hid (∀ p, sAt st' p = showsD D0 p) := fun p => by rw [hst']; exact sync_showsD hok p
    have HSO : Hid (∀ r ∈ st', PageOk r) := by show ∀ r ∈ st', _; rw [hst']; exact syncK_ok hok.st hok.ws _ (Nat.le_refl _)
    have HSL : Hid (st'.length = 8) := by show _ = _; rw [hst', syncK_len]; exact HST8.out
    have HFull : Hid (crashK D0.st D0.ws (List.replicate D0.ws.length 4) D0.ws.length = st') := by show _ = _; rw [hst']; exact crashK_full _ (Nat.le_refl _) hok.st hok.ws _ (Nat.le_refl _)
    have HOK := hide hok
    obtain ⟨i0, hi, hz0, hz1, hz2⟩ := info_parts infoU8
    have HI := hide hi
    have HI0 := hide hz0
    have HI1 := hide hz1
    have HI2 := hide hz2
    have HDB6 := hide (HDB.out.below HB6.out)
    clear hst' hok hi hz0 hz1 hz2
    go_loopg [9, 55] 8 (fun g im i wr => ∃ k : Nat, g + k = 8 ∧ i = .int .i64 k ∧ Below w6.heap.size w6 wr ∧ wr.ownsRow w6.heap.size 5 1 im (k * 256) (pc (imgS (st'.take k))))
    case atStart => exact ⟨0, rfl, rfl, Below.refl _ _, by rw [Nat.zero_mul]; exact World.ownsRow_nil _ _ _ _⟩
    case round =>
      obtain ⟨k, hk, rfl, hb, hown⟩ := hrel
      have HB := hide hb
      have HOw := hide hown
      have hbs := hb.size
      cases gk with
      | zero =>
        obtain rfl : k = 8 := by omega
        obtain ⟨w7, rfl⟩ : ∃ x, x = wr := ⟨_, rfl⟩
        rw [List.take_of_length_le (by rw [HSL.out]; omega)] at hown
        obtain ⟨ai, ci, rfl⟩ := own_form' hown
        have HOs := hide hown
        have HWt := hide (waits_any w7 b _ D0 (HDB6.out.below hb))
        have hn : D0.ws.length ≤ 50 := hws
        clear hown hb HOw HSH
        go_wp2_with (first
          | (go_at_call 24; refine HWt.out.mono ?_; rintro e w1 ⟨rfl, hw⟩; subst w1; clear HWt)
          | (at_make; refine wpList_make_full _ rfl _ _ 33 rfl w7.heap.size 5 i0 (.int .u8 0) 1 Try.underlying33 HI.out HI0.out HI1.out _ _ _ _ D0.ws.length rfl rfl rfl rfl (by rw [HI2.out]; omega) (by unfold maxLen; omega) (Nat.le_refl _) ?_; intro w8 hown hg; rw [madeBytes] at hown; have HO8 := hide hown; have HG8 := hide hg; clear hown hg))
        have hs8 := HG8.out.size
        go_loopg [75] D0.ws.length (fun g i wr => ∃ k : Nat, g + k = D0.ws.length ∧ i = .int .i64 k ∧ Below w7.heap.size w7 wr ∧ Blk wr w7.heap.size 5 (pc (foursK D0.ws.length k)))
        case atStart =>
          refine ⟨0, by omega, rfl, (Below.refl _ w7).grown HG8.out (Nat.le_refl _) (fun k hk => by cases hk), ?_⟩
          have := own_heap HO8.out
          unfold Blk
          rw [this]
          simp [foursK, pc]
        case round =>
          obtain ⟨k, hk, rfl, hbq, hBq⟩ := hrel
          have HBQ := hide hbq
          have HBq := hide hBq
          cases gk with
          | succ g =>
            have hkn : k < D0.ws.length := by omega
            have hki : (k : Int) < (D0.ws.length : Int) := by omega
            have ck := Blk.cell hBq k
            have hl : k < (pc (foursK D0.ws.length k)).length := by rw [pc_len, foursK_len (by omega)]; exact hkn
            rw [List.getElem?_eq_getElem hl] at ck
            generalize (pc (foursK D0.ws.length k))[k] = old at ck
            have fk := Blk.frozen hBq k
            clear hbq hBq hl
            go_wp2
            go_roundg g
            case measure => omega
            case rel =>
              refine ⟨k + 1, by omega, by go_num, HBQ.out.setCell (p := ⟨w7.heap.size, k, none⟩) (Nat.le_refl _) _, ?_⟩
              have := Blk.set HBq.out k (.int .u8 4)
              rw [← foursK_set hkn]
              unfold pc at this ⊢
              rw [List.map_set]
              exact this
          | zero =>
            obtain rfl : k = D0.ws.length := by omega
            rw [foursK_end] at hBq
            have hbs2 := HB.out.size
            have hbq2 := hbq.size
            -- what is picked
            have hpk : Sl wr (.slice (some ⟨w7.heap.size, 0, none⟩) D0.ws.length D0.ws.length) (List.replicate D0.ws.length 4) := by
              have := sl_of_range (cap := D0.ws.length) (hBq.range 0 _ (fun j _ => by rw [Nat.zero_add])) (fours_ok _) (by simp) (by unfold maxLen; omega)
              simpa using this
            have hdq : Dev wr b (fun k => w.heap.size ≤ k ∧ k < w4.heap.size) D0 := (HDB6.out.below HB.out).below hbq
            have hdc : Dev wr c (fun k => w4.heap.size ≤ k ∧ k < w5.heap.size) D0 := ((HDC.out.below HB6.out).below HB.out).below hbq
            have HCr := hide (crash_ok wr b _ D0 _ _ hdq hpk (fun k hk h => by simp [Value.ownBlock] at hk; omega))
            have hos := ownsRow_only HOs.out (Only.of_below (fun _ => False) hbq) (fun _ _ h => h)
            have ho1 := ownsRow_only (ownsRow_only HO6.out (Only.of_below (fun _ => False) HB.out) (fun _ _ h => h)) (Only.of_below (fun _ => False) hbq) (fun _ _ h => h)
            have HDcq := hide hdc
            have HShq := hide hos
            have HStq := hide ho1
            have HWq : Hid (Below w.heap.size w wr) := below_then (below_then (below_then HW5.out HB6.out (Nat.le_refl _)) HB.out (Nat.le_refl _)) hbq (Nat.le_refl _)
            have KS1 : Hid (∀ (w9 w10 w11 : World) (u2 : Value), w11.ownsRow w10.heap.size 5 1 u2 ((crashD D0 (List.replicate D0.ws.length 4)).st.length * 256) (pc (imgS (crashD D0 (List.replicate D0.ws.length 4)).st)) → Sl w11 u2 (imgS st')) := by
              intro _ _ _ u2 ho
              have e : (crashD D0 (List.replicate D0.ws.length 4)).st = st' := HFull.out
              rw [e] at ho
              exact sl_of_own ho (imgS_ok HSO.out) rfl
            have KS2 : Hid (∀ (w9 w10 w11 : World), Only (fun k => w.heap.size ≤ k ∧ k < w4.heap.size) wr w9 → Only (fun k => w4.heap.size ≤ k ∧ k < w5.heap.size) w9 w10 → Below w10.heap.size w10 w11 → Sl w11 (.slice ai (8 * 256) ci) (imgS st')) := by
              intro w9 w10 w11 o9 o10 b11
              have hlow : ∀ k, (Value.slice ai (8 * 256) ci).ownBlock = some k → w6.heap.size ≤ k := fun k hk => (hos.lt k hk).1
              exact sl_of_own (ownsRow_only (ownsRow_only (ownsRow_only hos o9 (fun k hk h => by have := hlow k hk; omega)) o10 (fun k hk h => by have := hlow k hk; omega)) (Only.of_below (fun _ => False) b11) (fun _ _ h => h)) (imgS_ok HSO.out) rfl
            have KS3 : Hid (∀ (w12 w13 : World) (u3 : Value), w13.ownsRow w12.heap.size 5 1 u3 ((crashD D0 []).st.length * 256) (pc (imgS (crashD D0 []).st)) → Sl w13 u3 (imgS D0.st)) := by
              intro _ _ u3 ho
              have e : (crashD D0 []).st = D0.st := crashK_none _ _ _
              rw [e] at ho
              exact sl_of_own ho (imgS_ok HOK.out.st) rfl
            have KS4 : Hid (∀ (w9 w10 w11 w12 w13 : World), Only (fun k => w.heap.size ≤ k ∧ k < w4.heap.size) wr w9 → Only (fun k => w4.heap.size ≤ k ∧ k < w5.heap.size) w9 w10 → Below w10.heap.size w10 w11 → Below w11.heap.size w11 w12 → Below w12.heap.size w12 w13 → Sl w13 u1 (imgS D0.st)) := by
              intro w9 w10 w11 w12 w13 o9 o10 b11 b12 b13
              have hlow : ∀ k, u1.ownBlock = some k → w5.heap.size ≤ k := fun k hk => (ho1.lt k hk).1
              have := sl_of_own (ownsRow_only (ownsRow_only ho1 o9 (fun k hk h => by have := hlow k hk; omega)) o10 (fun k hk h => by have := hlow k hk; omega)) (imgS_ok HOK.out.st) rfl
              exact ((this.below b11).below b12).below b13
            clear hpk hdq hdc hos ho1 hbq hBq HBQ HBq HO8 HG8
            go_wp2_with (first
              | (go_at_call 17; refine HCr.out.mono ?_; rintro e w9 ⟨rfl, hd9, ho9⟩; have HD9 := hide hd9; have HO9 := hide ho9; have HDc9 := hide (HDcq.out.keep ho9 (fun k hk h => by omega)); have hs9 := ho9.size; clear HCr hd9 ho9 HDcq)
              | (go_at_call 17; refine (crash_ok w9 c _ D0 (.slice none 0 0) [] HDc9.out (Sl.nil w9) (fun k hk => by cases hk)).mono ?_; rintro e w10 ⟨rfl, hd10, ho10⟩; have HDc10 := hide hd10; have HO10 := hide ho10; have HDb10 := hide (HD9.out.keep ho10 (fun k hk h => by omega)); have hs10 := ho10.size; clear hd10 ho10 HDc9 HD9)
              | (go_at_call 19; refine (image_any w10 b _ _ HDb10.out).mono ?_; rintro e w11 ⟨u2, rfl, ho11, hb11⟩; have HI11 := hide ho11; have HB11 := hide hb11; have hs11 := hb11.size; clear ho11 hb11 HDb10)
              | (go_at_call 18; refine (refSame_any w11 _ _ (imgS st') (imgS st') (KS1.out w9 w10 w11 u2 HI11.out) (KS2.out w9 w10 w11 HO9.out HO10.out HB11.out)).mono ?_; rw [decide_eq_true rfl]; rintro e w12 ⟨rfl, hb12⟩; have HB12 := hide hb12; have HDc12 := hide ((HDc10.out.below HB11.out).below hb12); have hs12 := hb12.size; clear hb12 HDc10 KS1 KS2)
              | (go_at_call 19; refine (image_any w12 c _ _ HDc12.out).mono ?_; rintro e w13 ⟨u3, rfl, ho13, hb13⟩; have HI13 := hide ho13; have HB13 := hide hb13; clear ho13 hb13 HDc12)
              | (go_at_call 18; refine (refSame_any w13 _ _ (imgS D0.st) (imgS D0.st) (KS3.out w12 w13 u3 HI13.out) (KS4.out w9 w10 w11 w12 w13 HO9.out HO10.out HB11.out HB12.out HB13.out)).mono ?_; rw [decide_eq_true rfl]; rintro e w14 ⟨rfl, hb14⟩))
            go_ret
            have o9 := HWq.out.trans (HO9.out.below HWq.out.size (fun k hk h => by omega))
            have o10 := o9.trans (HO10.out.below o9.size (fun k hk h => by omega))
            exact ⟨rfl, below_then (below_then (below_then (below_then o10 HB11.out (Nat.le_refl _)) HB12.out (Nat.le_refl _)) HB13.out (Nat.le_refl _)) hb14 (Nat.le_refl _)⟩
      | succ g =>
        have hk8 : k < 8 := by omega
        have hki : (k : Int) < 8 := by omega
        have HRd := read_ok wr b _ D0 k (HDB6.out.below hb) (by rw [HST8.out]; exact hk8) HC0.out.off
        rw [← HSH.out k] at HRd
        have HRd := hide HRd
        have hpk : PageOk (sAt st' k) := by rw [sAt_lt (by rw [HSL.out]; exact hk8)]; exact HSO.out _ (List.getElem_mem _)
        have HPK := hide hpk
        obtain ⟨ai, ci, rfl⟩ := own_form' hown
        have HAP : Hid (∀ w1, Below wr.heap.size wr w1 → Blk w1 wr.heap.size 73 (pc (sAt st' k)) → ∃ v1 w2, (Builtin.append_ #[33, 33] 33 #[.slice ai (k * 256) ci, .slice (some ⟨wr.heap.size, 0, none⟩) 256 256]).run Try.prog w1 = .ok v1 w2 ∧ w2.ownsRow w6.heap.size 5 1 v1 ((k + 1) * 256) (pc (imgS (st'.take (k + 1)))) ∧ Below w6.heap.size w6 w2) := by
          intro w1 hb1 hB1
          have hS1 := sl_page hB1 hpk
          have ho1 := ownsRow_only hown (Only.of_below (fun _ => False) hb1) (fun _ _ h => h)
          have hb1' : Below w6.heap.size w6 w1 := below_then hb hb1 (Nat.le_refl _)
          obtain ⟨v1, w2, hr, ho2, hg2, _⟩ := run_append_sl (P := Try.prog) w1 w6.heap.size 33 33 5 i0 Try.underlying33 HI.out HI0.out HI1.out HI2.out _ _ _ ho1 _ _ _ _ hS1 (by rw [hpk.1]; omega) hb1'.size
          refine ⟨v1, w2, hr, ?_, hb1'.grown hg2 hb1'.size (fun j hj => (ho1.lt j hj).1)⟩
          rw [imgS_take st' (by rw [HSL.out]; exact hk8)]
          rw [hpk.1, show k * 256 + 256 = (k + 1) * 256 by omega] at ho2
          have e : pc (imgS (st'.take k) ++ sAt st' k) = pc (imgS (st'.take k)) ++ (sAt st' k).map (Value.int .u8) := by simp [pc]
          rw [e]
          exact ho2
        clear hown hb hpk
        go_wp2_with (first
          | (go_at_call 23; refine HRd.out.mono ?_; rintro e w1 ⟨rfl, hB1, hb1⟩; obtain ⟨v1, w2, hr, ho2, hb2⟩ := HAP.out w1 hb1 hB1; have HR := hide hr; have HO2 := hide ho2; have HB2 := hide hb2; clear HRd HAP hr ho2 hb2 hB1 hb1)
          | (at_builtin; refine wpList_append_run _ rfl (.tmp 66) (.tmp 67) 33 rfl _ _ rfl rfl _ _ HR.out ?_))
        go_roundg g
        case measure => omega
        case rel => exact ⟨k + 1, by omega, by go_num, HB2.out, HO2.out⟩

end Go.Proofs.Ytofpngmabjpfhaa
