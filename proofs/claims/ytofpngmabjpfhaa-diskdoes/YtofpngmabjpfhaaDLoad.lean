/- Contract: an image is made stable (Load). -/
import Derived.Test.YtofpngmabjpfhaaDTell
namespace Go.Proofs.Ytofpngmabjpfhaa
open Go.RowKit
set_option linter.unusedVariables false

/-- 'copy' of the first bytes of a slice that is read into bytes that are there -/
theorem run_copy_first {P : Program} (w : World) (t ty e : TypeId) (ht : P.underlying t = some (.slice e)) (hsz : (P.info? e).map (·.size) = some 1) (g o dLen dCap : Nat) (ao : Option Addr) (sLen sCap : Nat) (zs : List Int) (S : Sl w (.slice ao sLen sCap) zs) (hth : w.there g o (zs.take dLen).length) :
    (Builtin.copy_ #[t, t] ty #[.slice (some ⟨g, o, none⟩) dLen dCap, .slice ao sLen sCap]).run P w = .ok (.int .i64 ((zs.take dLen).length : Nat)) (w.setCells g o (pc (zs.take dLen))) := by
  have hn : sLen = zs.length := by obtain ⟨_, ao', cap', he, _⟩ := S; simp at he; exact he.2.1
  subst hn
  have hl : (zs.take dLen).length = Nat.min zs.length dLen := by rw [List.length_take]; exact Nat.min_comm _ _
  by_cases h0 : (zs.take dLen).length = 0
  · have := run_copy_none (P := P) w t t ty e (some ⟨g, o, none⟩) ao dLen dCap zs.length sCap ht hsz (by rw [← hl]; exact h0)
    rw [this, h0, List.eq_nil_of_length_eq_zero h0]
    rfl
  · have hz : 0 < zs.length := by rw [List.length_take] at h0; omega
    obtain ⟨ad, rfl, hs⟩ := S.src hz
    have := run_copy_cells (P := P) w t t ty e g o dLen dCap ad zs.length sCap (pc (zs.take dLen)) ht hsz (by rw [pc_len]; exact hl)
      (fun j v hj => hs j v (by
        unfold pc at hj
        rw [List.getElem?_map] at hj ⊢
        rw [List.getElem?_take] at hj
        split at hj
        · exact hj
        · simp at hj))
      (fun j hj => (hth j (by rw [pc_len] at hj; exact hj)).1) (fun j hj => (hth j (by rw [pc_len] at hj; exact hj)).2) (pc_one _)
    rw [this, pc_len]
    rfl

def pageOf (zs : List Int) (k : Nat) : List Int := (zs.drop (k * 256)).take 256
def loadK (st : List (List Int)) (zs : List Int) : Nat → List (List Int)
  | 0 => st
  | k + 1 => (loadK st zs k).set k (pageOf zs k)
def loadD (d : Dv) (zs : List Int) : Dv := ⟨loadK d.st zs d.st.length, [], false, none, d.done⟩
theorem pageOf_ok {zs : List Int} {n k : Nat} (hl : zs.length = n * 256) (hk : k < n) (hb : ByteOk zs) : PageOk (pageOf zs k) := by
  refine ⟨?_, (hb.drop _).take _⟩
  unfold pageOf
  rw [List.length_take, List.length_drop, hl]; omega
theorem loadK_len (st : List (List Int)) (zs : List Int) : ∀ k, (loadK st zs k).length = st.length
  | 0 => rfl
  | k + 1 => by rw [loadK, List.length_set, loadK_len st zs k]
theorem loadK_ok {st : List (List Int)} {zs : List Int} (h : ∀ r ∈ st, PageOk r) (hl : zs.length = st.length * 256) (hb : ByteOk zs) : ∀ k, k ≤ st.length → ∀ r ∈ loadK st zs k, PageOk r
  | 0, _ => h
  | k + 1, hk => by
    have ih := loadK_ok h hl hb k (by omega)
    intro r hr
    rw [loadK] at hr
    rcases List.mem_or_eq_of_mem_set hr with h1 | rfl
    · exact ih r h1
    · exact pageOf_ok hl (by omega) hb
theorem loadD_ok {d : Dv} (h : DvOk d) {zs : List Int} (hl : zs.length = d.st.length * 256) (hb : ByteOk zs) : DvOk (loadD d zs) :=
  ⟨by show 0 < (loadK _ _ _).length; rw [loadK_len]; exact h.pos, by show (loadK _ _ _).length ≤ 2048; rw [loadK_len]; exact h.few, loadK_ok h.st hl hb _ (Nat.le_refl _), (fun x hx => by cases hx), (fun n hn => by cases hn)⟩

theorem load_arg (w : World) (b : Nat) (F : Nat → Prop) (d : Dv) (v : Value) (zs : List Int) (h : Dev w b F d) (hS : Sl w v zs) (hl : zs.length ≠ d.st.length * 256) :
    Calls Try.prog 27 #[dp b, v] w fun e w' => e = .returned (.int .i64 1) ∧ w' = w := by
  have HM := hide (made_dev w b F d h)
  obtain ⟨ao, cp, rfl⟩ := sl_form' hS
  obtain ⟨sb, cap, mb, vw, lf, D, h⟩ := h
  have c0 := h.blk.c0
  have hfew := h.ok.few
  have hne : ((zs.length : Int) == (d.st.length : Int) * 256) = false := by simp; omega
  clear h hS hl
  go_enter Try.func27, Try.ntmps27
  go_wp2_with (go_at_call 39; refine HM.out.mono ?_; rintro e w1 ⟨rfl, hw⟩; subst w1; clear HM)
  go_ret
  exact ⟨rfl, rfl⟩

set_option maxHeartbeats 2000000 in
theorem load_ok (w : World) (b : Nat) (F : Nat → Prop) (d : Dv) (v : Value) (zs : List Int) (h : Dev w b F d) (hS : Sl w v zs) (hl : zs.length = d.st.length * 256) (hv : ∀ k, v.ownBlock = some k → ¬ F k) :
    Calls Try.prog 27 #[dp b, v] w fun e w' => e = .returned (.int .i64 0) ∧ Dev w' b F (loadD d zs) ∧ Only F w w' := by
  have HM := hide (made_dev w b F d h)
  obtain ⟨ao, cp, rfl⟩ := sl_form' hS
  have hcp := (sl_cap hS).2
  obtain ⟨sb, cap, mb, vw, lf, D, h⟩ := h
  have c0 := h.blk.c0
  have hfew := h.ok.few
  have hm : (d.st.length : Int) * 256 = (zs.length : Int) := by omega
  have HX := hide h
  have HS := hide hS
  have HV := hide hv
  have HL := hide hl
  have hlen := own_len h.st
  have hmax : maxLen = 9223372036854775807 := rfl
  rw [hmax] at hlen hcp
  have hzle : zs.length ≤ 524288 := by omega
  clear h hS hv hmax hl
  go_enter Try.func27, Try.ntmps27
  go_wp2_with (go_at_call 39; refine HM.out.mono ?_; rintro e w1 ⟨rfl, hw⟩; subst w1; clear HM)
  clear c0
  go_loopg [25] d.st.length (fun g i wr => ∃ k : Nat, g + k = d.st.length ∧ i = .int .i64 k ∧ Only (fun j => j = sb) w wr ∧ wr.ownsRow 0 73 256 (.slice (some ⟨sb, 0, none⟩) d.st.length cap) d.st.length (flatS (loadK d.st zs k)))
  case atStart => exact ⟨0, by omega, rfl, Only.refl _ _, HX.out.st⟩
  case round =>
    obtain ⟨k, hk, rfl, ho, hst⟩ := hrel
    have hX := HX.out
    have hBr : DiskB wr b _ _ _ _ _ _ _ := hX.blk.only ho (Ne.symm hX.sb_ne)
    have HO := hide ho
    have HST := hide hst
    cases gk with
    | zero =>
      obtain rfl : k = d.st.length := by omega
      have HR := hide (restart_dev wr b F sb cap mb _ _ _ _ D _ (loadD d zs) (loadD_ok hX.ok HL.out HS.out.bytes) rfl rfl rfl (by show DiskB wr b (.slice _ (loadK d.st zs d.st.length).length cap) _ _ _ _ _ _; rw [loadK_len]; exact hBr)
        (by show wr.ownsRow 0 _ 256 (.slice _ (loadK d.st zs d.st.length).length cap) (loadK d.st zs d.st.length).length _; rw [loadK_len]; exact hst)
        (ownsMap_only hX.map ho hX.mb_ne.2.1) hX.fb hX.fs hX.fm ⟨hX.mb_ne.1, hX.mb_ne.2.1⟩ hX.sb_ne)
      have HF : Hid (Only F w wr) := ho.mono (fun j _ e => by rw [e]; exact hX.fs)
      have HFF : Hid (∀ j, j = b ∨ j = mb → F j) := fun j hj => by rcases hj with rfl | rfl; exact hX.fb; exact hX.fm
      clear hX hBr hst ho
      go_wp2_with (go_at_call 45; refine HR.out.mono ?_; rintro e w4 ⟨rfl, hd4, ho4⟩; clear HR)
      go_ret
      exact ⟨rfl, hd4, HF.out.trans ho4 (fun j _ hj => HFF.out j hj)⟩
    | succ g =>
      have hkl : k < d.st.length := by omega
      have hki : (k : Int) < (d.st.length : Int) := by omega
      have hstl := loadK_len d.st zs k
      have hsok := loadK_ok hX.ok.st HL.out HS.out.bytes k (by omega)
      have hSr := HS.out.only ho (fun j hj e => HV.out j hj (by rw [e]; exact hX.fs))
      have e1 : loadK d.st zs (k + 1) = (loadK d.st zs k).set k (pageOf zs k) := rfl
      have hpg := pageOf_ok HL.out hkl HS.out.bytes
      obtain ⟨a', c', hcut, hcs⟩ := cut_l wr ao zs cp (k * 256) hSr (by rw [HL.out]; omega)
      have hmk : (k : Int) * 256 = ((k * 256 : Nat) : Int) := by omega
      obtain ⟨K, hK⟩ : ∃ K, K = k * 256 := ⟨_, rfl⟩
      rw [← hK] at hcut hcs hmk
      have hKle : K ≤ 524288 := by omega
      have hwK : IntKind.i64.wrap (K : Int) = (K : Int) := IntWalk.i64_in _ (by omega)
      have HE1 := hide e1
      have HPG := hide hpg
      have HPK : Hid (pageOf zs k = (zs.drop K).take 256) := by show pageOf zs k = _; rw [hK]; rfl
      have HCT := hide hcut
      have HCS := hide hcs
      have HSR := hide hSr
      have HC0 : Hid (∀ wx, Only (fun _ => False) wr wx → wx.cell? ⟨b, 0, none⟩ = some (.slice (some ⟨sb, 0, none⟩) d.st.length cap)) := fun wx hh => (DiskB.only hBr hh (fun h => h)).c0
      have HOK := hide hsok
      have HSL := hide hstl
      clear hX hBr ho hst hsok hstl hSr e1 hpg hcut hcs hK
      go_wp2
      refine wp_region_only (fun _ => False) [isV (.pointer (some ⟨b, 0, none⟩)), isV (.pointer (some ⟨b, 0, none⟩)), isV (.pointer (some ⟨b, 0, none⟩)), isV (.slice (some ⟨sb, 0, none⟩) d.st.length cap), isV (.int .i64 (k : Int)), isV (.pointer (some ⟨sb, k * 256, none⟩)), isV (.slice (some ⟨sb, k * 256, none⟩) 256 256), isV (.slice ao zs.length cp), isV (.int .i64 (k : Int)), isV (.int .i64 (K : Int)), isV (.slice a' (zs.drop K).length c')] 99 43 11 (by kernel_rfl) (by kernel_rfl) (by kernel_rfl) (by kernel_rfl) rfl ?_ ?_ ?_
      · repeat (first | exact trivial | refine allStL_isV ?_)
      · refine ⟨?_, ?_, ?_, ?_, ?_, ?_, ?_, ?_, ?_, ?_, ?_, trivial⟩
        · intro a wx h
          have e0 : a.eval (.tmp 0) = .pointer (some ⟨b, 0, none⟩) := h.old 0 (by kernel_rfl)
          have hrel := h.rel
          clear h
          refine gives_by rfl a.eval rfl ?_
          generalize a.eval = ρ at *
          intro hf hc
          go_simp
          exact ⟨relM_quiet (by decide) (Only.refl _ _), rfl⟩
        · intro a wx h
          obtain ⟨v28, e28, f28⟩ := h.val 0 28 (by kernel_rfl)
          obtain rfl : v28 = .pointer (some ⟨b, 0, none⟩) := f28
          have hrel := h.rel
          clear h
          refine gives_by rfl a.eval rfl ?_
          generalize a.eval = ρ at *
          intro hf hc
          go_simp
          exact ⟨relM_quiet (by decide) (Only.refl _ _), rfl⟩
        · intro a wx h
          obtain ⟨v29, e29, f29⟩ := h.val 1 29 (by kernel_rfl)
          obtain rfl : v29 = .pointer (some ⟨b, 0, none⟩) := f29
          have hrel := h.rel
          clear h
          refine gives_by rfl a.eval rfl ?_
          generalize a.eval = ρ at *
          intro hf hc
          go_simp
          exact ⟨relM_quiet (by decide) (Only.refl _ _), rfl⟩
        · intro a wx h
          obtain ⟨v30, e30, f30⟩ := h.val 2 30 (by kernel_rfl)
          obtain rfl : v30 = .pointer (some ⟨b, 0, none⟩) := f30
          have hrel := h.rel
          clear h
          have c0x := HC0.out wx hrel
          refine gives_by rfl a.eval rfl ?_
          generalize a.eval = ρ at *
          intro hf hc
          go_simp
          exact ⟨relM_quiet (by decide) (Only.refl _ _), rfl⟩
        · intro a wx h
          have e5 : a.eval (.tmp 5) = .int .i64 (k : Int) := h.old 5 (by kernel_rfl)
          have hrel := h.rel
          clear h
          refine gives_by rfl a.eval rfl ?_
          generalize a.eval = ρ at *
          intro hf hc
          go_simp
          exact ⟨relM_quiet (by decide) (Only.refl _ _), rfl⟩
        · intro a wx h
          obtain ⟨v31, e31, f31⟩ := h.val 3 31 (by kernel_rfl)
          obtain rfl : v31 = .slice (some ⟨sb, 0, none⟩) d.st.length cap := f31
          obtain ⟨v32, e32, f32⟩ := h.val 4 32 (by kernel_rfl)
          obtain rfl : v32 = .int .i64 (k : Int) := f32
          have hrel := h.rel
          clear h
          refine gives_by rfl a.eval rfl ?_
          generalize a.eval = ρ at *
          intro hf hc
          go_simp
          exact ⟨relM_quiet (by decide) (Only.refl _ _), rfl⟩
        · intro a wx h
          obtain ⟨v33, e33, f33⟩ := h.val 5 33 (by kernel_rfl)
          obtain rfl : v33 = .pointer (some ⟨sb, k * 256, none⟩) := f33
          have hrel := h.rel
          clear h
          refine gives_by rfl a.eval rfl ?_
          generalize a.eval = ρ at *
          intro hf hc
          go_simp
          exact ⟨relM_quiet (by decide) (Only.refl _ _), rfl⟩
        · intro a wx h
          have e1 : a.eval (.tmp 1) = .slice ao zs.length cp := h.old 1 (by kernel_rfl)
          have hrel := h.rel
          clear h
          refine gives_by rfl a.eval rfl ?_
          generalize a.eval = ρ at *
          intro hf hc
          go_simp
          exact ⟨relM_quiet (by decide) (Only.refl _ _), rfl⟩
        · intro a wx h
          have e5 : a.eval (.tmp 5) = .int .i64 (k : Int) := h.old 5 (by kernel_rfl)
          have hrel := h.rel
          clear h
          refine gives_by rfl a.eval rfl ?_
          generalize a.eval = ρ at *
          intro hf hc
          go_simp
          exact ⟨relM_quiet (by decide) (Only.refl _ _), rfl⟩
        · intro a wx h
          obtain ⟨v36, e36, f36⟩ := h.val 8 36 (by kernel_rfl)
          obtain rfl : v36 = .int .i64 (k : Int) := f36
          have hrel := h.rel
          clear h
          refine gives_by rfl a.eval rfl ?_
          generalize a.eval = ρ at *
          intro hf hc
          go_simp
          exact ⟨relM_quiet (by decide) (Only.refl _ _), rfl⟩
        · intro a wx h
          obtain ⟨v35, e35, f35⟩ := h.val 7 35 (by kernel_rfl)
          obtain rfl : v35 = .slice ao zs.length cp := f35
          obtain ⟨v37, e37, f37⟩ := h.val 9 37 (by kernel_rfl)
          obtain rfl : v37 = .int .i64 (K : Int) := f37
          have hrel := h.rel
          clear h
          exact gives_of_run rfl (exec_slice_lo 33 tySl (.tmp 35) (.tmp 37) rfl _ _ _ e35 e37 (HCT.out wx)) ⟨relM_quiet (by decide) (Only.refl _ _), rfl⟩
      · intro oL hoL vals w3 ho3 hv
        simp only [List.getElem?_toArray, List.getElem?_cons_succ, List.getElem?_cons_zero, Option.some.injEq] at hoL
        subst hoL
        have hv6 : vals 6 = .slice (some ⟨sb, k * 256, none⟩) 256 256 := hv 6 34 (by decide) (by kernel_rfl)
        have hv10 : vals 10 = .slice a' (zs.drop K).length c' := hv 10 38 (by decide) (by kernel_rfl)
        clear hv
        generalize hact : putAll _ vals 0 _ = act
        have hst3 := ownsRow_only HST.out ho3 (fun _ _ h => h)
        have hsl := HCS.out w3 (HSR.out.only ho3 (fun _ _ h => h))
        have hpk := HPK.out
        have hpl := HPG.out.1
        have hth := own_there hst3 (k * 256) 256 (by omega)
        have hrun := run_copy_first (P := Try.prog) w3 33 3 5 Try.underlying33 sizeU8 sb (k * 256) 256 256 a' (zs.drop K).length c' (zs.drop K) hsl (by rw [← hpk, hpl]; exact hth)
        rw [← hpk] at hrun
        have HRUN := hide hrun
        have hst4 : (w3.setCells sb (k * 256) (pc (pageOf zs k))).ownsRow 0 73 256 (.slice (some ⟨sb, 0, none⟩) d.st.length cap) d.st.length (flatS (loadK d.st zs (k + 1))) := by
          have := own_splice hst3 (k * 256) (pc (pageOf zs k)) (by rw [pc_len, hpl]; omega) (fun cs hB hle => Blk.setMany _ _ _ hB hle)
          rw [← flatS_set HOK.out (by rw [HSL.out]; exact hkl) (pageOf zs k) hpl] at this
          rw [HE1.out]
          exact this
        have HST4 := hide hst4
        have HOW : Hid (Only (fun j => j = sb) w (w3.setCells sb (k * 256) (pc (pageOf zs k)))) := Only.setCells sb _ _ _ (HO.out.trans ho3 (fun _ _ h => h.elim)) (fun _ => rfl)
        clear hrun hst4 hth hst3 hsl ho3 hpk hpl
        subst hact
        simp only [List.dropLast, putAll, Act.put, List.setIfInBounds_toArray, List.set_cons_zero, List.set_cons_succ, hv6, hv10, Nat.zero_add, Nat.reduceAdd]
        refine gives_of_run rfl (exec_copy (.tmp 34) (.tmp 38) 33 33 rfl _ _ rfl rfl _ HRUN.out) ?_
        go_wp2
        go_roundg g
        case measure => omega
        case rel => exact ⟨k + 1, by omega, by go_num, HOW.out, HST4.out⟩

end Go.Proofs.Ytofpngmabjpfhaa
