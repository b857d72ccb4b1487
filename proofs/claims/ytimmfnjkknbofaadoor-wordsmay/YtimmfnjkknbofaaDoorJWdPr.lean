/- Contract: the way whose form bytes are. -/
import Derived.Test.YtimmfnjkknbofaaDoorJWdPo
import Derived.Test.YtimmfnjkknbofaaDoorJWdApp
import Derived.BigQuiet
namespace Go.Proofs.YtimmfnjkknbofaaDoor
set_option maxRecDepth 20000
open Go.RowKit
set_option linter.unusedVariables false
set_option linter.unusedSimpArgs false
set_option maxRecDepth 100000

theorem ret_conf {fn : Func} {p u : Tmp} (h : fn.results = #[.cell p 25, .tmp u]) (tmps : Array Value) (w : World) (b : Nat) (x0 x1 x2 er : Value) (hp : tmps.getD p undef = .pointer (some ⟨b, 0, none⟩)) (hu : tmps.getD u undef = er) (hB : Blk w b 25 [x0, x1, x2]) :
    (results fn tmps).run Tryd.prog w = .ok (.tuple #[.agg #[x0, x1, x2], er]) w := by
  rw [results_cell_tmp h, hp, hu]
  have := run_loadVar_row (P := Tryd.prog) w b 25 25 #[x0, x1, x2] (0, 0) _ hB Tryd.underlying25 rfl sizeConf
  simp only [asAddr, Sem.run_pure, Result.andThen_ok]
  rw [this]
  rfl
def prsC (zs : List Int) : Cn := (confT (zs, 0)).1
def prsB (zs : List Int) : Bool := decide (zs.length ≤ 240) && decide ((confT (zs, 0)).2 = ([], 0)) && mayC (prsC zs)
def zeroC : Cn := ⟨[], [], 0⟩
def prsR (zs : List Int) : Cn := if prsB zs = true then prsC zs else zeroC
def prsE (zs : List Int) : Int := if prsB zs = true then 0 else 140
theorem zeroC_v (w : World) : CnfV w (.agg #[.slice none 0 0, .slice none 0 0, .int .i64 0]) zeroC := ⟨none, 0, none, 0, rfl, Tbl.nil _, Strs.nil _⟩
theorem u8T_lt {s : RS} (hb : ByteOk s.1) : (u8T s).1 ≤ 255 := by
  have := numOf_lt (takeS s.1 s.2 1).1 1 (takeS_ok s.1 s.2 1 hb).1 (takeS_len s.1 s.2 1)
  show numOf _ ≤ 255
  omega
theorem u16T_lt {s : RS} (hb : ByteOk s.1) : (u16T s).1 < 65536 := numOf_lt (takeS s.1 s.2 2).1 2 (takeS_ok s.1 s.2 2 hb).1 (takeS_len s.1 s.2 2)
theorem RdK.ok {w : World} {b lim : Nat} {zs : List Int} {er : Int} (h : RdK w b lim zs er) : ByteOk zs := by
  obtain ⟨u, h1, _⟩ := h
  exact h1.2.1.bytes
theorem grown_only {w w' : World} {b : Nat} (hg : w.grownBy w' (some b)) : Only (fun j => j = b) w w' := (Only.refl _ w).grown hg (fun k e _ => (Option.some.inj e).symm)

theorem PrS.conv {W X : World} {rb lim B base : Nat} {s : RS} {vf K vs : Value} {ss : List (List Int)} {D : Nat → Bool} {vals : Nat → Value} {i : Nat} (h : PrS W rb lim B base s vf K vs ss (fun j => if j = i then true else D j) vals X) : PrS W rb lim B base s vf K vs ss (fun j => decide (j = i) || D j) vals X := by
  have e : (fun j => decide (j = i) || D j) = fun j => if j = i then true else D j := by
    funext j
    by_cases hj : j = i <;> simp [hj]
  rw [e]
  exact h
/-- behind j ranges -/
structure PfI (w : World) (lim rb B A : Nat) (s : RS) (j : Nat) (vf : Value) (X : World) : Prop where
  rd : RdK X rb lim (fdsT j s).2.1 (fdsT j s).2.2
  box : Blk X B 25 [vf, .slice none 0 0, .int .i64 (A : Int)]
  res : Blk X w.heap.size 25 [.slice none 0 0, .slice none 0 0, .int .i64 0]
  fds : FdO X (B + 1) vf (fdsT j s).1
  below : Below w.heap.size w X
  size : B + 1 ≤ X.heap.size
/-- behind k stop words -/
structure PtI (w : World) (lim rb B A base : Nat) (s : RS) (k : Nat) (vf vs : Value) (fs : List Fd) (X : World) : Prop where
  rd : RdK X rb lim (txsT k s).2.1 (txsT k s).2.2
  box : Blk X B 25 [vf, vs, .int .i64 (A : Int)]
  res : Blk X w.heap.size 25 [.slice none 0 0, .slice none 0 0, .int .i64 0]
  fds : FdO X (B + 1) vf fs
  vlt : ∀ j, vf.ownBlock = some j → j < base
  txs : SzO X base vs (txsT k s).1
  below : Below w.heap.size w X
  size : base ≤ X.heap.size
theorem conf_eq {zs : List Int} {A N Q : Nat} {sa sb sc : RS} (ha : u8T (zs, 0) = (A, sa)) (hb : u8T sa = (N, sb)) (hc : u8T (fdsT N sb).2 = (Q, sc)) : confT (zs, 0) = (⟨(fdsT N sb).1, (txsT Q sc).1, (A : Int)⟩, (txsT Q sc).2) := by
  unfold confT
  simp only [ha, hb, hc]
theorem fdT_eq {s : RS} {F T N : Nat} {ps qs rs : RS} (hp : u16T s = (F, ps)) (hq : u16T ps = (T, qs)) (hr : u8T qs = (N, rs)) : fdT s = (((F : Int), (T : Int), (N : Int) + 1), rs) := by
  unfold fdT
  rw [hp]
  simp only
  rw [hq]
  simp only
  rw [hr]

set_option maxHeartbeats 8000000 in
theorem parse_any (w : World) (v : Value) (zs : List Int) (hz : Sl w v zs) (hl : zs.length ≤ 100000) (hL : Let w) :
    Calls Tryd.prog 10 #[v] w fun e w' => ∃ u, e = .returned (.tuple #[u, .int .i64 (prsE zs)]) ∧ CnfV w' u (prsR zs) ∧ Below w.heap.size w w' := by
  obtain ⟨vo, vc, rfl⟩ := sl_form' hz
  obtain ⟨n, hn⟩ : ∃ n, zs.length = n := ⟨_, rfl⟩
  obtain ⟨W0, hW0⟩ : ∃ W0, w.alloc (.cells #[.slice none 0 0, .slice none 0 0, .int .i64 0] 25) = W0 := ⟨_, rfl⟩
  have hb0 : Below w.heap.size w W0 := by rw [← hW0]; exact (Below.refl _ w).alloc (Nat.le_refl _) _
  have hB0 : Blk W0 w.heap.size 25 [.slice none 0 0, .slice none 0 0, .int .i64 0] := by rw [← hW0]; exact Blk.new w _ _
  have hs0 : W0.heap.size = w.heap.size + 1 := by rw [← hW0]; simp
  have HB0 := hide hb0
  have HBR := hide hB0
  have HS0 := hide hs0
  by_cases h240 : (240 : Int) < (n : Int)
  · have hno : prsB zs = false := by unfold prsB; rw [decide_eq_false (by omega)]; rfl
    have e1 : prsE zs = 140 := by unfold prsE; rw [hno]; rfl
    have e2 : prsR zs = zeroC := by unfold prsR; rw [hno]; rfl
    rw [e1, e2, hn]
    have k0 : W0.cell? ⟨w.heap.size, 0, none⟩ = some (.slice none 0 0) := hB0.cell 0
    have k1 : W0.cell? ⟨w.heap.size, 1, none⟩ = some (.slice none 0 0) := hB0.cell 1
    have k2 : W0.cell? ⟨w.heap.size, 2, none⟩ = some (.int .i64 0) := hB0.cell 2
    have f0 := hB0.frozen 0
    have f1 := hB0.frozen 1
    have f2 := hB0.frozen 2
    clear hz hn hb0 hB0 hs0 hno e1 e2 hL
    go_enter Tryd.func10, Tryd.ntmps10
    go_wp2
    have hr1 := ((HBR.out.set 0 (.slice none 0 0)).set 1 (.slice none 0 0)).set 2 (.int .i64 0)
    have hoR : Only (· = w.heap.size) W0 (((W0.setCell ⟨w.heap.size, 0, none⟩ (.slice none 0 0)).setCell ⟨w.heap.size, 1, none⟩ (.slice none 0 0)).setCell ⟨w.heap.size, 2, none⟩ (.int .i64 0)) := (((Only.refl (· = w.heap.size) W0).setCell _ _ (fun _ => rfl)).setCell _ _ (fun _ => rfl)).setCell _ _ (fun _ => rfl)
    refine bodyPost_ret (ret_conf rfl _ _ w.heap.size _ _ _ _ rfl rfl hr1) rfl ?_
    exact ⟨_, rfl, zeroC_v _, HB0.out.trans (hoR.below (by have := HS0.out; omega) (fun j hj e => by omega))⟩
  have HRD := hide (read_any W0 _ zs (hz.keep (fun k hk hlt => hb0.block k hlt)) (by omega))
  have HL0 := hide (fun W (hb : Below w.heap.size w W) => hL.below hb)
  rw [hn] at HRD ⊢
  clear hz hb0 hB0 hs0 hL
  have HN := hide hn
  clear hn
  go_enter Tryd.func10, Tryd.ntmps10
  go_wp2_with (go_at_call 29; refine HRD.out.mono ?_; rintro e w3 ⟨rb, ru, rfl, hrb, hrd, hfr, hb3⟩; have HRB := hide hrb; have HK3 : Hid (RdK w3 rb w3.heap.size zs 0) := ⟨ru, hrd, hrd.lt, fun k hk => (hrd.2.2 k hk).2⟩; have HBW3 := hide (HB0.out.trans (hb3.mono HB0.out.size)); have HBR3 := hide (HBR.out.below hb3 HBR.out.lt); clear HRD hrb hrd hfr hb3)
  clear hW0
  have HU8 : Hid (∀ (W : World) (s : RS), RdK W rb w3.heap.size s.1 s.2 → Calls Tryd.prog 30 #[.pointer (some ⟨rb, 0, none⟩)] W fun e w' => e = .returned (.int .u8 ((u8T s).1 : Int)) ∧ Only (fun j => j = rb) W w' ∧ RdK w' rb w3.heap.size (u8T s).2.1 (u8T s).2.2) := fun W s h => (u8_k h).mono fun e w' ⟨he, hg, hr⟩ => ⟨he, grown_only hg, hr⟩
  have HU16 : Hid (∀ (W : World) (s : RS), RdK W rb w3.heap.size s.1 s.2 → Calls Tryd.prog 31 #[.pointer (some ⟨rb, 0, none⟩)] W fun e w' => e = .returned (.int .u16 ((u16T s).1 : Int)) ∧ Only (fun j => j = rb) W w' ∧ RdK w' rb w3.heap.size (u16T s).2.1 (u16T s).2.2) := fun W s h => (u16_k h).mono fun e w' ⟨he, hg, hr⟩ => ⟨he, grown_only hg, hr⟩
  have hok0 : ByteOk (((zs, (0 : Int)) : RS)).1 := HK3.out.ok
  have hA255 := u8T_lt hok0
  have hB255 := u8T_lt (u8T_ok hok0)
  obtain ⟨⟨A, sa⟩, ha⟩ : ∃ a, u8T (zs, 0) = a := ⟨_, rfl⟩
  rw [ha] at hA255 hB255
  simp only at hA255 hB255
  obtain ⟨⟨N, sb⟩, hbb⟩ : ∃ b, u8T sa = b := ⟨_, rfl⟩
  rw [hbb] at hB255
  simp only at hB255
  have HA := HU8.out w3 (zs, 0) HK3.out
  rw [ha] at HA
  have HA := hide HA
  have HAS := hide ha
  have HBS := hide hbb
  have hrbl : rb < w3.heap.size := by obtain ⟨_, _, h, _⟩ := HK3.out; exact h
  have HRL := hide hrbl
  clear ha hbb hok0 hrbl
  go_wp2_with (first
    | (go_at_call 30; refine HA.out.mono ?_; rintro e w4 ⟨rfl, ho, hr⟩
       obtain ⟨W5, hW5⟩ : ∃ W5, w4.alloc (.cells #[.slice none 0 0, .slice none 0 0, .int .i64 (A : Int)] 25) = W5 := ⟨_, rfl⟩
       have hoA : Only (fun _ => False) w4 W5 := by rw [← hW5]; exact (Only.refl _ w4).alloc _
       have HO5 : Hid (Only (fun j => j = rb) w3 W5) := ho.trans hoA (fun _ _ h => h.elim)
       have HBX5 : Hid (Blk W5 w4.heap.size 25 [.slice none 0 0, .slice none 0 0, .int .i64 (A : Int)]) := by rw [← hW5]; exact Blk.new w4 _ _
       have HS5 : Hid (W5.heap.size = w4.heap.size + 1 ∧ w3.heap.size ≤ w4.heap.size) := ⟨by rw [← hW5]; simp, ho.size⟩
       have HB := HU8.out W5 sa (hr.only hoA (fun _ _ h => h))
       rw [HBS.out] at HB
       have HB := hide HB
       clear HA ho hr hoA)
    | (go_at_call 30; refine HB.out.mono ?_; rintro e w6 ⟨rfl, ho, hr⟩; have HO6 : Hid (Only (fun j => j = rb) w3 w6) := HO5.out.trans ho (fun _ _ h => h); have HP6 : Hid (PfI w w3.heap.size rb w4.heap.size A sb 0 (.slice none 0 0) w6) := ⟨hr, HBX5.out.only ho (fun e => by have := HS5.out.2; have := HRL.out; omega), HBR3.out.only HO6.out (fun e => by have := HRB.out; have := HS0.out; omega), FdO.nil _ _, HBW3.out.trans (HO6.out.below HBW3.out.size (fun k hk e => by have := HRB.out; have := HS0.out; omega)), by have := HS5.out.1; have := ho.size; omega⟩; clear HB ho hr))
  clear hW5
  go_loopg [21] N (fun g l21 wr => ∃ (j : Nat) (fo : Option Addr) (fc : Nat), g + j = N ∧ l21 = .int .u8 (j : Int) ∧ PfI w w3.heap.size rb w4.heap.size A sb j (.slice fo j fc) wr)
  case atStart => exact ⟨0, none, 0, by omega, rfl, HP6.out⟩
  case round =>
    obtain ⟨j, fo, fc, hg, rfl, hI⟩ := hrel
    have HI := hide hI
    have HG : Hid (gk + j = N) := hg
    obtain ⟨GK, hGK⟩ : ∃ x, gk = x := ⟨_, rfl⟩
    have HGK := hide hGK
    obtain ⟨WR, hWR⟩ : ∃ y, y = wr := ⟨_, rfl⟩
    subst hWR
    clear hI hGK
    by_cases hj : j < N
    · have hjj : (j : Int) < (N : Int) := by omega
      have hok := HI.out.rd.ok
      have hF := u16T_lt hok
      have hT := u16T_lt (u16T_ok hok)
      have hM := u8T_lt (u16T_ok (u16T_ok hok))
      have HP := HU16.out WR (fdsT j sb).2 HI.out.rd
      obtain ⟨⟨F, ps⟩, hp⟩ : ∃ p, u16T (fdsT j sb).2 = p := ⟨_, rfl⟩
      rw [hp] at hF hT hM HP
      simp only at hF hT hM HP
      obtain ⟨⟨T, qs⟩, hq⟩ : ∃ p, u16T ps = p := ⟨_, rfl⟩
      rw [hq] at hT hM
      simp only at hT hM
      obtain ⟨⟨M, rs⟩, hr⟩ : ∃ p, u8T qs = p := ⟨_, rfl⟩
      rw [hr] at hM
      simp only at hM
      have HP := hide HP
      have HQ0 := hide hq
      have HR0 := hide hr
      have HX := hide (fdT_eq hp hq hr)
      have HBl : Hid (w3.heap.size ≤ w4.heap.size) := HS5.out.2
      clear hok hp hq hr
      go_wp2_with (first
        | (go_at_call 31; refine HP.out.mono ?_; rintro e w7 ⟨rfl, ho, hr⟩; have HO7 := hide ho; have HQ := HU16.out w7 ps hr; rw [HQ0.out] at HQ; have HQ := hide HQ; clear HP ho hr)
        | (go_at_call 31; refine HQ.out.mono ?_; rintro e w8 ⟨rfl, ho, hr⟩; have HO8 := hide (HO7.out.trans ho (fun _ _ h => h)); have HR := HU8.out w8 qs hr; rw [HR0.out] at HR; have HR := hide HR; clear HQ ho hr)
        | (go_at_call 30; refine HR.out.mono ?_; rintro e w9 ⟨rfl, ho, hr⟩
           have HO9 : Hid (Only (fun j => j = rb) WR w9) := HO8.out.trans ho (fun _ _ h => h)
           have HK9 := hide hr
           have hbx := HI.out.box.only HO9.out (fun e => by have := HBl.out; have := HRL.out; omega)
           have d0 : w9.cell? ⟨w4.heap.size, 0, none⟩ = some (.slice fo j fc) := hbx.cell 0
           obtain ⟨ao, ac, w10, hr10, ho10, hoo⟩ := push_fd w9 (w4.heap.size + 1) _ _ (HI.out.fds.only HO9.out (fun k hk e => by have := (HI.out.fds.lt k hk).1; have := HBl.out; have := HRL.out; omega)) ((F : Int), (T : Int), (M : Int) + 1) (by unfold FdOk I32; simp only; omega) (by rw [fdsT_len]; omega) (Nat.le_trans HI.out.size HO9.out.size)
           rw [fdsT_len] at hr10 ho10
           have HR10 := hide hr10
           have HF10 := hide ho10
           have hbx10 := hbx.only hoo (fun e => by have := (HI.out.fds.lt _ e).1; omega)
           have HBX10 := hide hbx10
           have d10 : w10.cell? ⟨w4.heap.size, 0, none⟩ = some (.slice fo j fc) := hbx10.cell 0
           have f10 := hbx10.frozen 0
           have HOO := hide hoo
           clear HR ho hr hr10 ho10 hbx hbx10 hoo)
        | (at_builtin; (with_reducible refine wpList_append_run _ rfl (.tmp 30) (.tmp 39) 22 rfl _ _ ?_ ?_ _ _ HR10.out ?_); exact rfl; exact rfl; clear HR10))
      go_roundg (GK - 1)
      case measure => have := HGK.out; have := HG.out; omega
      case rel =>
        have hoB : Only (fun k => k = w4.heap.size) w10 (w10.setCell ⟨w4.heap.size, 0, none⟩ (.slice ao (j + 1) ac)) := (Only.refl _ w10).setCell _ _ (fun _ => rfl)
        have hoA : Only (fun k => k = rb ∨ w4.heap.size ≤ k) WR (w10.setCell ⟨w4.heap.size, 0, none⟩ (.slice ao (j + 1) ac)) := ((HO9.out.mono (T := fun k => k = rb ∨ w4.heap.size ≤ k) (fun _ _ e => .inl e)).trans HOO.out (fun k _ e => .inr (by have := (HI.out.fds.lt k e).1; omega))).trans hoB (fun k _ e => .inr (by omega))
        refine ⟨j + 1, ao, ac, by have := HGK.out; have := HG.out; omega, by go_num, ?_, HBX10.out.set 0 _, HI.out.res.only hoA (fun e => by have := HRB.out; have := HS0.out; have := HBW3.out.size; have := HBl.out; have := HI.out.res.lt; have := HRL.out; rcases e with e | e <;> omega), ?_, HI.out.below.trans (hoA.below HI.out.below.size (fun k hk e => by have := HRB.out; have := HS0.out; have := HBl.out; have := HRL.out; rcases e with e | e <;> omega)), by have := HI.out.size; have := hoA.size; omega⟩
        · rw [show fdsT (j + 1) sb = ((fdsT j sb).1 ++ [(fdT (fdsT j sb).2).1], (fdT (fdsT j sb).2).2) from rfl, HX.out]
          exact (HK9.out.only HOO.out (fun k hk e => by have := (HI.out.fds.lt k e).1; have := HBl.out; omega)).only hoB (fun k hk e => by have := HBl.out; omega)
        · rw [show fdsT (j + 1) sb = ((fdsT j sb).1 ++ [(fdT (fdsT j sb).2).1], (fdT (fdsT j sb).2).2) from rfl, HX.out]
          exact HF10.out.only hoB (fun k hk e => by have := (HF10.out.lt k hk).1; omega)
    · obtain rfl : j = N := by omega
      have HC0 := HU8.out WR (fdsT j sb).2 HI.out.rd
      have hQ255 := u8T_lt HI.out.rd.ok
      obtain ⟨⟨Q, sc⟩, hc⟩ : ∃ c, u8T (fdsT j sb).2 = c := ⟨_, rfl⟩
      rw [hc] at hQ255 HC0
      simp only at hQ255 HC0
      have HC0 := hide HC0
      have HCS := hide hc
      have HBl : Hid (w3.heap.size ≤ w4.heap.size) := HS5.out.2
      clear hc
      go_wp2_with (go_at_call 30; refine HC0.out.mono ?_; rintro e w11 ⟨rfl, ho, hr⟩; have HO11 := hide ho; have HK11 := hide hr; clear HC0 ho hr)
      have HBB : Hid (w4.heap.size < w11.heap.size) := Nat.lt_of_lt_of_le HI.out.size HO11.out.size
      have HT0 : Hid (PtI w w3.heap.size rb w4.heap.size A w11.heap.size sc 0 (.slice fo j fc) (.slice none 0 0) (fdsT j sb).1 w11) := by
        refine ⟨HK11.out, HI.out.box.only HO11.out (fun e => by have := HBl.out; have := HRL.out; omega), HI.out.res.only HO11.out (fun e => by have := HRB.out; have := HS0.out; omega), HI.out.fds.only HO11.out (fun k hk e => by have := (HI.out.fds.lt k hk).1; have := HBl.out; have := HRL.out; omega), fun k hk => Nat.lt_of_lt_of_le (HI.out.fds.lt k hk).2 HO11.out.size, SzO.nil _ _, HI.out.below.trans (HO11.out.below HI.out.below.size (fun k hk e => by have := HRB.out; have := HS0.out; omega)), Nat.le_refl _⟩
      go_loopg [45] Q (fun g l45 wr => ∃ (k : Nat) (so : Option Addr) (sp : Nat), g + k = Q ∧ l45 = .int .u8 (k : Int) ∧ PtI w w3.heap.size rb w4.heap.size A w11.heap.size sc k (.slice fo j fc) (.slice so k sp) (fdsT j sb).1 wr)
      case atStart => exact ⟨0, none, 0, by omega, rfl, HT0.out⟩
      case round =>
        obtain ⟨k, so, sp, hg, rfl, hI⟩ := hrel
        have HT := hide hI
        have HG : Hid (gk + k = Q) := hg
        obtain ⟨GK, hGK⟩ : ∃ x, gk = x := ⟨_, rfl⟩
        have HGK := hide hGK
        obtain ⟨WT, hWT⟩ : ∃ y, y = wr := ⟨_, rfl⟩
        subst hWT
        clear hI hGK
        by_cases hk : k < Q
        · have hkk : (k : Int) < (Q : Int) := by omega
          have hok := HT.out.rd.ok
          obtain ⟨s, hs0⟩ : ∃ s, (txsT k sc).2 = s := ⟨_, rfl⟩
          obtain ⟨ss, hss⟩ : ∃ ss, (txsT k sc).1 = ss := ⟨_, rfl⟩
          have hsl : ss.length = k := by rw [← hss, txsT_len]
          have HRD2 : Hid (RdK WT rb w3.heap.size s.1 s.2) := by have := HT.out.rd; rw [hs0] at this; exact this
          have HSZ2 : Hid (SzO WT w11.heap.size (.slice so k sp) ss) := by have := HT.out.txs; rw [hss] at this; exact this
          rw [hs0] at hok
          have HZ := hide (txtT_ok hok)
          have HTX : Hid (∀ X, RdK X rb w3.heap.size s.1 s.2 → w3.heap.size ≤ X.heap.size → Calls Tryd.prog 32 #[.pointer (some ⟨rb, 0, none⟩), .int .i64 24] X fun e w' => ∃ v, e = .returned v ∧ w'.ownsRow X.heap.size 5 1 v (txtT s).1.length ((txtT s).1.map (Value.int .u8)) ∧ X.grownBy w' (some rb) ∧ RdK w' rb w3.heap.size (txtT s).2.1 (txtT s).2.2) := fun X h hl => text_k h 24 hl
          have HLW : Hid (w3.heap.size ≤ WT.heap.size) := Nat.le_trans HBl.out (Nat.le_trans (Nat.le_of_lt HBB.out) HT.out.size)
          have HVS : Hid (∀ q, (Value.slice so k sp).ownBlock = some q → w11.heap.size ≤ q ∧ q < WT.heap.size) := fun q hq => HSZ2.out.lt q hq
          have HSL := hide hsl
          have HSQ := hide hs0
          have HSS := hide hss
          clear hok hs0 hss hsl
          go_wp2
          refine wp_region_set [some (.pointer (some ⟨w4.heap.size, 1, none⟩)), some (.slice so k sp), some (.pointer (some ⟨rb, 0, none⟩)), none, none, none, none, some (.pointer (some ⟨w4.heap.size, 1, none⟩)), none] [3, 4, 5, 6, 8] (PrS WT rb w3.heap.size w4.heap.size w11.heap.size s (.slice fo j fc) (.int .i64 (A : Int)) (.slice so k sp) ss) 66 (by kernel_rfl) (by kernel_rfl) (by kernel_rfl) (by kernel_rfl) rfl ?_ ?_ ?_ ?_
          · exact fun vals0 => ⟨(Only.refl _ WT).drew, by simpa using HRD2.out.only ((Only.refl (fun _ => False) WT).drew) (fun _ _ h => h), (fun h => by cases h), (fun h => by cases h), (fun h => by cases h), fun _ => HSZ2.out.only ((Only.refl (fun _ => False) WT).drew) (fun _ _ h => h), (fun h => by cases h), by simpa using HT.out.box.drew⟩
          · exact fun D D' vals vals' X hv hs => hs.ind hv
          · refine ⟨?_, ?_, ?_, ?_, ?_, ?_, ?_, ?_, ?_, trivial⟩
            · intro D vals act wx hu h hs
              have e5 : act.eval (.tmp 5) = .pointer (some ⟨w4.heap.size, 0, none⟩) := h.old 5 (by kernel_rfl)
              clear h
              refine gives_by rfl act.eval rfl ?_
              generalize act.eval = ρ at *
              intro hf hc
              go_simp
              exact ⟨rfl, hs⟩
            · intro D vals act wx hu h hs
              have e47 : act.eval (.tmp 47) = .pointer (some ⟨w4.heap.size, 1, none⟩) := h.q 0 47 (by kernel_rfl) rfl
              clear h
              have hbx := hs.box
              rw [show D 8 = false from (hu.not 8 (by decide) (by kernel_rfl))] at hbx
              have cx : wx.cell? ⟨w4.heap.size, 1, none⟩ = some (.slice so k sp) := hbx.cell 1
              clear hbx
              refine gives_by rfl act.eval rfl ?_
              generalize act.eval = ρ at *
              intro hf hc
              go_simp
              exact ⟨rfl, hs⟩
            · intro D vals act wx hu h hs
              have e4 : act.eval (.tmp 4) = .pointer (some ⟨rb, 0, none⟩) := h.old 4 (by kernel_rfl)
              clear h
              refine gives_by rfl act.eval rfl ?_
              generalize act.eval = ρ at *
              intro hf hc
              go_simp
              exact ⟨rfl, hs⟩
            · intro D vals act wx hu h hs
              have e49 : act.eval (.tmp 49) = .pointer (some ⟨rb, 0, none⟩) := h.q 2 49 (by kernel_rfl) rfl
              clear h
              have hrd := hs.rd
              rw [show D 3 = false from hu.self] at hrd
              simp only [Bool.false_eq_true, if_false] at hrd
              have HRDX := hide hrd
              clear hrd
              refine gives_by rfl act.eval rfl ?_
              generalize act.eval = ρ at *
              intro hf hc
              go_simp
              refine (HTX.out wx HRDX.out (Nat.le_trans HLW.out hs.only.size)).mono ?_
              rintro e wy ⟨v, rfl, ho, hgg, hr⟩
              exact ⟨v, rfl, PrS.conv <| PrS.call hs hu.self (hu.not 4 (by decide) (by kernel_rfl)) (hu.not 5 (by decide) (by kernel_rfl)) (hu.not 6 (by decide) (by kernel_rfl)) (hu.not 8 (by decide) (by kernel_rfl)) HRL.out HBl.out HBB.out ho HZ.out.2.1 hgg hr⟩
            · intro D vals act wx hu h hs
              have e50 : act.eval (.tmp 50) = vals 3 := h.val 3 50 (by kernel_rfl)
              clear h
              obtain ⟨hsl, ⟨a3, n3, c3, hv3⟩, _⟩ := hs.bytes (hu.done 3 (by kernel_rfl))
              rw [hv3] at e50 hsl
              have hcv := run_convert_sl (P := Tryd.prog) wx 26 5 9 Tryd.underlying26 Tryd.underlying5 Tryd.underlying9 _ _ hsl
              have hres := hs.str1 hu.self
              clear hsl hv3
              generalize strOfNums (txtT s).1 = sx at hcv hres
              refine gives_by rfl act.eval rfl ?_
              generalize act.eval = ρ at *
              intro hf hc
              go_simp
              exact gUpon_value rfl (PrS.conv hres)
            · intro D vals act wx hu h hs
              have e51 : act.eval (.tmp 51) = vals 4 := h.val 4 51 (by kernel_rfl)
              clear h
              rw [hs.str (hu.done 4 (by kernel_rfl))] at e51
              have hres := PrS.lit1 hs (hu.done 4 (by kernel_rfl)) hu.self (hu.not 6 (by decide) (by kernel_rfl)) (hu.not 8 (by decide) (by kernel_rfl))
              generalize strOfNums (txtT s).1 = sx at e51 hres
              refine gives_by rfl act.eval rfl ?_
              generalize act.eval = ρ at *
              intro hf hc
              go_simp
              exact gUpon_value rfl (PrS.conv hres)
            · intro D vals act wx hu h hs
              have e48 : act.eval (.tmp 48) = .slice so k sp := h.q 1 48 (by kernel_rfl) rfl
              have e52 : act.eval (.tmp 52) = vals 5 := h.val 5 52 (by kernel_rfl)
              clear h
              obtain ⟨g, hg1, hg2, hg3⟩ := hs.lit (hu.done 5 (by kernel_rfl))
              rw [hg1] at e52
              obtain ⟨ao, ac, X2, hr2, hn2, ho2⟩ := push_sz wx w11.heap.size _ ss (hs.old hu.self) _ HZ.out.2.1 g 1 hg3 (by have := HSL.out; omega) (Nat.le_trans HT.out.size hs.only.size)
              exact gives_of_run rfl (exec_appR 23 (.tmp 48) (.tmp 52) rfl _ _ _ e48 e52 hr2) (PrS.app hs (hu.done 5 (by kernel_rfl)) hu.self (hu.not 8 (by decide) (by kernel_rfl)) HRL.out HBl.out HBB.out HVS.out hn2 ho2)
            · intro D vals act wx hu h hs
              have e5 : act.eval (.tmp 5) = .pointer (some ⟨w4.heap.size, 0, none⟩) := h.old 5 (by kernel_rfl)
              clear h
              refine gives_by rfl act.eval rfl ?_
              generalize act.eval = ρ at *
              intro hf hc
              go_simp
              exact ⟨rfl, hs⟩
            · intro D vals act wx hu h hs
              have e54 : act.eval (.tmp 54) = .pointer (some ⟨w4.heap.size, 1, none⟩) := h.q 7 54 (by kernel_rfl) rfl
              have e53 : act.eval (.tmp 53) = vals 6 := h.val 6 53 (by kernel_rfl)
              clear h
              have hbx := hs.box
              have c0 : ∃ x, wx.cell? ⟨w4.heap.size, 1, none⟩ = some x := ⟨_, hbx.cell 1⟩
              obtain ⟨x0, c0⟩ := c0
              have f0 := hbx.frozen 1
              have hres := PrS.put hs (hu.done 6 (by kernel_rfl)) hu.self HRL.out HBl.out HBB.out (Nat.lt_of_lt_of_le HBB.out HT.out.size)
              obtain ⟨_, a9, n9, c9, h9⟩ := hs.new (hu.done 6 (by kernel_rfl))
              rw [show wx.setCell ⟨w4.heap.size, 1, none⟩ (vals 6) = wx.setCell ⟨w4.heap.size, 1, none⟩ (.slice a9 n9 c9) by rw [h9]] at hres
              rw [h9] at e53
              refine gives_of_skip rfl (w' := wx.setCell ⟨w4.heap.size, 1, none⟩ (.slice a9 n9 c9)) ?_ hres
              clear hres hbx h9 hs
              generalize act.eval = ρ at *
              go_simp
          · intro D vals w5 hq hD hs
            obtain ⟨p1, p2, _, _, _, _, p7, p8⟩ := hs
            rw [if_pos (hD 3 (by decide))] at p2
            rw [if_pos (hD 8 (by decide))] at p8
            obtain ⟨p9, _⟩ := p7 (hD 6 (by decide))
            obtain ⟨a2, c2, hv⟩ := p9.shape
            rw [List.length_append, HSL.out, List.length_singleton] at hv
            rw [hv] at p8 p9
            have HP1 := hide p1
            have HP2 := hide p2
            have HP8 := hide p8
            have HP9 := hide p9
            simp only [putAll, Act.put, List.setIfInBounds_toArray, List.set_cons_zero, List.set_cons_succ, Nat.zero_add, Nat.reduceAdd]
            clear hv p1 p2 p7 p8 p9 hq hD HTX
            generalize vals 0 = x0 at *
            generalize vals 1 = x1 at *
            generalize vals 2 = x2 at *
            generalize vals 3 = x3 at *
            generalize vals 4 = x4 at *
            generalize vals 5 = x5 at *
            generalize vals 6 = x6 at *
            generalize vals 7 = x7 at *
            generalize vals 8 = x8 at *
            go_wp2
            go_roundg (GK - 1)
            case measure => have := HGK.out; have := HG.out; omega
            case rel =>
              refine ⟨k + 1, a2, c2, by have := HGK.out; have := HG.out; omega, by go_num, ?_, HP8.out, HT.out.res.only HP1.out (fun e => by have := HRB.out; have := HS0.out; have := HBl.out; have := HRL.out; have := HBB.out; rcases e with e | e | e <;> omega), HT.out.fds.only HP1.out (fun q hq e => by have h1 := (HT.out.fds.lt q hq).1; have h2 := HT.out.vlt q hq; have := HBl.out; have := HRL.out; rcases e with e | e | e <;> omega), HT.out.vlt, ?_, HT.out.below.trans (HP1.out.below HT.out.below.size (fun q hq e => by have := HRB.out; have := HS0.out; have := HBl.out; have := HRL.out; have := HBB.out; rcases e with e | e | e <;> omega)), Nat.le_trans HT.out.size HP1.out.size⟩
              · rw [show txsT (k + 1) sc = ((txsT k sc).1 ++ [(txtT (txsT k sc).2).1], (txtT (txsT k sc).2).2) from rfl, HSQ.out]
                exact HP2.out
              · rw [show txsT (k + 1) sc = ((txsT k sc).1 ++ [(txtT (txsT k sc).2).1], (txtT (txsT k sc).2).2) from rfl, HSQ.out, HSS.out]
                exact HP9.out
        · obtain rfl : k = Q := by omega
          have hconf := conf_eq HAS.out HBS.out HCS.out
          obtain ⟨st, hst⟩ : ∃ st, (txsT k sc).2 = st := ⟨_, rfl⟩
          rw [hst] at hconf
          obtain ⟨ru, hrd, _⟩ := HT.out.rd
          rw [hst] at hrd
          have hend := end_any WT rb ru st.1 st.2 hrd
          have hbyz : ByteOk zs := HK3.out.ok
          have b0 : WT.cell? ⟨w4.heap.size, 0, none⟩ = some (.slice fo j fc) := HT.out.box.cell 0
          have b1 : WT.cell? ⟨w4.heap.size, 1, none⟩ = some (.slice so k sp) := HT.out.box.cell 1
          have b2 : WT.cell? ⟨w4.heap.size, 2, none⟩ = some (.int .i64 (A : Int)) := HT.out.box.cell 2
          have n0 : (n : Int) ≤ 240 := by omega
          by_cases hse : st = ([], 0)
          · have hE0 : (if st.2 ≠ 0 then st.2 else if st.1 = [] then 0 else 12) = 0 := by rw [hse]; simp
            rw [hE0] at hend
            have hC : prsC zs = ⟨(fdsT j sb).1, (txsT k sc).1, (A : Int)⟩ := by unfold prsC; rw [hconf]
            have hl1 : (fdsT j sb).1.length = j := fdsT_len _ _
            have hl2 : (txsT k sc).1.length = k := txsT_len _ _
            have hcv : CnfV WT (.agg #[.slice fo j fc, .slice so k sp, .int .i64 (A : Int)]) (prsC zs) := by
              rw [hC]
              refine ⟨fo, fc, so, sp, ?_, ?_, ?_⟩
              · simp only [hl1, hl2]
              · have := HT.out.fds.tbl; simp only [hl1]; exact this
              · have := HT.out.txs.strs; simp only [hl2]; exact this
            have hcn : CnOk (prsC zs) := by
              have hbk := conf_back hbyz (by rw [hconf]; exact hse)
              have hlz : (formP (prsC zs)).length ≤ 240 := by
                show (formP (confT (zs, 0)).1).length ≤ 240
                rw [← hbk]
                have := HN.out
                omega
              rw [hC] at hlz ⊢
              refine ⟨by simp only; omega, by simp only; omega, by simp only [hl1]; omega, by simp only [hl2]; omega, fun z hz => ?_⟩
              have h1 : (txt z).length ≤ ((txsT k sc).1.flatMap txt).length := by
                obtain ⟨a, b, hab⟩ := List.append_of_mem hz
                simp only at hab
                rw [hab, List.flatMap_append, List.flatMap_cons, List.length_append, List.length_append]
                omega
              unfold formP at hlz
              simp only [List.length_cons, List.length_append] at hlz
              have h2 : (txt z).length = z.length + 1 := rfl
              omega
            have hck := checkC_any WT _ _ hcv hcn (HL0.out WT HT.out.below)
            have hpre : prsB zs = mayC (prsC zs) := by
              unfold prsB
              rw [hconf, hse, decide_eq_true (show zs.length ≤ 240 by have := HN.out; omega)]
              simp
            have HM : Hid (mayE (prsC zs) = if mayC (prsC zs) = true then 0 else 140) := rfl
            cases hmc : mayC (prsC zs) with
            | true =>
              rw [HM.out, hmc, if_pos rfl] at hck
              rw [hmc] at hpre
              have e1 : prsE zs = 0 := by unfold prsE; rw [hpre]; rfl
              have e2 : prsR zs = prsC zs := by unfold prsR; rw [hpre]; rfl
              have HE1 := hide e1
              have HE2 := hide e2
              have HEND := hide hend
              have HCK := hide hck
              have HCV := hide hcv
              have HBX : Hid (∀ W, Below WT.heap.size WT W → W.cell? ⟨w4.heap.size, 0, none⟩ = some (.slice fo j fc) ∧ W.cell? ⟨w4.heap.size, 1, none⟩ = some (.slice so k sp) ∧ W.cell? ⟨w4.heap.size, 2, none⟩ = some (.int .i64 (A : Int))) := fun W hb => ⟨cell_belowW hb b0, cell_belowW hb b1, cell_belowW hb b2⟩
              clear hconf hst hrd hend hbyz hse hE0 hC hl1 hl2 hcv hcn hck hpre HM hmc e1 e2
              go_wp2_with (first
                | (go_at_call 33; refine HEND.out.mono ?_; rintro e w12 ⟨rfl, hw⟩; subst w12; clear HEND)
                | (go_at_call 12; refine HCK.out.mono ?_; rintro e w13 ⟨rfl, hb⟩; obtain ⟨d0, d1, d2⟩ := HBX.out w13 hb; have HB13 := hide hb; have hres := HT.out.res.below hb HT.out.res.lt; have HRES := hide hres; have f0 := hres.frozen 0; have f1 := hres.frozen 1; have f2 := hres.frozen 2; have k0 : w13.cell? ⟨w.heap.size, 0, none⟩ = some (.slice none 0 0) := hres.cell 0; have k1 : w13.cell? ⟨w.heap.size, 1, none⟩ = some (.slice none 0 0) := hres.cell 1; have k2 : w13.cell? ⟨w.heap.size, 2, none⟩ = some (.int .i64 0) := hres.cell 2; clear HCK hb hres))
              have hr1 := ((HRES.out.set 0 (.slice fo j fc)).set 1 (.slice so k sp)).set 2 (.int .i64 (A : Int))
              have hoR : Only (· = w.heap.size) w13 (((w13.setCell ⟨w.heap.size, 0, none⟩ (.slice fo j fc)).setCell ⟨w.heap.size, 1, none⟩ (.slice so k sp)).setCell ⟨w.heap.size, 2, none⟩ (.int .i64 (A : Int))) := (((Only.refl (· = w.heap.size) w13).setCell _ _ (fun _ => rfl)).setCell _ _ (fun _ => rfl)).setCell _ _ (fun _ => rfl)
              refine bodyPost_ret (ret_conf rfl _ _ w.heap.size _ _ _ _ rfl rfl hr1) rfl ?_
              rw [HE1.out, HE2.out]
              refine ⟨_, rfl, ?_, (HT.out.below.trans (HB13.out.mono HT.out.below.size)).trans (hoR.below (Nat.le_trans HT.out.below.size HB13.out.size) (fun q hq e => by omega))⟩
              obtain ⟨fo', fc', so', sp', he, ht1, ht2⟩ := HCV.out.below HB13.out
              simp only [Value.agg.injEq, Array.mk.injEq, List.cons.injEq, Value.slice.injEq, and_true] at he
              obtain ⟨⟨rfl, hj1, rfl⟩, ⟨rfl, hk1, rfl⟩, hA⟩ := he
              have hwr : w.heap.size < w4.heap.size := by have := HRB.out; have := HS0.out; have := HRL.out; have := HBl.out; omega
              refine ⟨fo, fc, so, sp, by rw [← hj1, ← hk1, ← hA], ht1.keepO (fun q hq hl => hoR.block q hl (fun e => ?_)), ht2.keep (fun q hq hl => hoR.block q hl (fun e => ?_))⟩
              · have := (HT.out.fds.lt q (by cases fo <;> exact hq)).1
                omega
              · have := (HT.out.txs.lt q (by cases so <;> exact hq)).1
                have := HBB.out
                omega
            | false =>
              rw [HM.out, hmc, if_neg (by simp)] at hck
              rw [hmc] at hpre
              have e1 : prsE zs = 140 := by unfold prsE; rw [hpre]; rfl
              have e2 : prsR zs = zeroC := by unfold prsR; rw [hpre]; rfl
              have HE1 := hide e1
              have HE2 := hide e2
              have HEND := hide hend
              have HCK := hide hck
              clear hconf hst hrd hend hbyz hse hE0 hC hl1 hl2 hcv hcn hck hpre HM hmc e1 e2
              go_wp2_with (first
                | (go_at_call 33; refine HEND.out.mono ?_; rintro e w12 ⟨rfl, hw⟩; subst w12; clear HEND)
                | (go_at_call 12; refine HCK.out.mono ?_; rintro e w13 ⟨rfl, hb⟩; have HB13 := hide hb; have hres := HT.out.res.below hb HT.out.res.lt; have HRES := hide hres; have f0 := hres.frozen 0; have f1 := hres.frozen 1; have f2 := hres.frozen 2; have k0 : w13.cell? ⟨w.heap.size, 0, none⟩ = some (.slice none 0 0) := hres.cell 0; have k1 : w13.cell? ⟨w.heap.size, 1, none⟩ = some (.slice none 0 0) := hres.cell 1; have k2 : w13.cell? ⟨w.heap.size, 2, none⟩ = some (.int .i64 0) := hres.cell 2; clear HCK hb hres))
              have hr1 := ((HRES.out.set 0 (.slice none 0 0)).set 1 (.slice none 0 0)).set 2 (.int .i64 0)
              have hoR : Only (· = w.heap.size) w13 (((w13.setCell ⟨w.heap.size, 0, none⟩ (.slice none 0 0)).setCell ⟨w.heap.size, 1, none⟩ (.slice none 0 0)).setCell ⟨w.heap.size, 2, none⟩ (.int .i64 0)) := (((Only.refl (· = w.heap.size) w13).setCell _ _ (fun _ => rfl)).setCell _ _ (fun _ => rfl)).setCell _ _ (fun _ => rfl)
              refine bodyPost_ret (ret_conf rfl _ _ w.heap.size _ _ _ _ rfl rfl hr1) rfl ?_
              rw [HE1.out, HE2.out]
              exact ⟨_, rfl, zeroC_v _, (HT.out.below.trans (HB13.out.mono HT.out.below.size)).trans (hoR.below (Nat.le_trans HT.out.below.size HB13.out.size) (fun q hq e => by omega))⟩
          · obtain ⟨E, hE⟩ : ∃ E, (if st.2 ≠ 0 then st.2 else if st.1 = [] then 0 else 12) = E := ⟨_, rfl⟩
            have hEne : ¬ E = 0 := by
              rw [← hE]
              obtain ⟨s1, s2⟩ := st
              simp only
              intro h
              split at h
              · exact absurd h (by assumption)
              · split at h
                · rename_i h1 h2
                  apply hse
                  rw [h2]
                  simp at h1
                  rw [h1]
                · cases h
            rw [hE] at hend
            have hno : prsB zs = false := by
              unfold prsB
              rw [hconf, decide_eq_false (show ¬ st = ([], 0) from hse)]
              simp
            have e1 : prsE zs = 140 := by unfold prsE; rw [hno]; rfl
            have e2 : prsR zs = zeroC := by unfold prsR; rw [hno]; rfl
            have HE1 := hide e1
            have HE2 := hide e2
            have HEND := hide hend
            have hEb : (E == 0) = false := by simpa using hEne
            have hres := HT.out.res
            have f0 := hres.frozen 0
            have f1 := hres.frozen 1
            have f2 := hres.frozen 2
            have k0 : WT.cell? ⟨w.heap.size, 0, none⟩ = some (.slice none 0 0) := hres.cell 0
            have k1 : WT.cell? ⟨w.heap.size, 1, none⟩ = some (.slice none 0 0) := hres.cell 1
            have k2 : WT.cell? ⟨w.heap.size, 2, none⟩ = some (.int .i64 0) := hres.cell 2
            clear hconf hst hrd hend hbyz hse hE hno e1 e2 hres
            go_wp2_with (go_at_call 33; refine HEND.out.mono ?_; rintro e w12 ⟨rfl, hw⟩; subst w12; clear HEND)
            have hr1 := ((HT.out.res.set 0 (.slice none 0 0)).set 1 (.slice none 0 0)).set 2 (.int .i64 0)
            have hoR : Only (· = w.heap.size) WT (((WT.setCell ⟨w.heap.size, 0, none⟩ (.slice none 0 0)).setCell ⟨w.heap.size, 1, none⟩ (.slice none 0 0)).setCell ⟨w.heap.size, 2, none⟩ (.int .i64 0)) := (((Only.refl (· = w.heap.size) WT).setCell _ _ (fun _ => rfl)).setCell _ _ (fun _ => rfl)).setCell _ _ (fun _ => rfl)
            refine bodyPost_ret (ret_conf rfl _ _ w.heap.size _ _ _ _ rfl rfl hr1) rfl ?_
            rw [HE1.out, HE2.out]
            exact ⟨_, rfl, zeroC_v _, HT.out.below.trans (hoR.below HT.out.below.size (fun q hq e => by omega))⟩

end Go.Proofs.YtimmfnjkknbofaaDoor
