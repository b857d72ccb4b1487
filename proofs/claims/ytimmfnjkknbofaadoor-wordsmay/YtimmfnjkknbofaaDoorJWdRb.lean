/- Contract: the document's bytes of a way. (Written by mkwdrb.py.) -/
import Derived.Test.YtimmfnjkknbofaaDoorJWdRp
import Derived.Test.YtimmfnjkknbofaaDoorJWdCd
namespace Go.Proofs.YtimmfnjkknbofaaDoor
set_option maxRecDepth 20000
open Go.RowKit
set_option linter.unusedVariables false
set_option linter.unusedSimpArgs false
set_option maxRecDepth 100000

set_option maxHeartbeats 8000000 in
theorem refBytes_any (w : World) (v : Value) (C : Cn) (h : CnfV w v C) (hok : CnOk C) :
    Calls Tryd.prog 9 #[v] w fun e w' => ∃ u, e = .returned (.tuple #[u, .int .i64 (bytE C)]) ∧ Ob w' w.heap.size u (bytL C) ∧ Below w.heap.size w w' := by
  obtain ⟨fo, fc, so, sc, w1, rfl, hw1, hb1, hB, hT, hS⟩ := box_cnf w v C h
  have HCK := hide (checkD_any w1 _ C (h.below hb1) hok)
  have HFM : Hid (mayC C = true → FmOk C) := fun hm => mayC_fm hm (fun z hz => hS.1 z hz)
  have c0 := hB.cell 0
  have c1 := hB.cell 1
  have c2 := hB.cell 2
  simp only [List.getElem?_cons_zero, List.getElem?_cons_succ] at c0 c1 c2
  have HBX : Hid (∀ W, Below w1.heap.size w1 W → W.cell? ⟨w.heap.size, 0, none⟩ = some (.slice fo C.fs.length fc) ∧ W.cell? ⟨w.heap.size, 1, none⟩ = some (.slice so C.ss.length sc) ∧ W.cell? ⟨w.heap.size, 2, none⟩ = some (.int .i64 C.cap)) := fun W hb => ⟨cell_belowW hb c0, cell_belowW hb c1, cell_belowW hb c2⟩
  have HT : Hid (∀ W, Below w1.heap.size w1 W → Tbl W (.slice fo C.fs.length fc) C.fs) := fun W hb => (hT.below hb1).below hb
  have HS : Hid (∀ W, Below w1.heap.size w1 W → Strs W (.slice so C.ss.length sc) C.ss) := fun W hb => (hS.below hb1).below hb
  obtain ⟨nf, hfn⟩ : ∃ n, C.fs.length = n := ⟨_, rfl⟩
  obtain ⟨ns, hsn⟩ : ∃ n, C.ss.length = n := ⟨_, rfl⟩
  obtain ⟨K, hK⟩ : ∃ n, C.cap = n := ⟨_, rfl⟩
  rw [hfn] at hw1 c0 HCK HBX HT ⊢
  rw [hsn] at hw1 c1 HCK HBX HS ⊢
  rw [hK] at hw1 c2 HCK HBX ⊢
  have HE : Hid (mayE C = if mayC C = true then 0 else 140) := rfl
  have HB1 := hide hb1
  have HNF := hide hfn
  have HNS := hide hsn
  have HKC := hide hK
  clear h hT hS hB hb1 hok hfn hsn hK
  cases hM : mayC C with
  | false =>
    rw [HE.out, hM, if_neg (by simp)] at HCK
    have e1 : bytE C = 140 := by unfold bytE; rw [if_neg (by rw [hM]; simp)]
    have e2 : bytL C = [] := by unfold bytL; rw [if_neg (by rw [hM]; simp)]
    rw [e1, e2]
    clear hM HE HFM e1 e2
    go_enter Tryd.func9, Tryd.ntmps9
    go_wp2_with (go_at_call 13; refine HCK.out.mono ?_; rintro e w2 ⟨rfl, hb⟩; have HB2 := hide (HB1.out.trans (hb.mono HB1.out.size)); clear HCK hb)
    go_ret2
    exact ⟨_, rfl, Ob.nil _ _, HB2.out⟩
  | true =>
    rw [HE.out, hM, if_pos rfl] at HCK
    have hfm := HFM.out hM
    have HOK := hide hfm
    have hcap := hfm.cap
    have hnfl := hfm.nf
    have hnsl := hfm.ns
    rw [HKC.out] at hcap
    rw [HNF.out] at hnfl
    rw [HNS.out] at hnsl
    have HM := hide hM
    have HFP : Hid (formP C = ([K, (nf : Int)] ++ C.fs.flatMap fdB) ++ [(ns : Int)] ++ C.ss.flatMap txt) := by
      show _ = _
      unfold formP
      rw [HKC.out, HNF.out, HNS.out]
      simp
    clear hM HE HFM hfm
    go_enter Tryd.func9, Tryd.ntmps9
    go_wp2_with (go_at_call 13; refine HCK.out.mono ?_; rintro e w2 ⟨rfl, hb⟩; obtain ⟨d0, d1, d2⟩ := HBX.out w2 hb; have HB2 := hide hb; obtain ⟨W3, hW3⟩ : ∃ W3, w2.alloc (.cells #[.int .u8 K, .int .u8 (nf : Int)] 5) = W3 := ⟨_, rfl⟩; have HO3 : Hid (Ob W3 w2.heap.size (.slice (some ⟨w2.heap.size, 0, none⟩) 2 2) [K, (nf : Int)]) := (by rw [← hW3]; exact ob_lit w2 [K, (nf : Int)] (fun z hz => by rcases List.mem_cons.1 hz with e | hz; subst e; omega; rw [List.mem_singleton] at hz; subst hz; omega) (by simp [maxLen])); have HB3 : Hid (Below w2.heap.size w2 W3) := (by rw [← hW3]; exact (Below.refl _ w2).alloc (Nat.le_refl _) _); clear HCK hb)
    clear hw1 hW3
    go_loopg [5, 6] nf (fun g l5 l6 wr => ∃ (k : Nat) (a : Option Addr) (n c : Nat), g + k = nf ∧ l6 = .int .i64 (k : Int) ∧ l5 = .slice a n c ∧ n = 2 + 5 * k ∧ Ob wr w2.heap.size (.slice a n c) ([K, (nf : Int)] ++ (C.fs.take k).flatMap fdB) ∧ Below w2.heap.size w2 wr)
    case atStart => exact ⟨0, _, 2, 2, by omega, rfl, rfl, rfl, by rw [List.take_zero]; exact HO3.out, HB3.out⟩
    case round =>
      obtain ⟨k, a, n, c, hg, rfl, rfl, hn, ho, hb⟩ := hrel
      have HO := hide ho
      have HB := hide hb
      have HBW : Hid (Below w1.heap.size w1 wr) := HB2.out.trans (hb.mono HB2.out.size)
      have HG : Hid (gk + k = nf) := hg
      obtain ⟨GK, hGK⟩ : ∃ x, gk = x := ⟨_, rfl⟩
      have HGK := hide hGK
      obtain ⟨WR, hWR⟩ : ∃ y, y = wr := ⟨_, rfl⟩
      subst hWR
      have HNN := hide hn
      have hn900 : n ≤ 2000 := by omega
      clear ho hb hGK hn
      obtain ⟨d0, d1, d2⟩ := HBX.out WR HBW.out
      by_cases hk : k < nf
      · obtain ⟨fb, foff, x, rfl, hx, _, q0, q1, q2⟩ := (HT.out WR HBW.out).at k (by have := HNF.out; omega)
        have hxm : x ∈ C.fs := List.mem_of_getElem? hx
        obtain ⟨e1, e2, e3, e4, e5, e6⟩ := HOK.out.fd x hxm
        have HX := hide hx
        obtain ⟨x0, x1, x2⟩ := x
        simp only at q0 q1 q2 e1 e2 e3 e4 e5 e6
        obtain ⟨F, rfl⟩ : ∃ F : Nat, x0 = (F : Int) := ⟨x0.toNat, by omega⟩
        obtain ⟨T, rfl⟩ : ∃ F : Nat, x1 = (F : Int) := ⟨x1.toNat, by omega⟩
        obtain ⟨W2, hW2⟩ : ∃ W2, WR.alloc (.cells #[.int .i32 (F : Int), .int .i32 (T : Int), .int .i64 x2] 54) = W2 := ⟨_, rfl⟩
        have hb2 : Below WR.heap.size WR W2 := by rw [← hW2]; exact (Below.refl _ WR).alloc (Nat.le_refl _) _
        have hB2 : Blk W2 WR.heap.size 54 [.int .i32 (F : Int), .int .i32 (T : Int), .int .i64 x2] := by rw [← hW2]; exact Blk.new WR _ _
        have hs2 : W2.heap.size = WR.heap.size + 1 := by rw [← hW2]; simp
        have HVS : Hid (∀ j, (Value.slice a n c).ownBlock = some j → w2.heap.size ≤ j ∧ j < WR.heap.size) := fun j hj => HO.out.lt j hj
        have HCX : Hid (∀ X, Only (fun j => (Value.slice a n c).ownBlock = some j) W2 X → X.cell? ⟨WR.heap.size, 0, none⟩ = some (.int .i32 (F : Int)) ∧ X.cell? ⟨WR.heap.size, 1, none⟩ = some (.int .i32 (T : Int)) ∧ X.cell? ⟨WR.heap.size, 2, none⟩ = some (.int .i64 x2)) := fun X ho => by
          have hx := hB2.only ho (fun e => by have := (HVS.out _ e).2; omega)
          exact ⟨hx.cell 0, hx.cell 1, hx.cell 2⟩
        have HO2 := hide (HO.out.fresh hb2)
        have HBB := hide (HB.out.trans (hb2.mono HB.out.size))
        have HS2 := hide hs2
        have HW2 := hide hW2
        obtain ⟨zs, hzs⟩ : ∃ zs, [K, (nf : Int)] ++ (C.fs.take k).flatMap fdB = zs := ⟨_, rfl⟩
        have hln : zs.length = n := by rw [← hzs, List.length_append, flat_fd_len, List.length_take, Nat.min_eq_left (by have := HNF.out; omega)]; have := HNN.out; simp; omega
        rw [hzs] at HO2
        have HZS := hide hzs
        have HLN := hide hln
        have hkk : (k : Int) < (nf : Int) := by omega
        have hF : F < 65536 := by omega
        have hT2 : T < 65536 := by omega
        have hwF : IntKind.i64.wrap (F : Int) = (F : Int) := IntWalk.i64_in _ (by omega)
        have hwT : IntKind.i64.wrap (T : Int) = (T : Int) := IntWalk.i64_in _ (by omega)
        have hwN : IntKind.i64.wrap (x2 - 1) = x2 - 1 := IntWalk.i64_in _ (by omega)
        have hwM : IntKind.u8.wrap (x2 - 1) = x2 - 1 := IntWalk.u8_in _ (by omega)
        clear hxm hx hB2 hb2 hs2 hW2 hln hzs
        go_wp2
        rw [HW2.out]
        refine wp_region_set [some (.slice a n c), some (.pointer (some ⟨WR.heap.size, 0, none⟩)), some (.int .i32 (F : Int)), some (.int .i64 (F : Int)), none, some (.pointer (some ⟨WR.heap.size, 1, none⟩)), some (.int .i32 (T : Int)), some (.int .i64 (T : Int)), none, some (.pointer (some ⟨WR.heap.size, 2, none⟩)), some (.int .i64 x2), some (.int .i64 (x2 - 1)), some (.int .u8 (x2 - 1)), none, none, none] [4, 8, 13, 14, 15] (RpS W2 w2.heap.size (.slice a n c) zs (numBytes F 2) (numBytes T 2) (x2 - 1)) 83 (by kernel_rfl) (by kernel_rfl) (by kernel_rfl) (by kernel_rfl) rfl ?_ ?_ ?_ ?_
        · exact fun vals0 => RpS.start (HO2.out.only ((Only.refl (fun _ => False) W2).drew) (fun _ _ h => h)) ((Only.refl _ W2).drew)
        · exact fun D D' vals vals' X hv hs => hs.ind hv
        · refine ⟨?_, ?_, ?_, ?_, ?_, ?_, ?_, ?_, ?_, ?_, ?_, ?_, ?_, ?_, ?_, ?_, trivial⟩
          · intro D vals act wx hu h hs
            have e5 : act.eval (.tmp 5) = .slice a n c := h.old 5 (by kernel_rfl)
            clear h
            refine gives_by rfl act.eval rfl ?_
            generalize act.eval = ρ at *
            intro hf hc
            go_simp
            exact ⟨rfl, hs⟩
          · intro D vals act wx hu h hs
            have e7 : act.eval (.tmp 7) = .pointer (some ⟨WR.heap.size, 0, none⟩) := h.old 7 (by kernel_rfl)
            clear h
            refine gives_by rfl act.eval rfl ?_
            generalize act.eval = ρ at *
            intro hf hc
            go_simp
            exact ⟨rfl, hs⟩
          · intro D vals act wx hu h hs
            have e35 : act.eval (.tmp 35) = .pointer (some ⟨WR.heap.size, 0, none⟩) := h.q 1 35 (by kernel_rfl) rfl
            clear h
            obtain ⟨y0, y1, y2⟩ := HCX.out wx hs.only
            refine gives_by rfl act.eval rfl ?_
            generalize act.eval = ρ at *
            intro hf hc
            go_simp
            exact ⟨rfl, hs⟩
          · intro D vals act wx hu h hs
            have e36 : act.eval (.tmp 36) = .int .i32 (F : Int) := h.q 2 36 (by kernel_rfl) rfl
            clear h
            refine gives_by rfl act.eval rfl ?_
            generalize act.eval = ρ at *
            intro hf hc
            go_simp
            exact ⟨rfl, hs⟩
          · intro D vals act wx hu h hs
            have e34 : act.eval (.tmp 34) = .slice a n c := h.q 0 34 (by kernel_rfl) rfl
            have e37 : act.eval (.tmp 37) = .int .i64 (F : Int) := h.q 3 37 (by kernel_rfl) rfl
            clear h
            have h4 : D 4 = false := hu.self
            have h8 : D 8 = false := hu.not 8 (by decide) (by kernel_rfl)
            have h14 : D 14 = false := hu.not 14 (by decide) (by kernel_rfl)
            have h15 : D 15 = false := hu.not 15 (by decide) (by kernel_rfl)
            have hrow := hs.row h14
            rw [show curV (.slice a n c) D vals = .slice a n c by unfold curV; rw [h4, h8]; rfl, show curZ zs (numBytes F 2) (numBytes T 2) D = zs by unfold curZ; rw [h4, h8]; rfl] at hrow
            have HTW := hide (twoB_any wx w2.heap.size _ zs hrow F hF (by have := HLN.out; omega) (Nat.le_trans HBB.out.size hs.only.size))
            clear hrow
            refine gives_by rfl act.eval rfl ?_
            generalize act.eval = ρ at *
            intro hf hc
            go_simp
            refine HTW.out.mono ?_
            rintro e wy ⟨a4, c4, rfl, hn4, ho4, hw4⟩
            rw [show zs.length + 2 = (zs ++ numBytes F 2).length by rw [List.length_append, numBytes_len]] at hn4 hw4 ⊢
            exact ⟨_, rfl, RpS.conv <| RpS.one hs h4 h8 h14 h15 hn4 ho4 hw4⟩
          · intro D vals act wx hu h hs
            have e7 : act.eval (.tmp 7) = .pointer (some ⟨WR.heap.size, 0, none⟩) := h.old 7 (by kernel_rfl)
            clear h
            refine gives_by rfl act.eval rfl ?_
            generalize act.eval = ρ at *
            intro hf hc
            go_simp
            exact ⟨rfl, hs⟩
          · intro D vals act wx hu h hs
            have e39 : act.eval (.tmp 39) = .pointer (some ⟨WR.heap.size, 1, none⟩) := h.q 5 39 (by kernel_rfl) rfl
            clear h
            obtain ⟨y0, y1, y2⟩ := HCX.out wx hs.only
            refine gives_by rfl act.eval rfl ?_
            generalize act.eval = ρ at *
            intro hf hc
            go_simp
            exact ⟨rfl, hs⟩
          · intro D vals act wx hu h hs
            have e40 : act.eval (.tmp 40) = .int .i32 (T : Int) := h.q 6 40 (by kernel_rfl) rfl
            clear h
            refine gives_by rfl act.eval rfl ?_
            generalize act.eval = ρ at *
            intro hf hc
            go_simp
            exact ⟨rfl, hs⟩
          · intro D vals act wx hu h hs
            have e38 : act.eval (.tmp 38) = vals 4 := h.val 4 38 (by kernel_rfl)
            have e41 : act.eval (.tmp 41) = .int .i64 (T : Int) := h.q 7 41 (by kernel_rfl) rfl
            clear h
            have h4 : D 4 = true := hu.done 4 (by kernel_rfl)
            have h8 : D 8 = false := hu.self
            have h14 : D 14 = false := hu.not 14 (by decide) (by kernel_rfl)
            have h15 : D 15 = false := hu.not 15 (by decide) (by kernel_rfl)
            have hrow := hs.row h14
            rw [show curV (.slice a n c) D vals = vals 4 by unfold curV; rw [h4, h8]; rfl, show curZ zs (numBytes F 2) (numBytes T 2) D = zs ++ numBytes F 2 by unfold curZ; rw [h4, h8]; rfl] at hrow
            have HTW := hide (twoB_any wx w2.heap.size _ _ hrow T hT2 (by rw [List.length_append, numBytes_len]; have := HLN.out; omega) (Nat.le_trans HBB.out.size hs.only.size))
            obtain ⟨a4, c4, hv4⟩ := hs.s4 h4
            rw [hv4] at HTW e38
            have hv4' : (vals 4).ownBlock = (Value.slice a4 (zs ++ numBytes F 2).length c4).ownBlock := by rw [hv4]
            have HV4 := hide hv4'
            clear hrow hv4 hv4'
            obtain ⟨n4, hn4⟩ : ∃ n4, (zs ++ numBytes F 2).length = n4 := ⟨_, rfl⟩
            rw [hn4] at e38 HTW HV4
            have HN4 := hide hn4
            clear hn4
            refine gives_by rfl act.eval rfl ?_
            generalize act.eval = ρ at *
            intro hf hc
            go_simp
            refine HTW.out.mono ?_
            rintro e wy ⟨a8, c8, rfl, hn8, ho8, hw8⟩
            rw [show n4 + 2 = (zs ++ numBytes F 2 ++ numBytes T 2).length by rw [List.length_append, HN4.out, numBytes_len]] at hn8 hw8 ⊢
            rw [← HV4.out] at hw8
            exact ⟨_, rfl, RpS.conv <| RpS.two hs h4 h8 h14 h15 hn8 (ho8.mono (fun i _ e => by rw [HV4.out]; exact e)) hw8⟩
          · intro D vals act wx hu h hs
            have e7 : act.eval (.tmp 7) = .pointer (some ⟨WR.heap.size, 0, none⟩) := h.old 7 (by kernel_rfl)
            clear h
            refine gives_by rfl act.eval rfl ?_
            generalize act.eval = ρ at *
            intro hf hc
            go_simp
            exact ⟨rfl, hs⟩
          · intro D vals act wx hu h hs
            have e43 : act.eval (.tmp 43) = .pointer (some ⟨WR.heap.size, 2, none⟩) := h.q 9 43 (by kernel_rfl) rfl
            clear h
            obtain ⟨y0, y1, y2⟩ := HCX.out wx hs.only
            refine gives_by rfl act.eval rfl ?_
            generalize act.eval = ρ at *
            intro hf hc
            go_simp
            exact ⟨rfl, hs⟩
          · intro D vals act wx hu h hs
            have e44 : act.eval (.tmp 44) = .int .i64 x2 := h.q 10 44 (by kernel_rfl) rfl
            clear h
            refine gives_by rfl act.eval rfl ?_
            generalize act.eval = ρ at *
            intro hf hc
            go_simp
            exact ⟨rfl, hs⟩
          · intro D vals act wx hu h hs
            have e45 : act.eval (.tmp 45) = .int .i64 (x2 - 1) := h.q 11 45 (by kernel_rfl) rfl
            clear h
            refine gives_by rfl act.eval rfl ?_
            generalize act.eval = ρ at *
            intro hf hc
            go_simp
            exact ⟨rfl, hs⟩
          · intro D vals act wx hu h hs
            have e46 : act.eval (.tmp 46) = .int .u8 (x2 - 1) := h.q 12 46 (by kernel_rfl) rfl
            clear h
            have hres := RpS.lit1 hs hu.self (hu.not 14 (by decide) (by kernel_rfl)) (hu.not 15 (by decide) (by kernel_rfl)) (fun j hj => by have := (HVS.out j hj).2; have := HS2.out; omega)
            refine gives_by rfl act.eval rfl ?_
            generalize act.eval = ρ at *
            intro hf hc
            go_simp
            exact gUpon_value rfl (RpS.conv hres)
          · intro D vals act wx hu h hs
            have e42 : act.eval (.tmp 42) = vals 8 := h.val 8 42 (by kernel_rfl)
            have e47 : act.eval (.tmp 47) = vals 13 := h.val 13 47 (by kernel_rfl)
            clear h
            have h8 : D 8 = true := hu.done 8 (by kernel_rfl)
            have h14 : D 14 = false := hu.self
            have h15 : D 15 = false := hu.not 15 (by decide) (by kernel_rfl)
            have hrow := hs.row h14
            rw [show curV (.slice a n c) D vals = vals 8 by unfold curV; rw [h8]; rfl, show curZ zs (numBytes F 2) (numBytes T 2) D = zs ++ numBytes F 2 ++ numBytes T 2 by unfold curZ; rw [h8]; rfl] at hrow
            obtain ⟨g, hg1, hg2, _⟩ := hs.lit (hu.done 13 (by kernel_rfl)) h14
            rw [hg1] at e47
            obtain ⟨ao, ac, X2, hr2, hn2, ho2, _⟩ := push_b wx w2.heap.size _ _ hrow (x2 - 1) (by omega) g hg2 (by rw [List.length_append, List.length_append, numBytes_len, numBytes_len]; have := HLN.out; omega) (Nat.le_trans HBB.out.size hs.only.size)
            exact gives_of_run rfl (exec_appR 26 (.tmp 42) (.tmp 47) rfl _ _ _ e42 e47 hr2) (RpS.app hs h8 h14 h15 hn2 ho2)
          · intro D vals act wx hu h hs
            have e48 : act.eval (.tmp 48) = vals 14 := h.val 14 48 (by kernel_rfl)
            clear h
            exact gives_of_run rfl (exec_assign (.tmp 48) rfl _ e48) (RpS.asg1 hs (hu.done 14 (by kernel_rfl)))
        · intro D vals w5 hq hD hs
          obtain ⟨p1, _, _, _, _, _, p7, p8⟩ := hs
          have hv15 := p8 (hD 15 (by decide))
          obtain ⟨p9, a9, n9, c9, h9⟩ := p7 (hD 14 (by decide))
          obtain ⟨a2, c2', hv⟩ := p9.shape
          rw [List.length_append, List.length_append, List.length_append, HLN.out, numBytes_len, numBytes_len, List.length_singleton] at hv
          rw [hv] at p9 hv15
          have HP1 := hide p1
          have HP9 := hide p9
          simp only [putAll, Act.put, List.setIfInBounds_toArray, List.set_cons_zero, List.set_cons_succ, Nat.zero_add, Nat.reduceAdd]
          rw [hv15]
          clear hv hv15 p1 p7 p8 p9 hq hD h9
          generalize vals 0 = z0 at *
          generalize vals 1 = z1 at *
          generalize vals 2 = z2 at *
          generalize vals 3 = z3 at *
          generalize vals 4 = z4 at *
          generalize vals 5 = z5 at *
          generalize vals 6 = z6 at *
          generalize vals 7 = z7 at *
          generalize vals 8 = z8 at *
          generalize vals 9 = z9 at *
          generalize vals 10 = z10 at *
          generalize vals 11 = z11 at *
          generalize vals 12 = z12 at *
          generalize vals 13 = z13 at *
          generalize vals 14 = z14 at *
          go_wp2
          go_roundg (GK - 1)
          case measure => have := HGK.out; have := HG.out; omega
          case rel =>
            refine ⟨k + 1, a2, _, c2', by have := HGK.out; have := HG.out; omega, by go_num, rfl, by have := HNN.out; omega, ?_, HBB.out.trans (HP1.out.below HBB.out.size (fun q hq e => by have := (HVS.out q e).1; omega))⟩
            have e := flat_snoc C.fs fdB k _ HX.out
            rw [e, show fdB ((F : Int), (T : Int), x2) = numBytes F 2 ++ (numBytes T 2 ++ [x2 - 1]) from rfl, ← List.append_assoc, HZS.out]
            have := HP9.out
            simpa using this
      · obtain rfl : k = nf := by omega
        have hfull : C.fs.take k = C.fs := List.take_of_length_le (by have := HNF.out; omega)
        have hOa := HO.out
        rw [hfull] at hOa
        have hln : ([K, (k : Int)] ++ C.fs.flatMap fdB).length = n := by rw [List.length_append, flat_fd_len, HNF.out]; have := HNN.out; simp; omega
        obtain ⟨a6, c6, w6, hr6, ho6, hb6⟩ := run_append_b WR w2.heap.size _ _ hOa (ns : Int) (by omega) (by rw [hln]; omega) HB.out.size
        rw [hln] at hr6 ho6
        have hbb6 : Below w2.heap.size w2 w6 := HB.out.trans hb6
        have HPL : Hid (([K, (k : Int)] ++ C.fs.flatMap fdB ++ [(ns : Int)]).length = n + 1) := by show _ = _; rw [List.length_append, hln]; rfl
        have HR6 := hide hr6
        have HO6 := hide ho6
        have HB6 := hide hbb6
        have HFD := hide HFP.out
        obtain ⟨pre, hpre⟩ : ∃ pre, [K, (k : Int)] ++ C.fs.flatMap fdB ++ [(ns : Int)] = pre := ⟨_, rfl⟩
        rw [hpre] at HO6 HPL HFD
        clear hfull hOa hln hr6 ho6 hb6 hbb6 hpre
        go_wp2_with (at_builtin; (with_reducible refine wpList_append_run _ rfl (.tmp 49) (.tmp 54) 26 rfl _ _ ?_ ?_ _ _ HR6.out ?_); exact rfl; exact rfl; clear HR6)
        go_loopg [5, 8] ns (fun g l5 l8 wr => ∃ (j : Nat) (a : Option Addr) (m c : Nat), g + j = ns ∧ l8 = .int .i64 (j : Int) ∧ l5 = .slice a m c ∧ m = n + 1 + ((C.ss.take j).flatMap txt).length ∧ Ob wr w2.heap.size (.slice a m c) (pre ++ (C.ss.take j).flatMap txt) ∧ Below w2.heap.size w2 wr)
        case atStart => exact ⟨0, _, _, _, by omega, rfl, rfl, by rw [List.take_zero]; rfl, by rw [List.take_zero, List.flatMap_nil, List.append_nil]; exact HO6.out, HB6.out⟩
        case round =>
          obtain ⟨j, a, m, c, hg, rfl, rfl, hm, ho, hb⟩ := hrel
          have HO := hide ho
          have HB := hide hb
          have HBW : Hid (Below w1.heap.size w1 wr) := HB2.out.trans (hb.mono HB2.out.size)
          have HG : Hid (gk + j = ns) := hg
          obtain ⟨GK, hGK⟩ : ∃ x, gk = x := ⟨_, rfl⟩
          have HGK := hide hGK
          have HM2 := hide hm
          have htl : ((C.ss.take j).flatMap txt).length ≤ 25 * 255 := by
            refine Nat.le_trans (flat_tx_len _ (fun z hz => (HOK.out.st z (List.mem_of_mem_take hz)).1)) ?_
            rw [List.length_take]
            have := HNS.out
            omega
          have hm2 : m ≤ 10000 := by omega
          obtain ⟨WT, hWT⟩ : ∃ y, y = wr := ⟨_, rfl⟩
          subst hWT
          clear ho hb hGK hm htl d0 d1 d2
          obtain ⟨d0, d1, d2⟩ := HBX.out WT HBW.out
          by_cases hk : j < ns
          · have hjl : j < C.ss.length := by have := HNS.out; omega
            have hsmx := (HS.out WT HBW.out).max
            obtain ⟨sb, soff, rfl, q0, hbz⟩ := (HS.out WT HBW.out).at j hjl
            have hx : C.ss[j]? = some C.ss[j] := List.getElem?_eq_getElem hjl
            obtain ⟨z, hz⟩ : ∃ z, C.ss[j] = z := ⟨_, rfl⟩
            rw [hz] at q0 hbz hx
            have hzl : z.length ≤ 24 := (HOK.out.st z (List.mem_of_getElem? hx)).1
            obtain ⟨zn, hzn⟩ : ∃ zn, z.length = zn := ⟨_, rfl⟩
            rw [hzn] at hzl
            obtain ⟨zs, hzs⟩ : ∃ zs, pre ++ (C.ss.take j).flatMap txt = zs := ⟨_, rfl⟩
            have hpm : zs.length = m := by rw [← hzs, List.length_append, HPL.out, HM2.out]
            have hsz : ((strOfNums z).size : Int) = (zn : Int) := by rw [← hzn]; simp [strOfNums, ByteArray.size]
            have HO2 : Hid (Ob WT w2.heap.size (.slice a m c) zs) := by have := HO.out; rw [hzs] at this; exact this
            have HVS : Hid (∀ q, (Value.slice a m c).ownBlock = some q → w2.heap.size ≤ q ∧ q < WT.heap.size) := fun q hq => HO.out.lt q hq
            have HSC : Hid (∀ X, Only (fun j => (Value.slice a m c).ownBlock = some j) WT X → X.cell? ⟨w.heap.size, 1, none⟩ = some (.slice (some ⟨sb, soff, none⟩) ns sc) ∧ X.cell? ⟨sb, soff + j, none⟩ = some (.string (strOfNums z))) := fun X ho => by
              have hb : Below w2.heap.size WT X := ho.below HB.out.size (fun q hq e => by have := (HVS.out q e).1; omega)
              have hb1 : Below w1.heap.size w1 X := HB2.out.trans ((HB.out.trans hb).mono HB2.out.size)
              refine ⟨(HBX.out X hb1).2.1, ?_⟩
              obtain ⟨b', o', he, hc, _⟩ := (HS.out X hb1).at j hjl
              simp only [Option.some.injEq, Addr.mk.injEq, and_true] at he
              obtain ⟨rfl, rfl⟩ := he
              rw [hz] at hc
              exact hc
            have HX := hide hx
            have HZN := hide hzn
            have HPM := hide hpm
            have HZS := hide hzs
            have HBZ := hide hbz
            have hjj : (j : Int) < (ns : Int) := by omega
            have hwz : IntKind.u8.wrap (zn : Int) = (zn : Int) := IntWalk.u8_in _ (by omega)
            clear hz hx hzn hpm hzs hjl hbz
            obtain ⟨sz, hsz2⟩ : ∃ s, strOfNums z = s := ⟨_, rfl⟩
            rw [hsz2] at q0 hsz HSC
            have HSZ := hide hsz2
            clear hsz2
            go_wp2
            refine wp_region_set [some (.slice a m c), some (.pointer (some ⟨w.heap.size, 1, none⟩)), some (.slice (some ⟨sb, soff, none⟩) ns sc), some (.int .i64 (j : Int)), some (.pointer (some ⟨sb, soff + j, none⟩)), some (.string sz), some (.int .i64 (zn : Int)), some (.int .u8 (zn : Int)), none, none, some (.pointer (some ⟨w.heap.size, 1, none⟩)), some (.slice (some ⟨sb, soff, none⟩) ns sc), some (.int .i64 (j : Int)), some (.pointer (some ⟨sb, soff + j, none⟩)), some (.string sz), none, none] [8, 9, 15, 16] (RqS WT w2.heap.size (.slice a m c) zs (zn : Int) z) 83 (by kernel_rfl) (by kernel_rfl) (by kernel_rfl) (by kernel_rfl) rfl ?_ ?_ ?_ ?_
            · exact fun vals0 => RqS.start (HO2.out.only ((Only.refl (fun _ => False) WT).drew) (fun _ _ h => h)) ((Only.refl _ WT).drew)
            · exact fun D D' vals vals' X hv hs => hs.ind hv
            · refine ⟨?_, ?_, ?_, ?_, ?_, ?_, ?_, ?_, ?_, ?_, ?_, ?_, ?_, ?_, ?_, ?_, ?_, trivial⟩
              · intro D vals act wx hu h hs
                have e5 : act.eval (.tmp 5) = .slice a m c := h.old 5 (by kernel_rfl)
                clear h
                refine gives_by rfl act.eval rfl ?_
                generalize act.eval = ρ at *
                intro hf hc
                go_simp
                exact ⟨rfl, hs⟩
              · intro D vals act wx hu h hs
                have e1 : act.eval (.tmp 1) = .pointer (some ⟨w.heap.size, 0, none⟩) := h.old 1 (by kernel_rfl)
                clear h
                refine gives_by rfl act.eval rfl ?_
                generalize act.eval = ρ at *
                intro hf hc
                go_simp
                exact ⟨rfl, hs⟩
              · intro D vals act wx hu h hs
                have e64 : act.eval (.tmp 64) = .pointer (some ⟨w.heap.size, 1, none⟩) := h.q 1 64 (by kernel_rfl) rfl
                clear h
                obtain ⟨y0, y1⟩ := HSC.out wx hs.only
                refine gives_by rfl act.eval rfl ?_
                generalize act.eval = ρ at *
                intro hf hc
                go_simp
                exact ⟨rfl, hs⟩
              · intro D vals act wx hu h hs
                have e8 : act.eval (.tmp 8) = .int .i64 (j : Int) := h.old 8 (by kernel_rfl)
                clear h
                refine gives_by rfl act.eval rfl ?_
                generalize act.eval = ρ at *
                intro hf hc
                go_simp
                exact ⟨rfl, hs⟩
              · intro D vals act wx hu h hs
                have e65 : act.eval (.tmp 65) = .slice (some ⟨sb, soff, none⟩) ns sc := h.q 2 65 (by kernel_rfl) rfl
                have e66 : act.eval (.tmp 66) = .int .i64 (j : Int) := h.q 3 66 (by kernel_rfl) rfl
                clear h
                refine gives_by rfl act.eval rfl ?_
                generalize act.eval = ρ at *
                intro hf hc
                go_simp
                exact ⟨rfl, hs⟩
              · intro D vals act wx hu h hs
                have e67 : act.eval (.tmp 67) = .pointer (some ⟨sb, soff + j, none⟩) := h.q 4 67 (by kernel_rfl) rfl
                clear h
                obtain ⟨y0, y1⟩ := HSC.out wx hs.only
                refine gives_by rfl act.eval rfl ?_
                generalize act.eval = ρ at *
                intro hf hc
                go_simp
                exact ⟨rfl, hs⟩
              · intro D vals act wx hu h hs
                have e68 : act.eval (.tmp 68) = .string sz := h.q 5 68 (by kernel_rfl) rfl
                clear h
                refine gives_by rfl act.eval rfl ?_
                generalize act.eval = ρ at *
                intro hf hc
                go_simp
                exact ⟨rfl, hs⟩
              · intro D vals act wx hu h hs
                have e69 : act.eval (.tmp 69) = .int .i64 (zn : Int) := h.q 6 69 (by kernel_rfl) rfl
                clear h
                refine gives_by rfl act.eval rfl ?_
                generalize act.eval = ρ at *
                intro hf hc
                go_simp
                exact ⟨rfl, hs⟩
              · intro D vals act wx hu h hs
                have e70 : act.eval (.tmp 70) = .int .u8 (zn : Int) := h.q 7 70 (by kernel_rfl) rfl
                clear h
                have hres := RqS.lit1 hs (hu.not 9 (by decide) (by kernel_rfl)) (hu.not 15 (by decide) (by kernel_rfl)) (hu.not 16 (by decide) (by kernel_rfl))
                refine gives_by rfl act.eval rfl ?_
                generalize act.eval = ρ at *
                intro hf hc
                go_simp
                exact gUpon_value rfl (RqS.conv hres)
              · intro D vals act wx hu h hs
                have e63 : act.eval (.tmp 63) = .slice a m c := h.q 0 63 (by kernel_rfl) rfl
                have e71 : act.eval (.tmp 71) = vals 8 := h.val 8 71 (by kernel_rfl)
                clear h
                have h9 : D 9 = false := hu.self
                obtain ⟨g, hg1, hg2⟩ := hs.lit (hu.done 8 (by kernel_rfl)) h9
                rw [hg1] at e71
                obtain ⟨ao, ac, X2, hr2, hn2, ho2, hw2'⟩ := push_b wx w2.heap.size _ zs (hs.row h9) (zn : Int) (by omega) g hg2 (by have := HPM.out; omega) (Nat.le_trans HB.out.size hs.only.size)
                rw [show zs.length + 1 = (zs ++ [(zn : Int)]).length by simp] at hr2 hn2 hw2'
                exact gives_of_run rfl (exec_appR 26 (.tmp 63) (.tmp 71) rfl _ _ _ e63 e71 hr2) (RqS.one hs h9 (hu.not 15 (by decide) (by kernel_rfl)) (hu.not 16 (by decide) (by kernel_rfl)) hn2 ho2 hw2')
              · intro D vals act wx hu h hs
                have e1 : act.eval (.tmp 1) = .pointer (some ⟨w.heap.size, 0, none⟩) := h.old 1 (by kernel_rfl)
                clear h
                refine gives_by rfl act.eval rfl ?_
                generalize act.eval = ρ at *
                intro hf hc
                go_simp
                exact ⟨rfl, hs⟩
              · intro D vals act wx hu h hs
                have e73 : act.eval (.tmp 73) = .pointer (some ⟨w.heap.size, 1, none⟩) := h.q 10 73 (by kernel_rfl) rfl
                clear h
                obtain ⟨y0, y1⟩ := HSC.out wx hs.only
                refine gives_by rfl act.eval rfl ?_
                generalize act.eval = ρ at *
                intro hf hc
                go_simp
                exact ⟨rfl, hs⟩
              · intro D vals act wx hu h hs
                have e8 : act.eval (.tmp 8) = .int .i64 (j : Int) := h.old 8 (by kernel_rfl)
                clear h
                refine gives_by rfl act.eval rfl ?_
                generalize act.eval = ρ at *
                intro hf hc
                go_simp
                exact ⟨rfl, hs⟩
              · intro D vals act wx hu h hs
                have e74 : act.eval (.tmp 74) = .slice (some ⟨sb, soff, none⟩) ns sc := h.q 11 74 (by kernel_rfl) rfl
                have e75 : act.eval (.tmp 75) = .int .i64 (j : Int) := h.q 12 75 (by kernel_rfl) rfl
                clear h
                refine gives_by rfl act.eval rfl ?_
                generalize act.eval = ρ at *
                intro hf hc
                go_simp
                exact ⟨rfl, hs⟩
              · intro D vals act wx hu h hs
                have e76 : act.eval (.tmp 76) = .pointer (some ⟨sb, soff + j, none⟩) := h.q 13 76 (by kernel_rfl) rfl
                clear h
                obtain ⟨y0, y1⟩ := HSC.out wx hs.only
                refine gives_by rfl act.eval rfl ?_
                generalize act.eval = ρ at *
                intro hf hc
                go_simp
                exact ⟨rfl, hs⟩
              · intro D vals act wx hu h hs
                have e72 : act.eval (.tmp 72) = vals 9 := h.val 9 72 (by kernel_rfl)
                have e77 : act.eval (.tmp 77) = .string sz := h.q 14 77 (by kernel_rfl) rfl
                clear h
                have h9 : D 9 = true := hu.done 9 (by kernel_rfl)
                have h15 : D 15 = false := hu.self
                obtain ⟨m1, _, _⟩ := hs.mid h9
                obtain ⟨ao, ac, X2, hr2, hn2, ho2⟩ := push_s wx w2.heap.size _ _ (m1 h15) z HBZ.out (by rw [List.length_append, List.length_singleton, HPM.out, HZN.out]; omega) (Nat.le_trans HB.out.size hs.only.size)
                rw [HSZ.out] at hr2
                exact gives_of_run rfl (exec_appR2 26 9 (.tmp 72) (.tmp 77) rfl _ _ _ e72 e77 hr2) (RqS.two hs h9 h15 (hu.not 16 (by decide) (by kernel_rfl)) hn2 ho2)
              · intro D vals act wx hu h hs
                have e78 : act.eval (.tmp 78) = vals 15 := h.val 15 78 (by kernel_rfl)
                clear h
                exact gives_of_run rfl (exec_assign (.tmp 78) rfl _ e78) (RqS.asg1 hs (hu.done 15 (by kernel_rfl)))
            · intro D vals w5 hq hD hs
              obtain ⟨p1, _, _, _, p5, p6⟩ := hs
              have hv16 := p6 (hD 16 (by decide))
              obtain ⟨p9, a9, n9, c9, h9⟩ := p5 (hD 15 (by decide))
              obtain ⟨a2, c2', hv⟩ := p9.shape
              rw [List.length_append, List.length_append, HPM.out, HZN.out, List.length_singleton] at hv
              rw [hv] at p9 hv16
              have HP1 := hide p1
              have HP9 := hide p9
              simp only [putAll, Act.put, List.setIfInBounds_toArray, List.set_cons_zero, List.set_cons_succ, Nat.zero_add, Nat.reduceAdd]
              rw [hv16]
              clear hv hv16 p1 p5 p6 p9 hq hD h9
              generalize vals 0 = z0 at *
              generalize vals 1 = z1 at *
              generalize vals 2 = z2 at *
              generalize vals 3 = z3 at *
              generalize vals 4 = z4 at *
              generalize vals 5 = z5 at *
              generalize vals 6 = z6 at *
              generalize vals 7 = z7 at *
              generalize vals 8 = z8 at *
              generalize vals 9 = z9 at *
              generalize vals 10 = z10 at *
              generalize vals 11 = z11 at *
              generalize vals 12 = z12 at *
              generalize vals 13 = z13 at *
              generalize vals 14 = z14 at *
              generalize vals 15 = z15 at *
              go_wp2
              go_roundg (GK - 1)
              case measure => have := HGK.out; have := HG.out; omega
              case rel =>
                have e := flat_snoc C.ss txt j _ HX.out
                refine ⟨j + 1, a2, _, c2', by have := HGK.out; have := HG.out; omega, by go_num, rfl, ?_, ?_, HB.out.trans (HP1.out.below HB.out.size (fun q hq e => by have := (HVS.out q e).1; omega))⟩
                · rw [e, List.length_append, HM2.out]
                  have := HZN.out
                  unfold txt
                  rw [List.length_cons, this]
                  omega
                · rw [e, ← List.append_assoc, HZS.out]
                  have := HP9.out
                  rw [show txt z = (zn : Int) :: z by unfold txt; rw [HZN.out]]
                  simpa using this
          · obtain rfl : j = ns := by omega
            have hfull : C.ss.take j = C.ss := List.take_of_length_le (by have := HNS.out; omega)
            have hof := HO.out
            rw [hfull, ← HFD.out] at hof
            have hml : m = (formP C).length := by
              have := HM2.out
              rw [hfull] at this
              rw [HFD.out, List.length_append, HPL.out, this]
            have HOF := hide (hof.base HB2.out.size)
            have HML := hide hml
            have HBE : Hid (Below w.heap.size w WT) := HB1.out.trans (HBW.out.mono HB1.out.size)
            clear hfull hof hml
            by_cases h240 : m ≤ 240
            · have hgt : ¬ (240 : Int) < (m : Int) := by omega
              go_wp2
              go_ret2
              have e1 : bytE C = 0 := by unfold bytE; rw [if_pos HM.out, if_pos (by rw [← HML.out]; exact h240)]
              have e2 : bytL C = formP C := by unfold bytL; rw [if_pos ⟨HM.out, by rw [← HML.out]; exact h240⟩]
              rw [e1, e2]
              exact ⟨_, rfl, HOF.out.base HB1.out.size, HBE.out⟩
            · have hgt : (240 : Int) < (m : Int) := by omega
              go_wp2
              go_ret2
              have e1 : bytE C = 3 := by unfold bytE; rw [if_pos HM.out, if_neg (by rw [← HML.out]; exact h240)]
              have e2 : bytL C = [] := by unfold bytL; rw [if_neg (fun h => h240 (by rw [HML.out]; exact h.2))]
              rw [e1, e2]
              exact ⟨_, rfl, Ob.nil _ _, HBE.out⟩

end Go.Proofs.YtimmfnjkknbofaaDoor
