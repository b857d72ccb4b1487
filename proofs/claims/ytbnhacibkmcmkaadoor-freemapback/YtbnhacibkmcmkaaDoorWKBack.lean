/- The walk of FreemapBack. -/
import Derived.Test.YtbnhacibkmcmkaaDoorKGet
import Derived.Test.YtbnhacibkmcmkaaDoorKRefL
import Derived.Test.YtbnhacibkmcmkaaDoorKLive
namespace Go.Proofs.YtbnhacibkmcmkaaDoor
set_option maxRecDepth 20000
open Go.RowKit
set_option linter.unusedVariables false
set_option maxRecDepth 100000

/-- a [][]byte of the call's own -/
def Rws (w : World) (base : Nat) (v : Value) (vs : List Value) : Prop := w.ownsRow base 25 1 v vs.length vs
theorem infoRow : (Tryd.prog.info? 25).map (fun i => (i.zero, i.size, i.bytes)) = some (some (.slice none 0 0), 1, 24) := by kernel_rfl
theorem run_append_row (w : World) (base : Nat) (v : Value) (vs : List Value) (h : Rws w base v vs) (ao : Option Addr) (n c : Nat) (hl : vs.length + 1 ≤ 1000000) (hb : base ≤ w.heap.size) :
    ∃ v' w', (Builtin.append_ #[23, 23] 23 #[v, .slice (some ⟨w.heap.size, 0, none⟩) 1 1]).run Tryd.prog (w.alloc (.cells #[.slice ao n c] 25)) = .ok v' w' ∧ Rws w' base v' (vs ++ [.slice ao n c]) ∧ Only (fun j => v.ownBlock = some j) w w' := by
  obtain ⟨i0, hi, hz, hs, hby⟩ := info_parts infoRow
  obtain ⟨v', w', hr, h1, h2, _, h4⟩ := run_append_own_at (P := Tryd.prog) (w.alloc (.cells #[.slice ao n c] 25)) base 23 23 25 i0 (.slice none 0 0) 1 24 Tryd.underlying23 hi hz hs hby rfl (by decide) v vs.length vs (World.ownsRow.alloc h _) ⟨w.heap.size, 0, none⟩ 1 1 [.slice ao n c] rfl
    (fun j u hj => by
      have hB := Blk.new w 25 [.slice ao n c]
      have hj0 : j < 1 := by have := (List.getElem?_eq_some_iff.1 hj).1; simpa using this
      obtain rfl : j = 0 := by omega
      have := hB.cell 0
      simp only [List.getElem?_cons_zero, Option.some.injEq] at hj
      subst hj
      exact this) (by intro u hu; simp at hu; subst hu; rfl) (by unfold maxLen; omega) (by omega) (by simp; omega)
  refine ⟨v', w', hr, ?_, ((Only.refl _ w).alloc _).grown h2 (fun j e _ => e)⟩
  unfold Rws
  simpa using h1
theorem Rws.own {w : World} {base : Nat} {v : Value} {vs : List Value} (h : Rws w base v vs) (k : Nat) (hk : v.ownBlock = some k) : base ≤ k ∧ ∃ cs, Blk w k 25 cs := by
  rcases h.2 with ⟨rfl, _⟩ | ⟨g, cap, cur, rfl, hb, hg, _⟩
  · cases hk
  · obtain rfl : g = k := Option.some.inj hk
    exact ⟨hb, cur.toList, by unfold Blk; simpa using hg⟩
theorem Rws.below {w w' : World} {base : Nat} {v : Value} {vs : List Value} (h : Rws w base v vs) (hb : Below w.heap.size w w') : Rws w' base v vs := ownsRow_only h (Only.of_below (fun _ => False) hb) (fun _ _ h => h)
/-- pages that stand in it -/
structure PgsI (w : World) (ks : List Int) (v : Value) (vs : List Value) (wr : World) : Prop where
  row : Rws wr w.heap.size v vs
  pg : ∀ i, i < vs.length → ∃ g, vs.getD i (.slice none 0 0) = pgv g ∧ Blk wr g 5 (bv (putS i ks))
  below : Below w.heap.size w wr
theorem PgsI.parts {w : World} {ks : List Int} {v : Value} {vs : List Value} {wr : World} (h : PgsI w ks v vs wr) : Parts wr v vs (putAllS vs.length ks) := by
  refine ⟨by rw [putAllS_len], ?_⟩
  have hs : ∀ i, i < vs.length → Sl wr (vs.getD i (.slice none 0 0)) ((putAllS vs.length ks).getD i []) := fun i hi => by
    obtain ⟨g, e, hB⟩ := h.pg i hi
    rw [e, putAllS_get _ _ _ hi]
    exact sl_pg (putS_ok _ _) (putS_length _ _) hB
  rcases h.row.2 with ⟨rfl, h0⟩ | ⟨g, cap, cur, rfl, hb, hg, hnc, hcm, hcs, ht⟩
  · exact ⟨none, 0, by rw [h0], by omega, by simp [maxLen], hs, fun hne => absurd (List.eq_nil_of_length_eq_zero h0) hne⟩
  · refine ⟨_, cap, rfl, hnc, hcm, hs, fun _ => ⟨g, 0, rfl, fun i hi => ?_⟩⟩
    rw [cell_of_row wr g (0 + i) cur 25 (0, 0) hg]
    have : (cur.toList.take (vs.length * 1))[i]? = vs[i]? := by rw [ht]
    rw [List.getElem?_take, if_pos (by omega)] at this
    simp at this
    rw [Nat.zero_add, this]
    simp [List.getD, hi]
theorem PgsI.grow {w : World} {ks : List Int} {v : Value} {vs : List Value} {wr W : World} (h : PgsI w ks v vs wr) (hb : Below wr.heap.size wr W) : PgsI w ks v vs W :=
  ⟨h.row.below hb, fun i hi => by obtain ⟨g, e, hB⟩ := h.pg i hi; exact ⟨g, e, hB.below hb hB.lt⟩, below_on h.below hb⟩
theorem PgsI.more {w : World} {ks : List Int} {v v' : Value} {vs : List Value} {wr W : World} {g k : Nat} (h : PgsI w ks v vs wr) (hk : vs.length = k) (hB : Blk wr g 5 (bv (putS k ks))) (hr : Rws W w.heap.size v' (vs ++ [pgv g])) (ho : Only (fun j => v.ownBlock = some j) wr W) : PgsI w ks v' (vs ++ [pgv g]) W := by
  have keep : ∀ {q : Nat} {cs : List Value}, Blk wr q 5 cs → Blk W q 5 cs := fun {q cs} hq => hq.only ho (fun e => by
    obtain ⟨_, cs', hc⟩ := h.row.own q e
    exact Blk.ne hq hc (by decide) rfl)
  refine ⟨hr, fun i hi => ?_, h.below.trans (ho.below h.below.size (fun j hj e => by have := (h.row.own j e).1; omega))⟩
  rw [List.length_append, List.length_singleton] at hi
  by_cases hik : i < vs.length
  · obtain ⟨q, e, hq⟩ := h.pg i hik
    refine ⟨q, ?_, keep hq⟩
    rw [← e]
    simp only [List.getD]
    rw [List.getElem?_append_left hik]
  · obtain rfl : i = vs.length := by omega
    refine ⟨g, by simp [List.getD], ?_⟩
    rw [hk]
    exact keep hB

set_option maxHeartbeats 4000000 in
theorem freemapBack_walk (w : World) (pages : Int) (v1 : Value) (ks : List Int) (hpg : (Lit.int .i64 pages).wf = true) (hv1 : Is w v1 ks) (hT : TabB w) : Calls Tryd.prog 5 #[.int .i64 pages, v1] w fun e w' => e = .returned (.bool true) ∧ Below w.heap.size w w' := by
  have HL := hide (fun (W : World) (hb : Below w.heap.size w W) => live_any W (hT.below hb))
  obtain ⟨ao1, cap1, rfl⟩ : ∃ ao cap, v1 = .slice ao ks.length cap := by obtain ⟨ao, cap, h, _⟩ := hv1; exact ⟨ao, cap, h⟩
  have HV1 := hide hv1
  have HND := hide (fun W => need_any W pages)
  obtain ⟨N1, hN1⟩ : ∃ N1, ks.length = N1 := ⟨_, rfl⟩
  rw [hN1] at HV1 ⊢
  by_cases hbig : 5000 < N1
  · have hbigi : (5000 : Int) < (N1 : Int) := by omega
    clear hv1 hN1 hT
    go_enter Tryd.func5, Tryd.ntmps5
    go_wp2_with (first
      | (go_at_call 9; refine (HL.out w (Below.refl _ w)).mono ?_; rintro e w1 ⟨rfl, hb1⟩; have HB1 := hide hb1; clear hb1)
      | (go_at_call 9; refine (HL.out w1 HB1.out).mono ?_; rintro e w2 ⟨rfl, hb2⟩; have HB2 := hide (below_on HB1.out hb2); clear hb2 HL))
    go_ret
    exact ⟨rfl, HB2.out⟩
  · have hbigi : ¬ (5000 : Int) < (N1 : Int) := by omega
    obtain ⟨D, hD⟩ : ∃ D : Nat, needN pages = D := by
      refine ⟨(needN pages).toNat, ?_⟩
      have : 0 ≤ needN pages := by
        unfold needN
        split
        · rename_i h
          have := sizeB_iff.1 h
          omega
        · omega
      omega
    rw [hD] at HND
    have hD2 : D ≤ 2 := by
      have : needN pages ≤ 2 := by
        unfold needN
        split
        · rename_i h
          have := sizeB_iff.1 h
          omega
        · omega
      omega
    have HPUT : Hid (∀ W (k : Nat), Below w.heap.size w W → k < D → mayB pages ks = true → Calls Tryd.prog 10 #[.int .i64 pages, .slice ao1 N1 cap1, .int .i64 k] W fun e w' => e = .returned (.tuple #[pgv W.heap.size, .int .i64 0]) ∧ Blk w' W.heap.size 5 (bv (putS k ks)) ∧ Below W.heap.size W w') := fun W k hb hk hmm => by
      have hsz : 8 ≤ pages := by rw [mayB, Bool.and_eq_true, sizeB_iff] at hmm; exact hmm.1.1
      obtain ⟨n, rfl⟩ : ∃ n : Nat, pages = n := ⟨pages.toNat, by omega⟩
      exact put_ok W n _ ks k (HV1.out.below hb) hmm (by rw [hD]; omega)
    have HPUB : Hid (∀ W (k : Nat), Below w.heap.size w W → mayB pages ks = false → Calls Tryd.prog 10 #[.int .i64 pages, .slice ao1 N1 cap1, .int .i64 k] W fun e w' => e = .returned (.tuple #[.slice none 0 0, .int .i64 1]) ∧ w' = W) := fun W k hb hmm => put_bad W pages _ ks k (HV1.out.below hb) (fun hh => by rw [hmm] at hh; cases hh.1)
    have HLS : Hid (∀ W, Below w.heap.size w W → 0 < D → mayB pages ks = false → Calls Tryd.prog 27 #[.int .i64 pages, .slice ao1 N1 cap1] W fun e w' => e = .returned (.bool false) ∧ Below W.heap.size W w') := fun W hb hd hmm => by
      have hsz : sizeB pages = true := by
        cases hs : sizeB pages with
        | true => rfl
        | false => rw [needN, hs] at hD; simp at hD; omega
      have hri : riseB pages (-1) ks = false := by rw [mayB, hsz] at hmm; simpa using hmm
      refine (refList_any W pages _ ks (HV1.out.below hb)).mono ?_
      rintro e w' ⟨rfl, q, rfl⟩
      exact ⟨by rw [hri], belowN W q⟩
    have HGET : Hid (∀ W v vs, PgsI w ks v vs W → vs.length = D → 0 < D → mayB pages ks = true → Calls Tryd.prog 12 #[.int .i64 pages, v] W fun e w' => ∃ u, e = .returned (.tuple #[u, .int .i64 0]) ∧ Is w' u ks ∧ Below W.heap.size W w') := fun W v vs hp hvl hd hmm => by
      have hmm' := hmm
      rw [mayB, Bool.and_eq_true, sizeB_iff] at hmm
      obtain ⟨n, rfl⟩ : ∃ n : Nat, pages = n := ⟨pages.toNat, by omega⟩
      have hrd : rdAll 0 (putAllS vs.length ks) = ks := rd_back hmm.2 vs.length (by
        have := needN_ok (n := n) (by omega) (by omega)
        omega)
      have hok : okRows n (putAllS vs.length ks) = true := okRows_yes (by rw [hrd]; exact hmm') (fun i hi => by rw [putAllS_len] at hi; rw [hrd]; exact putAllS_get _ _ _ hi)
      obtain ⟨e1, e2⟩ := getE_yes hmm.1 (by rw [putAllS_len, hvl, hD]) hok
      refine (get_any W n v vs _ hp.parts (by rw [putAllS_len]; omega)).mono ?_
      rintro e w' ⟨u, rfl, hi, hb⟩
      rw [e1]
      rw [e2, hrd] at hi
      exact ⟨u, rfl, hi.is, hb⟩
    have HGE0 : Hid (∀ W v vs, PgsI w ks v vs W → vs.length = 0 → D = 0 → Calls Tryd.prog 12 #[.int .i64 pages, v] W fun e w' => ∃ ao cap, e = .returned (.tuple #[.slice ao 0 cap, .int .i64 1]) ∧ Below W.heap.size W w') := fun W v vs hp hvl hd => by
      have hsz : ¬ (8 ≤ pages ∧ pages ≤ 2048) := fun hs => by
        have : needN pages = 1 + (pages - 1) / 1024 := by rw [needN, sizeB_iff.2 hs]; rfl
        omega
      obtain ⟨e1, e2⟩ := getE_size (rs := putAllS vs.length ks) hsz
      refine (get_any W pages v vs _ hp.parts (by rw [putAllS_len]; omega)).mono ?_
      rintro e w' ⟨u, rfl, hi, hb⟩
      rw [e1]
      rw [e2] at hi
      obtain ⟨ao, cap, rfl⟩ := hi.shape
      exact ⟨ao, cap, rfl, hb⟩
    have HEQ : Hid (∀ W u, Below w.heap.size w W → Is W u ks → Calls Tryd.prog 17 #[u, .slice ao1 N1 cap1] W fun e w' => e = .returned (.bool true) ∧ Below W.heap.size W w') := fun W u hb hu => by
      refine (sEqual_any W _ _ _ _ hu (HV1.out.below hb)).mono ?_
      rintro e w' ⟨rfl, q, rfl⟩
      exact ⟨by simp, belowN W q⟩
    clear hv1 hN1 hT hD
    go_enter Tryd.func5, Tryd.ntmps5
    go_wp2_with (first
      | (go_at_call 9; refine (HL.out w (Below.refl _ w)).mono ?_; rintro e w1 ⟨rfl, hb1⟩; have HB1 := hide hb1; clear hb1 HL)
      | (go_at_call 14; refine (HND.out w1).mono ?_; rintro e w2 ⟨rfl, hw⟩; subst w2; clear HND))
    go_loopg [5, 21] D (fun gg lv kv wr => ∃ (k : Nat) (vs : List Value), gg + k = D ∧ kv = .int .i64 k ∧ vs.length = k ∧ PgsI w ks lv vs wr ∧ (k = 0 ∨ mayB pages ks = true))
    case atStart => exact ⟨0, [], by omega, rfl, rfl, ⟨World.ownsRow_nil _ _ _ _, fun i hi => by simp at hi, HB1.out⟩, .inl rfl⟩
    case round =>
      obtain ⟨k, vs, hk, rfl, hvk, hp, hmk⟩ := hrel
      have HP := hide hp
      have HVK := hide hvk
      obtain ⟨aol, capl, hlv⟩ := own_form' hp.row
      rw [hvk] at hlv
      subst hlv
      clear HB1
      cases gk with
      | zero =>
        obtain rfl : k = D := by omega
        have h3 : ¬ (k : Int) < (k : Int) := by omega
        by_cases hD0 : k = 0
        · have HG := hide (HGE0.out wr _ vs hp (by omega) hD0)
          have hk0 : (k : Int) = 0 := by omega
          clear hp hvk hmk HPUT HPUB HLS HGET hD0 hk
          go_wp2_with (first
            | (go_at_call 12; refine HG.out.mono ?_; rintro e w3 ⟨ao3, cap3, rfl, hb3⟩; have HB3 := hide (below_on HP.out.below hb3); clear HG hb3))
          go_ret
          exact ⟨rfl, HB3.out⟩
        · have HG := hide (HGET.out wr _ vs hp (by omega) (by omega) (hmk.resolve_left (by omega)))
          have hk0 : ¬ (k : Int) = 0 := by omega
          clear hp hvk hmk HPUT HPUB HLS HGET hD0 hk
          go_wp2_with (first
            | (go_at_call 12; refine HG.out.mono ?_; rintro e w3 ⟨u3, rfl, hi3, hb3⟩; have HB3 := hide (below_on HP.out.below hb3); have HE := hide (HEQ.out w3 u3 HB3.out hi3); clear HG hb3 hi3)
            | (go_at_call 17; refine HE.out.mono ?_; rintro e w4 ⟨rfl, hb4⟩; have HB4 := hide (below_on HB3.out hb4); clear HE hb4))
          go_ret
          exact ⟨rfl, HB4.out⟩
      | succ gg =>
        have h3 : (k : Int) < (D : Int) := by omega
        have hkD : k < D := by omega
        cases hmy : mayB pages ks with
        | false =>
          have HPP := hide (HPUB.out wr k hp.below hmy)
          have HLL := hide (HLS.out wr hp.below (by omega) hmy)
          clear hp hvk hmk HPUT HPUB HLS HGET hmy
          go_wp2_with (first
            | (go_at_call 10; refine HPP.out.mono ?_; rintro e w3 ⟨rfl, hw⟩; subst w3; clear HPP)
            | (go_at_call 27; refine HLL.out.mono ?_; rintro e w4 ⟨rfl, hb4⟩; have HB4 := hide (below_on HP.out.below hb4); clear HLL hb4))
          go_ret
          exact ⟨rfl, HB4.out⟩
        | true =>
          have HPP := hide (HPUT.out wr k hp.below hkD hmy)
          have HAP : Hid (∀ W, Below wr.heap.size wr W → Blk W wr.heap.size 5 (bv (putS k ks)) → ∃ v' w', (Builtin.append_ #[23, 23] 23 #[.slice aol k capl, .slice (some ⟨W.heap.size, 0, none⟩) 1 1]).run Tryd.prog (W.alloc (.cells #[pgv wr.heap.size] 25)) = .ok v' w' ∧ Hid (PgsI w ks v' (vs ++ [pgv wr.heap.size]) w')) := fun W hbW hB => by
            have hg := HP.out.grow hbW
            obtain ⟨v', w', hr, h1, h2⟩ := run_append_row W w.heap.size _ vs hg.row (some ⟨wr.heap.size, 0, none⟩) 240 240 (by rw [HVK.out]; omega) hg.below.size
            exact ⟨v', w', hr, hg.more HVK.out hB h1 h2⟩
          have HMY := hide hmy
          clear hp hvk hmk HPUT HPUB HLS HGET hmy
          go_wp2_with (first
            | (go_at_call 10; refine HPP.out.mono ?_; rintro e w3 ⟨rfl, hB3, hb3⟩; obtain ⟨v', w', hr, HN⟩ := HAP.out w3 hb3 hB3; have HR := hide hr; clear HPP hB3 hb3 hr HAP)
            | (at_builtin; (with_reducible refine wpList_append_run _ rfl (.tmp 41) (.tmp 43) 23 rfl _ _ ?_ ?_ _ _ HR.out ?_); exact rfl; exact rfl; clear HR))
          go_roundg gg
          case measure => omega
          case rel => exact ⟨k + 1, _, by omega, by go_num, by rw [List.length_append, HVK.out]; rfl, HN.out, .inr HMY.out⟩

end Go.Proofs.YtbnhacibkmcmkaaDoor
