/- Contract: same (incipitlaw05): is a cache what it must be? -/
import Derived.Test.YtoplhehcjgldeaaGreatJRDo6
namespace Go.Proofs.YtoplhehcjgldeaaGreat
open Go.RowKit
set_option linter.unusedVariables false
set_option maxRecDepth 100000

def wantC (n : Nat) (l : List Hd) : List (Int × Bool) := ((upTo n).filter (hasC l)).map (fun q => (q, chgF l q))
theorem pairs_want {n : Nat} {l : List Hd} (h : (l.map (·.p)).Nodup) (hp : ∀ x ∈ l, x.p < n) : pairs (srt (ordC l)) (changedC l) = wantC n l := by
  unfold pairs wantC
  rw [srt_upTo h hp, changed_upTo h hp]
  apply List.map_congr_left
  intro q hq
  have hq1 := (List.mem_filter.1 hq).1
  congr 1
  cases hc : chgF l q with
  | true => exact List.contains_iff_mem.2 (List.mem_filter.2 ⟨hq1, hc⟩)
  | false =>
    cases hx : ((upTo n).filter (chgF l)).contains q with
    | false => rfl
    | true =>
      have := (List.mem_filter.1 (List.contains_iff_mem.1 hx)).2
      rw [hc] at this
      cases this
theorem wantC_succ (k : Nat) (l : List Hd) : wantC (k + 1) l = wantC k l ++ (if hasC l k = true then [((k : Int), chgF l k)] else []) := by
  unfold wantC
  rw [upTo_succ, List.filter_append, List.map_append, List.filter_cons]
  congr 1
  split <;> rfl
theorem wantC_len (k : Nat) (l : List Hd) : (wantC k l).length ≤ k := by
  unfold wantC
  rw [List.length_map]
  refine Nat.le_trans (List.length_filter_le _ _) ?_
  rw [upTo_len]
  exact Nat.le_refl _
theorem srt_len (l : List Hd) : (srt (ordC l)).length = l.length := by rw [List.length_mergeSort, ordC_len]

theorem run_append_one2 (w : World) (base : Nat) (v : Value) (xs : List (Int × Bool)) (h : Ones w base v xs) (x : Int × Bool) (hl : xs.length + 1 ≤ 1000000) (hb : base ≤ w.heap.size) :
    ∃ v' w', (Builtin.append_ #[73, 73] 73 #[v, .slice (some ⟨w.heap.size, 0, none⟩) 1 1]).run Tryz.prog (w.alloc (.cells #[.int .i64 x.1, .bool x.2] 78)) = .ok v' w' ∧ Ones w' base v' (xs ++ [x]) ∧ Only (fun j => v.ownBlock = some j) w w' := by
  obtain ⟨v', w', hr, h2, h3, _⟩ := run_append_one w base v xs h x hl hb
  exact ⟨v', w', hr, h2, ((Only.refl _ w).alloc _).grown h3 (fun j e _ => e)⟩
theorem Ones.at {w : World} {base : Nat} {ao : Option Addr} {n cap : Nat} {xs : List (Int × Bool)} (h : Ones w base (.slice ao n cap) xs) {i : Nat} (hi : i < xs.length) : ∃ g, ao = some ⟨g, 0, none⟩ ∧ w.cell? ⟨g, i * 2, none⟩ = some (.int .i64 xs[i].1) ∧ w.cell? ⟨g, i * 2 + 1, none⟩ = some (.bool xs[i].2) := by
  have hlen : ∀ ys : List (Int × Bool), (oneRow ys).length = ys.length * 2 := fun ys => by
    induction ys with
    | nil => rfl
    | cons y ys ih =>
      unfold oneRow at ih ⊢
      rw [List.map_cons, List.flatten_cons, List.length_append, ih, List.length_cons]
      show 2 + ys.length * 2 = _
      omega
  have hat : ∀ (ys : List (Int × Bool)) (i j : Nat) (hi : i < ys.length), j < 2 → (oneRow ys)[i * 2 + j]? = (one2 ys[i])[j]? := fun ys => by
    induction ys with
    | nil => intro i j hi; simp at hi
    | cons y ys ih =>
      intro i j hi hj
      cases i with
      | zero =>
        unfold oneRow
        rw [List.map_cons, List.flatten_cons, Nat.zero_mul, Nat.zero_add, List.getElem?_append_left (by show j < 2; exact hj)]
        rfl
      | succ i =>
        have := ih i j (by simpa using hi) hj
        unfold oneRow at this ⊢
        rw [List.map_cons, List.flatten_cons, List.getElem?_append_right (by show 2 ≤ _; omega), show (i + 1) * 2 + j - (one2 y).length = i * 2 + j by show (i + 1) * 2 + j - 2 = _; omega, this]
        rfl
  have h' : w.ownsRow base 78 2 (.slice ao n cap) xs.length (oneRow xs) := h
  rcases own_form h' with ⟨e, h0⟩ | ⟨g, cap', e⟩
  · omega
  · simp only [Value.slice.injEq] at e
    obtain ⟨rfl, rfl, rfl⟩ := e
    refine ⟨g, rfl, ?_, ?_⟩
    · rw [h'.cellAt (i * 2) (by omega)]
      exact hat xs i 0 hi (by omega)
    · rw [h'.cellAt (i * 2 + 1) (by omega)]
      exact hat xs i 1 hi (by omega)
theorem Ones.cap {w : World} {base : Nat} {ao : Option Addr} {n cap : Nat} {xs : List (Int × Bool)} (h : Ones w base (.slice ao n cap) xs) : xs.length ≤ cap ∧ cap ≤ 9223372036854775807 := by
  have h' : w.ownsRow base 78 2 (.slice ao n cap) xs.length (oneRow xs) := h
  obtain ⟨a, c, e⟩ := own_form' h'
  simp only [Value.slice.injEq] at e
  obtain ⟨rfl, rfl, rfl⟩ := e
  exact own_len h'
theorem Ones.below {w w' : World} {base : Nat} {v : Value} {xs : List (Int × Bool)} (h : Ones w base v xs) (hb : Below w.heap.size w w') : Ones w' base v xs := h.only (Only.of_below (fun _ => False) hb) (fun _ _ h => h)

section
variable (w0 w : World) (S X : Nat → Prop) (c b : Nat) (ch : Ch) (d : Dv)
theorem told_two (h : Duos w0 S X w c b ch d) (M : Nat) (hM : M ≤ 2000000) :
    Calls Tryz.prog 42 #[.func (.func 74) #[] #[.pointer (some ⟨w.heap.size, 0, none⟩)], .int .i64 M] (w.alloc (.cells #[dp c] 31)) fun e w' => ∃ v, e = .returned v ∧ Ones w' w.heap.size v ((wantC d.st.length ch.l).take M) ∧ Below w.heap.size w w' := by
  have ok := h.ok
  have hlen : ch.l.length ≤ 64 := by have := ok.few; have := ok.hi; omega
  have hb1 : Below w.heap.size w (w.alloc (.cells #[dp c] 31)) := (Below.refl _ w).alloc (Nat.le_refl _) _
  have h1 := h.below hb1
  have hB := Blk.new w 31 [dp c]
  rw [← pairs_want ok.nodup (fun x hx => (ok.pages x hx).1)]
  have hR := srt_len ch.l
  have hC := changedC_len ch.l
  refine (told_any _ 74 #[.pointer (some ⟨w.heap.size, 0, none⟩)] (pairs (srt (ordC ch.l)) (changedC ch.l)) (AllV w.heap.size (some ⟨c, 0, none⟩) (srt (ordC ch.l)) (changedC ch.l)) enters_all (all_iter w.heap.size (some ⟨c, 0, none⟩) (srt (ordC ch.l)) (changedC ch.l) (by omega) (by omega) (changed_rise ok.nodup)) ?_ (by rw [List.length_map]; omega) M hM).mono ?_
  · intro k W' ho _ W2 hb2
    have hbW := ho.below (Nat.le_refl _) (fun _ _ h => h)
    have h2 := (h1.below hbW).below hb2
    have hB1 := hB.only ho (fun h => h)
    have hB2 := hB1.below hb2 hB1.lt
    refine ⟨hB2.cell 0, ?_, changed_any w0 W2 S X c b ch d h2⟩
    obtain ⟨H, G, k1, _⟩ := h2
    exact rising_any W2 c b H ch.size (ordC ch.l) ch.l ch.hits ch.misses k1
  · rintro e w' ⟨v, rfl, ho, hb⟩
    refine ⟨v, rfl, ?_, after_alloc hb⟩
    have : w'.ownsRow (w.alloc (.cells #[dp c] 31)).heap.size 78 2 v _ _ := ho
    exact ownsRow_base this (by simp)
end

end Go.Proofs.YtoplhehcjgldeaaGreat
/- Contract: same (incipitlaw05): the walk. -/
namespace Go.Proofs.YtoplhehcjgldeaaGreat
open Go.RowKit
set_option linter.unusedVariables false
set_option maxRecDepth 100000

/-- what the document's side shows -/
theorem refC_reads {w : World} {c r : Nat} {K : Nat → Prop} {ch : Ch} {d : Dv} (h : RefC w c r K ch d) : w.cell? ⟨c, 0, none⟩ = some (dp r) ∧ w.cell? ⟨c, 3, none⟩ = some (.int .i64 ch.hits) ∧ w.cell? ⟨c, 4, none⟩ = some (.int .i64 ch.misses) ∧ (∃ a cap, w.cell? ⟨r, 0, none⟩ = some (.slice a d.st.length cap)) ∧ (∃ a cap, w.cell? ⟨r, 1, none⟩ = some (.slice a d.ws.length cap)) ∧ w.cell? ⟨r, 4, none⟩ = some (.int .i64 d.done) := by
  obtain ⟨H, G, hs, lv, h1, h2, ⟨sv, wv, svs, wvs, h3⟩, h4, h5⟩ := h
  obtain ⟨a, cap, e⟩ := own_form' h3.st
  obtain ⟨a2, cap2, e2⟩ := own_form' h3.ws
  exact ⟨h1.c0, h1.c3, h1.c4, ⟨a, cap, by rw [← e]; exact h3.blk.c0⟩, ⟨a2, cap2, by rw [← e2]; exact h3.blk.c1⟩, h3.blk.c4⟩
/-- Find of the document's, and the page's mark -/
theorem refC_find {w : World} {c r : Nat} {K : Nat → Prop} {ch : Ch} {d : Dv} (h : RefC w c r K ch d) (ok : ChOk d.st.length ch) (p : Int) :
    (hasC ch.l p = false ∧ Calls Tryz.prog 41 #[dp c, .int .i64 p] w fun e w' => e = .returned (.int .i64 (-1)) ∧ w' = w) ∨
    (hasC ch.l p = true ∧ ∃ (i len g cap : Nat), i < len ∧ len ≤ cap ∧ cap ≤ 9223372036854775807 ∧ w.cell? ⟨c, 2, none⟩ = some (.slice (some ⟨g, 0, none⟩) len cap) ∧ w.cell? ⟨g, i * 4 + 2, none⟩ = some (.bool (chgF ch.l p)) ∧ Calls Tryz.prog 41 #[dp c, .int .i64 p] w fun e w' => e = .returned (.int .i64 i) ∧ w' = w) := by
  obtain ⟨H, G, hs, lv, hC, hm, hR, hap, hin⟩ := h
  have hlen : hs.length = ch.l.length := by rw [← hm]; simp
  have hl64 : hs.length ≤ 64 := by have := ok.few; have := ok.hi; omega
  have hn : ((hs.map (·.1)).map (·.p)).Nodup := by rw [hm]; exact ok.nodup
  rcases find_or hs p with hno | ⟨i, hi, hip⟩
  · refine .inl ⟨?_, refFind_no w c r H hs ch.size ch.hits ch.misses lv hC hl64 p hno⟩
    cases hh : hasC ch.l p with
    | false => rfl
    | true =>
      obtain ⟨y, hy, e⟩ := hasC_iff.1 hh
      rw [← hm] at hy
      obtain ⟨z, hz, rfl⟩ := List.mem_map.1 hy
      exact absurd e (hno z hz)
  · have hmem : hs[i].1 ∈ ch.l := by rw [← hm]; exact List.mem_map_of_mem (List.getElem_mem hi)
    obtain ⟨ao, cap, rfl, hc1, hc2⟩ := hC.shape
    obtain ⟨g, rfl, _, _, _, k2, _⟩ := hC.at hi
    refine .inr ⟨hasC_iff.2 ⟨_, hmem, hip⟩, i, hs.length, g, cap, hi, hc1, hc2, hC.c2, ?_, refFind_yes w c r H hs ch.size ch.hits ch.misses _ hC hl64 hn p i hi hip⟩
    rw [← hip, chgF_mem ok.nodup hmem]
    exact k2

set_option maxHeartbeats 2000000 in
theorem same_any (w0 w : World) (Q : Nat → Prop) (c b cr r n : Nat) (ch : Ch) (d : Dv) (h : Two5 w0 Q w c b cr r n ch d) (hn : n < 200000) (p : Int) (hp : Wf p) :
    Calls Tryz.prog 10 #[dp c, dp cr, .int .i64 p] w fun e w' => e = .returned (.bool true) ∧ Below w.heap.size w w' := by
  obtain ⟨K, h1, h2, h3, h4⟩ := h
  have ok := h1.ok
  have hdl : d.st.length ≤ 2048 := h1.dvok.few
  have HD : Hid (∀ wx, Below w.heap.size w wx → Duos w0 No (fun k => K k ∨ Q k) wx c b ch d) := fun wx hb => h1.below hb
  have HR : Hid (∀ wx, Below w.heap.size w wx → RefC wx cr r K ch d) := fun wx hb => h2.below hb
  have HOK := hide ok
  have HCo := hide (counts_any w0 w No _ c b ch d h1)
  obtain ⟨N, hN⟩ : ∃ N, d.st.length = N := ⟨_, rfl⟩
  have HNN := hide hN
  have HTo : Hid (∀ wx, Below w.heap.size w wx → ∀ M : Nat, M ≤ 2000000 → Calls Tryz.prog 42 #[.func (.func 74) #[] #[.pointer (some ⟨wx.heap.size, 0, none⟩)], .int .i64 M] (wx.alloc (.cells #[dp c] 31)) fun e w' => ∃ v, e = .returned v ∧ Ones w' wx.heap.size v ((wantC N ch.l).take M) ∧ Below wx.heap.size wx w') := fun wx hb M hM => by
    rw [← hN]
    exact told_two w0 wx No _ c b ch d (h1.below hb) M hM
  have hwl : (wantC N ch.l).length ≤ 2048 := by have := wantC_len N ch.l; omega
  rw [hN] at hdl
  clear h1 h2 h3 ok hN
  go_enter Tryz.func10, Tryz.ntmps10
  go_wp2_with (first
    | (go_at_call 39; refine HCo.out.mono ?_; rintro e w1 ⟨rfl, hb1⟩; have HB1 := hide hb1; have HHe := hide (refHeld_any w1 cr r K ch d (HR.out w1 hb1) HOK.out); clear HCo hb1)
    | (go_at_call 40; refine HHe.out.mono ?_; rintro e w2 ⟨v2, rfl, hi2, hb2⟩; obtain ⟨a2, cap2, hv2⟩ := hi2.shape; generalize (ch.l.map (fun h => (h.p : Int))).length = nh at hv2; subst hv2; have HB2 := hide (below_then HB1.out hb2 (Nat.le_refl _)); have HI2 := hide hi2; obtain ⟨r0, r3, r4, ⟨asl, caps, rs⟩, _, _⟩ := refC_reads (HR.out w2 HB2.out); rw [HNN.out] at rs; clear HHe hi2 hb2 HB1))
  have HS2 := hide (HB2.out.size)
  go_loopg [9, 11, 12, 30] N (fun gk wv qv kv iv wr => ∃ k : Nat, gk + k = N ∧ iv = .int .i64 k ∧ Below w2.heap.size w2 wr ∧ w2.heap.size ≤ wr.heap.size ∧ Ones wr w2.heap.size wv (wantC k ch.l))
  case atStart => exact ⟨0, by omega, rfl, Below.refl _ _, Nat.le_refl _, World.ownsRow_nil _ _ _ _⟩
  case round =>
    obtain ⟨k, hk, rfl, hb, hws, hon⟩ := hrel
    have HB := hide hb
    have HON := hide hon
    have HBw := hide (below_then HB2.out hb (Nat.le_refl _))
    cases gk with
    | succ gk =>
      have hkn : k < N := by omega
      have hki : (k : Int) < (N : Int) := by omega
      have es := wantC_succ k ch.l
      rcases refC_find (HR.out wr HBw.out) HOK.out k with ⟨hf, hcall⟩ | ⟨hf, i, len, g, cap, hi, hc1, hc2, c2, k2, hcall⟩
      · rw [hf, if_neg (by decide), List.append_nil] at es
        have HES := hide es
        have HF := hide hcall
        clear es hf hcall hon hb r0 r3 r4 rs
        go_wp2_with (go_at_call 41; refine HF.out.mono ?_; rintro e wz ⟨rfl, hw⟩; subst wz; clear HF)
        go_roundg gk
        case measure => omega
        case rel => exact ⟨k + 1, by omega, by go_num, HB.out, hws, by rw [HES.out]; exact HON.out⟩
      · rw [hf, if_pos rfl] at es
        obtain ⟨v', w', hr, ho2, ho3⟩ := run_append_one2 wr w2.heap.size _ _ hon ((k : Int), chgF ch.l k) (by have := wantC_len k ch.l; omega) hws
        rw [← es] at ho2
        obtain ⟨bb, hbb⟩ : ∃ bb, chgF ch.l k = bb := ⟨_, rfl⟩
        rw [hbb] at hr k2
        have HR' := hide hr
        have HO2 := hide ho2
        have HO3 := hide ho3
        have HF := hide hcall
        have hii : ¬ (i : Int) < 0 := by omega
        have hil : (i : Int) < (len : Int) := by omega
        clear es hf hcall hon hb r0 r3 r4 rs hr ho2 ho3 hbb
        go_wp2_with (first
          | (go_at_call 41; refine HF.out.mono ?_; rintro e wz ⟨rfl, hw⟩; subst wz; clear HF)
          | (at_builtin; (with_reducible refine wpList_append_run _ rfl (.tmp 38) (.tmp 49) 73 rfl _ _ ?_ ?_ _ _ HR'.out ?_); exact rfl; exact rfl; clear HR'))
        go_roundg gk
        case measure => omega
        case rel => exact ⟨k + 1, by omega, by go_num, HB.out.trans (HO3.out.below hws (fun j hj e => by have := (HON.out.lt j e).1; omega)), Nat.le_trans hws HO3.out.size, HO2.out⟩
    | zero =>
      obtain rfl : k = N := by omega
      obtain ⟨aw, capw, rfl⟩ := hon.shape
      obtain ⟨m, hm⟩ : ∃ m, (wantC k ch.l).length = m := ⟨_, rfl⟩
      rw [hm] at HON hwl ⊢
      have HM := hide hm
      have HT1 := hide (HTo.out wr HBw.out 1048576 (by omega))
      clear hon hb hm r0 r3 r4 rs
      have HX : Hid ((wantC k ch.l).take 1048576 = wantC k ch.l) := List.take_of_length_le (by have := HM.out; omega)
      rw [HX.out] at HT1
      obtain ⟨xs, hxs⟩ : ∃ xs, wantC k ch.l = xs := ⟨_, rfl⟩
      rw [hxs] at HT1 HON HM HTo
      have hl1 : (xs.take 1).length = min 1 m := by rw [List.length_take, HM.out]
      clear HX hxs
      -- the end, behind the comparison
      have HFin : Hid (∀ wx, Below w.heap.size w wx → (wx.cell? ⟨cr, 3, none⟩ = some (.int .i64 ch.hits) ∧ wx.cell? ⟨cr, 4, none⟩ = some (.int .i64 ch.misses))) := fun wx hb => by
        obtain ⟨_, r3, r4, _⟩ := refC_reads (HR.out wx hb)
        exact ⟨r3, r4⟩
      go_wp2_with (first
        | (go_at_call 43; refine (all_any wr (some ⟨c, 0, none⟩)).mono ?_; rintro e w4 ⟨rfl, hw⟩; subst w4)
        | (go_at_call 42; refine HT1.out.mono ?_; rintro e w5 ⟨v5, rfl, ho5, hb5⟩; obtain ⟨a5, cap5, rfl⟩ := ho5.shape; have HO5 := hide ho5; have HB5 := hide (below_then HBw.out hb5 (Nat.le_refl _)); have HON5 := hide (HON.out.below hb5); have HI25 := hide (HI2.out.below (below_then HB.out hb5 (Nat.le_refl _))); have HT2 := hide (HTo.out w5 HB5.out 1 (by omega)); rw [HM.out] at HO5 ⊢; clear HT1 ho5 hb5 HON HI2)
        | (go_at_call 43; refine (all_any w5 (some ⟨c, 0, none⟩)).mono ?_; rintro e w4 ⟨rfl, hw⟩; subst w4)
        | (go_at_call 42; refine HT2.out.mono ?_; rintro e w6 ⟨v6, rfl, ho6, hb6⟩; obtain ⟨a6, cap6, rfl⟩ := ho6.shape; rw [hl1]; have HB6 := hide (below_then HB5.out hb6 (Nat.le_refl _)); have HO56 := hide (HO5.out.below hb6); have HON6 := hide (HON5.out.below hb6); have HI26 := hide (HI25.out.below hb6); clear HT2 ho6 hb6 HO5 HON5 HI25 HB5))
      have hcap5 := HO56.out.cap
      have hcapw := HON6.out.cap
      rw [HM.out] at hcap5 hcapw
      obtain ⟨hcap51, hcap52⟩ := hcap5
      obtain ⟨hcapw1, hcapw2⟩ := hcapw
      go_loopg [14, 72] m (fun gk sv iv wz => ∃ kk nd : Nat, gk + kk = m ∧ iv = .int .i64 kk ∧ wz = w6.drewN nd)
      case atStart => exact ⟨0, 0, by omega, rfl, rfl⟩
      case round =>
        obtain ⟨kk, nd, hkk, rfl, rfl⟩ := hrel
        cases gk with
        | succ gk =>
          have hkm : kk < xs.length := by have := HM.out; omega
          have hki : (kk : Int) < (m : Int) := by omega
          obtain ⟨g5, rfl, c50, c51⟩ := HO56.out.at hkm
          obtain ⟨gw, rfl, cw0, cw1⟩ := HON6.out.at hkm
          obtain ⟨x1, hx1⟩ : ∃ x1, xs[kk].1 = x1 := ⟨_, rfl⟩
          obtain ⟨x2, hx2⟩ : ∃ x2, xs[kk].2 = x2 := ⟨_, rfl⟩
          rw [hx1] at c50 cw0
          rw [hx2] at c51 cw1
          clear hx1 hx2
          go_wp2
          go_quiet (fail)
          go_wp2
          go_roundg gk
          case measure => omega
          case rel => exact ⟨kk + 1, nd + nq, by omega, by go_num, by simp [World.drewN]⟩
        | zero =>
          have hbz : Below w6.heap.size w6 (w6.drewN nd) := ((Only.refl (fun _ => False) w6).drewN nd).below (Nat.le_refl _) (fun _ _ h => h)
          have HBz := hide (below_then HB6.out hbz (Nat.le_refl _))
          obtain ⟨wz, hwz⟩ : ∃ wz, w6.drewN nd = wz := ⟨_, rfl⟩
          rw [hwz] at hbz HBz ⊢
          obtain ⟨z3, z4⟩ := HFin.out wz HBz.out
          have HI2z := hide (HI26.out.below hbz)
          have HHe := hide (held_any w0 wz No _ c b ch d (HD.out wz HBz.out))
          clear hbz hwz HO56 HON6 HI26 HTo HFin
          go_wp2_with (first
            | (go_at_call 20; refine HHe.out.mono ?_; rintro e w7 ⟨v7, rfl, hi7, hb7⟩; have HB7 := hide (below_then HBz.out hb7 (Nat.le_refl _)); have HIn := hide (refInts_any w7 _ _ _ _ _ _ hi7 (HI2z.out.below hb7)); rw [decide_eq_true rfl] at HIn; clear HHe hi7 hb7 HI2z)
            | (go_at_call 19; refine HIn.out.mono ?_; rintro e w8 ⟨rfl, hb8⟩; have HB8 := hide (below_then HB7.out hb8 (Nat.le_refl _)); have HCh := hide (changed_any w0 w8 No _ c b ch d (HD.out w8 HB8.out)); clear HIn hb8)
            | (go_at_call 44; refine HCh.out.mono ?_; rintro e w9 ⟨v9, rfl, hi9, hb9⟩; have HB9 := hide (below_then HB8.out hb9 (Nat.le_refl _)); have HI9 := hide hi9; have HRC := hide (refChanged_any w9 cr r K ch d (HR.out w9 HB9.out) HOK.out); clear HCh hi9 hb9)
            | (go_at_call 45; refine HRC.out.mono ?_; rintro e w10 ⟨v10, rfl, hi10, hb10⟩; have HB10 := hide (below_then HB9.out hb10 (Nat.le_refl _)); have HIn2 := hide (refInts_any w10 _ _ _ _ _ _ (HI9.out.below hb10) hi10); rw [decide_eq_true rfl] at HIn2; clear HRC hi10 hb10 HI9)
            | (go_at_call 19; refine HIn2.out.mono ?_; rintro e w11 ⟨rfl, hb11⟩; have HB11 := hide (below_then HB10.out hb11 (Nat.le_refl _)); have HHa := hide (hasD_any w0 w11 No _ c b ch d (HD.out w11 HB11.out) p hp); clear HIn2 hb11)
            | (go_at_call 46; refine HHa.out.mono ?_; rintro e wy ⟨rfl, hw⟩; subst wy; clear HHa))
          rcases refC_find (HR.out w11 HB11.out) HOK.out p with ⟨hf, hcall⟩ | ⟨hf, i, len, g, cap, hi, _, _, _, _, hcall⟩
          · refine hcall.mono ?_
            rintro e wy ⟨rfl, hw⟩
            subst wy
            clear hcall z3 z4
            go_wp2
            go_ret
            exact ⟨rfl, HB11.out⟩
          · refine hcall.mono ?_
            rintro e wy ⟨rfl, hw⟩
            subst wy
            have hii : ¬ (i : Int) < 0 := by omega
            clear hcall z3 z4
            go_wp2
            go_ret
            exact ⟨rfl, HB11.out⟩

end Go.Proofs.YtoplhehcjgldeaaGreat
