/- Contracts of the document's own cache: Held, Changed; lists that rise. -/
import Derived.Test.YtoplhehcjgldeaaGreatJRCPin
import Derived.Test.YtoplhehcjgldeaaGreatJCView
import Derived.Test.YtoplhehcjgldeaaGreatJDRefN
namespace Go.Proofs.YtoplhehcjgldeaaGreat
open Go.RowKit
set_option linter.unusedVariables false
set_option maxRecDepth 100000

/-! ### lists that rise -/
theorem rise_lt {l : List Int} (h : l.Pairwise (· ≤ ·)) (hn : l.Nodup) : l.Pairwise (· < ·) := (h.and hn).imp (fun h => by have h1 := h.1; have h2 := h.2; omega)
theorem eq_of_rise : ∀ {l1 l2 : List Int}, l1.Pairwise (· < ·) → l2.Pairwise (· < ·) → (∀ x, x ∈ l1 ↔ x ∈ l2) → l1 = l2
  | [], [], _, _, _ => rfl
  | [], y :: l2, _, _, h => by have := (h y).2 (List.mem_cons_self ..); simp at this
  | x :: l1, [], _, _, h => by have := (h x).1 (List.mem_cons_self ..); simp at this
  | x :: l1, y :: l2, h1, h2, h => by
    rw [List.pairwise_cons] at h1 h2
    have hxy : x = y := by
      rcases List.mem_cons.1 ((h x).1 (List.mem_cons_self ..)) with e | e
      · exact e
      · have a := h2.1 x e
        rcases List.mem_cons.1 ((h y).2 (List.mem_cons_self ..)) with e' | e'
        · exact e'.symm
        · have := h1.1 y e'; omega
    subst hxy
    rw [eq_of_rise h1.2 h2.2 (fun z => ?_)]
    constructor
    · intro hz
      rcases List.mem_cons.1 ((h z).1 (List.mem_cons_of_mem _ hz)) with e | e
      · have := h1.1 z hz; omega
      · exact e
    · intro hz
      rcases List.mem_cons.1 ((h z).2 (List.mem_cons_of_mem _ hz)) with e | e
      · have := h2.1 z hz; omega
      · exact e
/-- all pages there are, rising -/
def upTo (n : Nat) : List Int := (List.range n).map (fun q : Nat => (q : Int))
theorem mem_upTo {n : Nat} {x : Int} : x ∈ upTo n ↔ 0 ≤ x ∧ x < n := by
  unfold upTo
  rw [List.mem_map]
  constructor
  · rintro ⟨q, hq, rfl⟩
    have := List.mem_range.1 hq
    omega
  · rintro ⟨h1, h2⟩
    exact ⟨x.toNat, List.mem_range.2 (by omega), by omega⟩
theorem upTo_rise (n : Nat) : (upTo n).Pairwise (· < ·) := by
  unfold upTo
  rw [List.pairwise_map]
  exact List.pairwise_lt_range.imp (fun h => by omega)
theorem upTo_succ (k : Nat) : upTo (k + 1) = upTo k ++ [(k : Int)] := by unfold upTo; rw [List.range_succ, List.map_append]; rfl
theorem upTo_len (n : Nat) : (upTo n).length = n := by simp [upTo]
/-- held or not -/
def hasC (l : List Hd) (p : Int) : Bool := (findC l p).isSome
theorem hasC_iff {l : List Hd} {p : Int} : hasC l p = true ↔ ∃ h ∈ l, (h.p : Int) = p := by
  unfold hasC
  constructor
  · intro h
    obtain ⟨x, hx⟩ := Option.isSome_iff_exists.1 h
    exact ⟨x, findC_some hx⟩
  · rintro ⟨h, hh, e⟩
    cases hx : findC l p with
    | some x => rfl
    | none => exact absurd e (findC_none hx h hh)
theorem srt_rise {l : List Hd} (h : (l.map (·.p)).Nodup) : (srt (ordC l)).Pairwise (· < ·) := by
  refine rise_lt ?_ (srt_nodup (ordC_nodup h))
  have := List.pairwise_mergeSort (le := fun x y : Int => decide (x ≤ y)) (fun a b c h1 h2 => by simp at h1 h2 ⊢; omega) (fun a b => by simp; omega) (ordC l)
  exact this.imp (fun h => by simpa using h)
theorem srt_upTo {n : Nat} {l : List Hd} (h : (l.map (·.p)).Nodup) (hp : ∀ x ∈ l, x.p < n) : srt (ordC l) = (upTo n).filter (hasC l) := by
  refine eq_of_rise (srt_rise h) ((upTo_rise n).sublist List.filter_sublist) (fun x => ?_)
  rw [List.mem_mergeSort, mem_ordC, List.mem_filter, hasC_iff, mem_upTo]
  constructor
  · rintro ⟨y, hy, rfl⟩
    have := hp y hy
    exact ⟨⟨by omega, by omega⟩, y, hy, rfl⟩
  · exact fun h => h.2
theorem chgF_has {l : List Hd} {p : Int} (h : chgF l p = true) : hasC l p = true := by
  unfold chgF at h
  unfold hasC
  cases hx : findC l p with
  | some x => rfl
  | none => rw [hx] at h; cases h
theorem changed_upTo {n : Nat} {l : List Hd} (h : (l.map (·.p)).Nodup) (hp : ∀ x ∈ l, x.p < n) : changedC l = (upTo n).filter (chgF l) := by
  unfold changedC
  rw [srt_upTo h hp, List.filter_filter]
  congr 1
  funext x
  cases hx : chgF l x with
  | false => rfl
  | true => rw [chgF_has hx]; rfl
theorem changed_rise {l : List Hd} (h : (l.map (·.p)).Nodup) : (changedC l).Pairwise (· ≤ ·) := ((srt_rise h).sublist List.filter_sublist).imp (fun h => by omega)

theorem run_append_int2 (w : World) (base : Nat) (v : Value) (zs : List Int) (h : Ints w base v zs) (x : Int) (hl : zs.length + 1 ≤ 1000000) (hb : base ≤ w.heap.size) :
    ∃ v' w', (Builtin.append_ #[59, 59] 59 #[v, .slice (some ⟨w.heap.size, 0, none⟩) 1 1]).run Tryz.prog (w.alloc (.cells #[.int .i64 x] 3)) = .ok v' w' ∧ Ints w' base v' (zs ++ [x]) ∧ Only (fun j => v.ownBlock = some j) w w' := by
  obtain ⟨v', w', hr, h2, h3, _⟩ := run_append_int w base v zs h x hl hb
  exact ⟨v', w', hr, h2, ((Only.refl _ w).alloc _).grown h3 (fun j e _ => e)⟩

set_option maxHeartbeats 1000000 in
theorem refHeld_any (w : World) (c r : Nat) (K : Nat → Prop) (ch : Ch) (d : Dv) (h : RefC w c r K ch d) (ok : ChOk d.st.length ch) :
    Calls Tryz.prog 40 #[dp c] w fun e w' => ∃ v, e = .returned v ∧ Ints w' w.heap.size v (ch.l.map (fun h => (h.p : Int))) ∧ Below w.heap.size w w' := by
  obtain ⟨H, G, hs, lv, hC, hm, hR, hap, hin⟩ := h
  have hlen : hs.length = ch.l.length := by rw [← hm]; simp
  have hl64 : hs.length ≤ 64 := by have := ok.few; have := ok.hi; omega
  have HL : Hid (ch.l.map (fun h => (h.p : Int)) = hs.map (fun x => (x.1.p : Int))) := by show _ = _; rw [← hm, List.map_map]; rfl
  rw [HL.out]
  obtain ⟨ao, cap, rfl, hcap1, hcap2⟩ := hC.shape
  have HX := hide hC
  clear hC hR hap hin hm ok hlen HL
  go_enter Tryz.func40, Tryz.ntmps40
  go_wp2
  go_loopg [3, 4] hs.length (fun g l iv wr => ∃ k : Nat, g + k = hs.length ∧ iv = .int .i64 k ∧ Below w.heap.size w wr ∧ w.heap.size ≤ wr.heap.size ∧ Ints wr w.heap.size l ((hs.take k).map (fun x => (x.1.p : Int))))
  case atStart =>
    refine ⟨0, rfl, rfl, (Below.refl _ w).alloc (Nat.le_refl _) _, by simp, ?_⟩
    exact ints_lit w [] (by simp [maxLen])
  case round =>
    obtain ⟨k, hk, rfl, hb, hws, ho⟩ := hrel
    have hXr := HX.out.below hb
    have c2 := hXr.c2
    have HB := hide hb
    cases gk with
    | zero =>
      obtain rfl : k = hs.length := by omega
      rw [List.take_of_length_le (Nat.le_refl _)] at ho
      obtain ⟨a2, cap2, rfl⟩ := own_form' ho
      have HO := hide ho
      clear ho hXr hb
      go_wp2
      go_ret
      exact ⟨_, rfl, HO.out, HB.out⟩
    | succ g =>
      have hkl : k < hs.length := by omega
      have hki : (k : Int) < (hs.length : Int) := by omega
      obtain ⟨gb, rfl, _, k0, k1, k2, k3, _⟩ := hXr.at hkl
      obtain ⟨v', w', hr, h2, h3'⟩ := run_append_int2 wr w.heap.size _ _ ho (hs[k].1.p : Int) (by simp; omega) hws
      have e : (hs.take (k + 1)).map (fun x => (x.1.p : Int)) = (hs.take k).map (fun x => (x.1.p : Int)) ++ [(hs[k].1.p : Int)] := by rw [List.take_succ_eq_append_getElem hkl, List.map_append]; rfl
      rw [← e] at h2
      obtain ⟨P, hP⟩ : ∃ P, hs[k].1.p = P := ⟨_, rfl⟩
      rw [hP] at k0 hr
      have HR := hide hr
      have HO2 := hide h2
      have HO3 := hide h3'
      have HOw := hide ho
      clear hr h2 ho hXr hb e hP k1 k2 k3 h3'
      go_wp2_with (at_builtin; (with_reducible refine wpList_append_run _ rfl (.tmp 15) (.tmp 24) 59 rfl _ _ ?_ ?_ _ _ HR.out ?_); exact rfl; exact rfl; clear HR)
      go_roundg g
      case measure => omega
      case rel => exact ⟨k + 1, by omega, by go_num, HB.out.trans (HO3.out.below hws (fun j hj e => by have := (HOw.out.lt j e).1; omega)), Nat.le_trans hws HO3.out.size, HO2.out⟩

set_option maxHeartbeats 1000000 in
theorem refChanged_any (w : World) (c r : Nat) (K : Nat → Prop) (ch : Ch) (d : Dv) (h : RefC w c r K ch d) (ok : ChOk d.st.length ch) :
    Calls Tryz.prog 45 #[dp c] w fun e w' => ∃ v, e = .returned v ∧ Ints w' w.heap.size v (changedC ch.l) ∧ Below w.heap.size w w' := by
  obtain ⟨H, G, hs, lv, hC, hm, hR, hap, hin⟩ := h
  have hlen : hs.length = ch.l.length := by rw [← hm]; simp
  have hl64 : hs.length ≤ 64 := by have := ok.few; have := ok.hi; omega
  have hn : ((hs.map (·.1)).map (·.p)).Nodup := by rw [hm]; exact ok.nodup
  rw [changed_upTo ok.nodup (fun x hx => (ok.pages x hx).1)]
  obtain ⟨n, hnd⟩ : ∃ n, d.st.length = n := ⟨_, rfl⟩
  have hn2 : n ≤ 2048 := by rw [← hnd]; exact hR.ok.few
  obtain ⟨ao, cap, rfl, hcap1, hcap2⟩ := hC.shape
  obtain ⟨sv, wv, svs, wvs, hRA⟩ := hR
  obtain ⟨asv, csv, rfl⟩ := own_form' hRA.st
  rw [hnd] at hRA ⊢
  have HX := hide hC
  have HR := hide hRA
  have HM := hide hm
  have HN := hide hn
  have HOK := hide ok.nodup
  clear hC hRA hap hin hm ok hlen hn
  go_enter Tryz.func45, Tryz.ntmps45
  go_wp2
  go_loopg [3, 4, 5] n (fun g l iv kv wr => ∃ k : Nat, g + k = n ∧ iv = .int .i64 k ∧ Below w.heap.size w wr ∧ w.heap.size ≤ wr.heap.size ∧ Ints wr w.heap.size l ((upTo k).filter (chgF ch.l)))
  case atStart =>
    refine ⟨0, by omega, rfl, (Below.refl _ w).alloc (Nat.le_refl _) _, by simp, ?_⟩
    exact ints_lit w [] (by simp [maxLen])
  case round =>
    obtain ⟨k, hk, rfl, hb, hws, ho⟩ := hrel
    have hXr := HX.out.below hb
    have hRr := HR.out.keep (Only.of_below (fun _ => False) hb) (fun _ _ h => h)
    have c0 := hXr.c0
    have c2 := hXr.c2
    have s0 := hRr.blk.c0
    have HB := hide hb
    cases gk with
    | zero =>
      obtain rfl : k = n := by omega
      obtain ⟨a2, cap2, rfl⟩ := own_form' ho
      have HO := hide ho
      generalize (List.filter (chgF ch.l) (upTo k)).length = nn at *
      clear ho hXr hb hRr
      go_wp2
      go_ret
      exact ⟨_, rfl, HO.out, HB.out⟩
    | succ g =>
      have hkn : k < n := by omega
      have hki : (k : Int) < (n : Int) := by omega
      have ef : (upTo (k + 1)).filter (chgF ch.l) = (upTo k).filter (chgF ch.l) ++ (if chgF ch.l k = true then [(k : Int)] else []) := by
        rw [upTo_succ, List.filter_append, List.filter_cons]
        congr 1
      rcases find_or hs k with hno | ⟨i, hi, hip⟩
      · have HF := hide (refFind_no wr c r H hs ch.size ch.hits ch.misses _ hXr hl64 k hno)
        have hcf : chgF ch.l k = false := by
          unfold chgF
          have : findC ch.l k = none := by
            apply List.find?_eq_none.2
            intro y hy
            rw [← HM.out] at hy
            obtain ⟨z, hz, rfl⟩ := List.mem_map.1 hy
            simpa using hno z hz
          rw [this]
        rw [hcf, if_neg (by decide), List.append_nil] at ef
        have HO := hide ho
        have HEF := hide ef
        clear ho hXr hb hRr ef hno hcf
        go_wp2_with (go_at_call 41; refine HF.out.mono ?_; rintro e wz ⟨rfl, hw⟩; subst wz; clear HF)
        go_roundg g
        case measure => omega
        case rel => exact ⟨k + 1, by omega, by go_num, HB.out, hws, by rw [HEF.out]; exact HO.out⟩
      · have HF := hide (refFind_yes wr c r H hs ch.size ch.hits ch.misses _ hXr hl64 HN.out k i hi hip)
        obtain ⟨gb, rfl, _, k0, k1, k2, k3, _⟩ := hXr.at hi
        have hii : ¬ (i : Int) < 0 := by omega
        have hil : (i : Int) < (hs.length : Int) := by omega
        have hcf : chgF ch.l k = hs[i].1.ch := by
          have := chgF_mem HOK.out (h := hs[i].1) (by rw [← HM.out]; exact List.mem_map_of_mem (List.getElem_mem hi))
          rw [hip] at this
          exact this
        obtain ⟨b, hb'⟩ : ∃ b, hs[i].1.ch = b := ⟨_, rfl⟩
        rw [hb'] at hcf k2
        cases b with
        | false =>
          rw [hcf, if_neg (by decide), List.append_nil] at ef
          have HO := hide ho
          have HEF := hide ef
          clear ho hXr hb hRr ef hcf hip hb' k0 k1 k3
          go_wp2_with (go_at_call 41; refine HF.out.mono ?_; rintro e wz ⟨rfl, hw⟩; subst wz; clear HF)
          go_roundg g
          case measure => omega
          case rel => exact ⟨k + 1, by omega, by go_num, HB.out, hws, by rw [HEF.out]; exact HO.out⟩
        | true =>
          rw [hcf, if_pos rfl] at ef
          obtain ⟨v', w', hr, h2, h3'⟩ := run_append_int2 wr w.heap.size _ _ ho (k : Int) (by have := List.length_filter_le (chgF ch.l) (upTo k); rw [upTo_len] at this; omega) hws
          rw [← ef] at h2
          have HR := hide hr
          have HO2 := hide h2
          have HO3 := hide h3'
          have HOw := hide ho
          clear hr h2 ho hXr hb hRr ef hcf hip hb' k0 k1 k3 h3'
          go_wp2_with (first
            | (go_at_call 41; refine HF.out.mono ?_; rintro e wz ⟨rfl, hw⟩; subst wz; clear HF)
            | (at_builtin; (with_reducible refine wpList_append_run _ rfl (.tmp 34) (.tmp 36) 59 rfl _ _ ?_ ?_ _ _ HR.out ?_); exact rfl; exact rfl; clear HR))
          go_roundg g
          case measure => omega
          case rel => exact ⟨k + 1, by omega, by go_num, HB.out.trans (HO3.out.below hws (fun j hj e => by have := (HOw.out.lt j e).1; omega)), Nat.le_trans hws HO3.out.size, HO2.out⟩

end Go.Proofs.YtoplhehcjgldeaaGreat
/- Contract of the document's own cache: Flush. -/
namespace Go.Proofs.YtoplhehcjgldeaaGreat
open Go.RowKit
set_option linter.unusedVariables false
set_option maxRecDepth 100000

set_option maxHeartbeats 2000000 in
theorem refFlush_any (w : World) (c r : Nat) (K : Nat → Prop) (ch : Ch) (d : Dv) (kk : Nat) (hkk : kk < 800000) (h : RefC w c r K ch d) (ok : ChOk d.st.length ch) (hf : Few kk ch d) :
    Calls Tryz.prog 31 #[dp c] w fun e w' => e = .returned (.int .i64 (flushC ch d).1) ∧ RefC w' c r (fun k => K k ∨ w.heap.size ≤ k) (flushC ch d).2.1 (flushC ch d).2.2 ∧ Only K w w' := by
  have hlen : (changedC ch.l).length ≤ 64 := by have := changedC_len ch.l; have := ok.few; have := ok.hi; omega
  have HCH := hide (refChanged_any w c r K ch d h ok)
  have HFL : Hid (flushC ch d = flushR (changedC ch.l) ch d) := rfl
  have hcm : ∀ p ∈ changedC ch.l, ∃ x ∈ ch.l, (x.p : Int) = p := fun p hp => mem_changedC hp
  have hcn := changedC_nodup ok.nodup
  have hcf : ∀ y ∈ ch.l, (y.p : Int) ∈ changedC ch.l → y.ch = true := fun y hy hm => by
    have := (List.mem_filter.1 hm).2
    rwa [chgF_mem ok.nodup hy] at this
  have hcg : ∀ y ∈ ch.l, chgF ch.l y.p = false → y.ch = false := fun y hy hm => by rwa [chgF_mem ok.nodup hy] at hm
  have HREM : Hid (Rem (changedC ch.l) (chgF ch.l) ch d kk 0 ch d) := ⟨by simp, rfl, rfl, fun y hy hm => hcf y hy (by simpa using hm), hcg, by simpa using hf⟩
  have HCM := hide hcm
  have HCN := hide hcn
  have HR0 := hide h
  have HOK := hide ok
  obtain ⟨xs, hxs⟩ : ∃ xs, changedC ch.l = xs := ⟨_, rfl⟩
  rw [hxs] at HCH HFL HREM HCM HCN hlen
  rw [HFL.out]
  clear h ok hf hcm hcn hcf hcg hxs HFL
  go_enter Tryz.func31, Tryz.ntmps31
  go_wp2_with (go_at_call 45; refine HCH.out.mono ?_; rintro e w1 ⟨v, rfl, hi1, hb1⟩; obtain ⟨ai, capi, rfl⟩ := hi1.shape; have hcapi := own_len hi1; have HI1 := hide hi1; have HB1 := hide hb1; clear HCH hi1 hb1)
  obtain ⟨hcapi1, hcapi2⟩ := hcapi
  unfold maxLen at hcapi2
  obtain ⟨nx, hnx⟩ : ∃ nx, xs.length = nx := ⟨_, rfl⟩
  rw [hnx] at HI1 hcapi1 hlen ⊢
  go_loopg [4, 5, 6] nx (fun g iv kv ev wr => ∃ (k : Nat) (ch' : Ch) (d' : Dv), g + k = nx ∧ iv = .int .i64 k ∧ RefC wr c r (fun j => (K j ∨ w.heap.size ≤ j) ∧ (Value.slice ai nx capi).ownBlock ≠ some j) ch' d' ∧ Rem xs (chgF ch.l) ch d kk k ch' d' ∧ ChOk d.st.length ch' ∧ d'.st = d.st ∧ Ints wr w.heap.size (.slice ai nx capi) xs ∧ Only K w wr)
  case atStart =>
    refine ⟨0, ch, d, by omega, rfl, ?_, HREM.out, HOK.out, rfl, HI1.out, Only.of_below _ HB1.out⟩
    exact (HR0.out.bound.below HB1.out).mono (fun k _ hk => ⟨.inl hk.1, fun e => by have := (HI1.out.lt k e).1; have := hk.2; omega⟩)
  case round =>
    obtain ⟨k, ch', d', hk, rfl, hRC, hrem, ok', hst', hI, hoK⟩ := hrel
    have HRC := hide hRC
    have HRE := hide hrem
    have HOK' := hide ok'
    have HII := hide hI
    have HOK2 := hide hoK
    cases gk with
    | zero =>
      obtain rfl : k = nx := by omega
      have HE : Hid (flushR xs ch d = (0, ch', d')) := by
        show _ = _
        rw [hrem.fl, List.drop_of_length_le (by omega)]
        rfl
      clear hRC hrem ok' hst' hI hoK
      go_wp2
      go_ret
      rw [HE.out]
      exact ⟨rfl, HRC.out.mono (fun k _ hk => hk.1), HOK2.out⟩
    | succ g =>
      have hkn : k < xs.length := by omega
      have hki : (k : Int) < (nx : Int) := by omega
      obtain ⟨y, hy, hyp⟩ : ∃ y ∈ ch'.l, (y.p : Int) = xs[k] := by
        obtain ⟨z, hz, e⟩ := HCM.out xs[k] (List.getElem_mem hkn)
        have : xs[k] ∈ ordC ch.l := mem_ordC.2 ⟨z, hz, e⟩
        rw [← hrem.ord] at this
        exact mem_ordC.1 this
      obtain ⟨H, G, hs, lv, hC, hm, hR, hap, hin⟩ := hRC
      have hl2 : hs.length = ch'.l.length := by rw [← hm]; simp
      have hl64 : hs.length ≤ 64 := by have := ok'.few; have := ok'.hi; omega
      have hn : ((hs.map (·.1)).map (·.p)).Nodup := by rw [hm]; exact ok'.nodup
      obtain ⟨i, hi, hiy⟩ : ∃ i, ∃ hi : i < hs.length, hs[i].1 = y := by
        rw [← hm] at hy
        obtain ⟨z, hz, rfl⟩ := List.mem_map.1 hy
        obtain ⟨i, hi, rfl⟩ := List.mem_iff_getElem.1 hz
        exact ⟨i, hi, rfl⟩
      obtain ⟨P, hP⟩ : ∃ P, y.p = P := ⟨_, rfl⟩
      have hF := refFind_yes wr c r H hs ch'.size ch'.hits ch'.misses lv hC hl64 hn (P : Int) i hi (by rw [hiy, hP])
      obtain ⟨gi, rfl, hci⟩ : ∃ gi, ai = some ⟨gi, 0, none⟩ ∧ wr.cell? ⟨gi, k, none⟩ = some (.int .i64 P) := by
        rcases hI.form with ⟨e, e2⟩ | ⟨g', cap', sp, e, _, _, _, hBR, _⟩
        · rw [e2] at hkn; simp at hkn
        · simp only [Value.slice.injEq] at e
          refine ⟨g', e.1, ?_⟩
          have := iv_cell hBR k hkn
          rw [Nat.zero_add, getD_lt xs hkn, ← hyp, hP] at this
          exact this
      have HF := hide hF
      obtain ⟨ao, cap, rfl, hcap1, hcap2⟩ := hC.shape
      obtain ⟨gb, rfl, _, k0, k1, k2, k3, kf⟩ := hC.at hi
      have hbx := hC.bys _ (List.getElem_mem hi)
      obtain ⟨xv, hxv⟩ : ∃ xv, hs[i].2 = xv := ⟨_, rfl⟩
      rw [hiy, hxv] at hbx
      rw [hxv] at k1
      have hpg := ok'.pages y hy
      have hfew := hrem.few
      obtain ⟨au, cu, hu⟩ := sl_form' hbx.1
      obtain ⟨nu, hnu⟩ : ∃ nu, y.bs.length = nu := ⟨_, rfl⟩
      rw [hnu] at hu
      have hKgi : ∀ j, H j ∨ G j → j ≠ gi := fun j hj e => (hin j hj).1.2 (by rw [e]; rfl)
      have HWQ : Hid (∀ wx, Only (fun _ => False) wr wx → Calls Tryz.prog 68 #[dp r, .int .i64 P, .slice au nu cu] wx fun e w' => e = .returned (.int .i64 (writeQ d' P y.bs).1) ∧ Ref w' r (fun k => G k ∨ wr.heap.size ≤ k) (writeQ d' P y.bs).2 ∧ Only G wx w') := fun wx ho => by
        refine (refWrite_q wx r G d' P _ y.bs (hR.keep ho (fun _ _ h => h)) (by rw [hst', ← hP]; exact hpg.1) (by rw [← hu]; exact hbx.1.only ho (fun _ _ h => h)) hpg.2.1 (fun k hk hg => hap k (hbx.2 k (by rw [hu]; exact hk)).1 hg) (by have := hfew.ws; omega) (by have := hfew.done; omega)).mono ?_
        rintro e w' ⟨rfl, h1, h2⟩
        exact ⟨rfl, h1.mono (fun k _ hk => hk.imp_right (fun hk => Nat.le_trans ho.size hk)), h2⟩
      have HCK : Hid (∀ wx, Only G wr wx → RcAt wx c r H hs ch'.size ch'.hits ch'.misses (.slice (some ⟨gb, 0, none⟩) hs.length cap)) := fun wx ho => hC.keep ho (fun k => hap k)
      have HCC : Hid (∀ wx, Only G wr wx → wx.cell? ⟨c, 0, none⟩ = some (dp r) ∧ wx.cell? ⟨c, 2, none⟩ = some (.slice (some ⟨gb, 0, none⟩) hs.length cap) ∧ wx.cell? ⟨gi, k, none⟩ = some (.int .i64 P) ∧ wx.cell? ⟨gb, i * 4 + 1, none⟩ = some (.slice au nu cu)) := fun wx ho => by
        have h1 := HCK.out wx ho
        obtain ⟨gb', hgb, _, m0, m1, _⟩ := h1.at hi
        simp only [Option.some.injEq, Addr.mk.injEq, and_true] at hgb
        subst hgb
        rw [hxv, hu] at m1
        refine ⟨h1.c0, h1.c2, ?_, m1⟩
        have hI2 := hI.only ho (fun j hj hg => hKgi j (.inr hg) (by simp [Value.ownBlock] at hj; exact hj.symm))
        rcases hI2.form with ⟨e, e2⟩ | ⟨g', cap', sp, e, _, _, _, hBR, _⟩
        · rw [e2] at hkn; simp at hkn
        · simp only [Value.slice.injEq, Option.some.injEq, Addr.mk.injEq, and_true] at e
          have := iv_cell hBR k hkn
          rw [Nat.zero_add, getD_lt xs hkn, ← hyp, hP] at this
          rw [e.1]
          exact this
      -- behind the write
      have HSTP : Hid (∀ E d2, (writeQ d' P y.bs).1 = E → (writeQ d' P y.bs).2 = d2 → ∀ w3, Only G wr w3 → Ref w3 r (fun k => G k ∨ wr.heap.size ≤ k) d2 →
          w3.cell? ⟨c, 2, none⟩ = some (.slice (some ⟨gb, 0, none⟩) hs.length cap) ∧ w3.cell? ⟨gb, i * 4 + 2, none⟩ = some (.bool y.ch) ∧ w3.frozen? ⟨gb, i * 4 + 2, none⟩ = false ∧
          (E ≠ 0 → flushR xs ch d = (E, ch', d2) ∧ RefC w3 c r (fun k => K k ∨ w.heap.size ≤ k) ch' d2 ∧ Only K w w3) ∧
          (E = 0 → ∃ ch2, RefC (w3.setCell ⟨gb, i * 4 + 2, none⟩ (.bool false)) c r (fun j => (K j ∨ w.heap.size ≤ j) ∧ (Value.slice (some ⟨gi, 0, none⟩) nx capi).ownBlock ≠ some j) ch2 d2 ∧ Rem xs (chgF ch.l) ch d kk (k + 1) ch2 d2 ∧ ChOk d.st.length ch2 ∧ d2.st = d.st ∧ Ints (w3.setCell ⟨gb, i * 4 + 2, none⟩ (.bool false)) w.heap.size (.slice (some ⟨gi, 0, none⟩) nx capi) xs ∧ Only K w (w3.setCell ⟨gb, i * 4 + 2, none⟩ (.bool false)))) := fun E d2 hE hd2 w3 ho3 hR3 => by
        have h1 := HCK.out w3 ho3
        obtain ⟨gb', hgb, _, m0, m1, m2, m3, mf⟩ := h1.at hi
        simp only [Option.some.injEq, Addr.mk.injEq, and_true] at hgb
        subst hgb
        rw [hiy] at m2
        have hs3 := ho3.size
        have hs0 := hoK.size
        have hK3 : Only K w w3 := hoK.trans ho3 (fun j hj hg => by
          rcases (hin j (.inr hg)).1.1 with h | h
          · exact h
          · omega)
        have hap3 : ∀ j, j < w3.heap.size → wr.heap.size ≤ j → H j → ¬ (G j ∨ wr.heap.size ≤ j) := fun j hj hj2 hh hg => by have := (hin j (.inl hh)).2; omega
        refine ⟨h1.c2, m2, mf _, fun hE0 => ⟨?_, ?_, hK3⟩, fun hE0 => ?_⟩
        · have := rem_stop hrem ok'.nodup hkn hy hyp (by rw [hP, hE]; exact hE0)
          rw [hP, hE, hd2] at this
          exact this
        · have := refC_step (w := wr) (ch' := ch') hin hap h1 hm hR3 (fun j hj => .inl hj) (fun j hj => hj) hap3 hs3
          exact this.mono (fun j _ hj => hj.elim (fun h => h.1) (fun h => .inr (by omega)))
        · obtain ⟨hC4, ho4, hHg⟩ := h1.field hi { y with ch := false } 2 (by omega) (.bool false) (by rw [hiy]) (by rw [hiy]; rfl)
          have hs4 := ho4.size
          have hli : ch'.l[i]'(by omega) = y := by
            have : (hs.map (·.1))[i]'(by simpa using hi) = y := by rw [List.getElem_map, hiy]
            rw [← this]
            congr 1
            exact hm.symm
          have hm4 : (hs.set i ({ y with ch := false }, hs[i].2)).map (·.1) = updC ch'.l y.p (fun z => { z with ch := false }) := by
            rw [List.map_set, hm]
            have := upd_set ok'.nodup (by omega : i < ch'.l.length) (fun z => { z with ch := false })
            rw [hli] at this
            exact this
          refine ⟨{ ch' with l := updC ch'.l y.p (fun z => { z with ch := false }) }, ?_, ?_, ?_, ?_, ?_, ?_⟩
          · have hR4 : Ref (w3.setCell ⟨gb, i * 4 + 2, none⟩ (.bool false)) r (fun k => (G k ∨ wr.heap.size ≤ k) ∧ k < w3.heap.size) d2 := hR3.bound.keep ho4 (fun j hg e => by
              rcases hg.1 with hg | hg
              · exact hap gb hHg (e ▸ hg)
              · have := (hin gb (.inl hHg)).2; omega)
            refine ⟨H, _, _, _, hC4, hm4, hR4, fun j hh hg => ?_, fun j hj => ?_⟩
            · rcases hg.1 with hg | hg
              · exact hap j hh hg
              · have := (hin j (.inl hh)).2; omega
            · rcases hj with hj | hj
              · exact ⟨(hin j (.inl hj)).1, by have := (hin j (.inl hj)).2; omega⟩
              · refine ⟨?_, by have := hj.2; omega⟩
                rcases hj.1 with hg | hg
                · exact (hin j (.inr hg)).1
                · refine ⟨.inr (by omega), fun e => ?_⟩
                  have := (hI.lt j e).2
                  omega
          · have := rem_step hrem ok'.nodup hkn HCN.out hy hyp (by rw [hP, hE]; exact hE0)
            rw [hP, hd2] at this
            rw [hP]
            exact this
          · exact ok_upd ok' y.p (fun z => { z with ch := false }) (fun _ => rfl) (fun z hz => (ok'.pages z hz).2)
          · rw [← hd2, writeQ_st]; exact hst'
          · exact (hI.only ho3 (fun j hj hg => hKgi j (.inr hg) (by simp [Value.ownBlock] at hj; exact hj.symm))).only ho4 (fun j hj e => hKgi gb (.inl hHg) (by simp [Value.ownBlock] at hj; omega))
          · exact hK3.trans ho4 (fun j hj e => by
              rw [e] at hj ⊢
              rcases (hin gb (.inl hHg)).1.1 with h | h
              · exact h
              · omega)
      have c2 := hC.c2
      have hii : ¬ (i : Int) < 0 := by omega
      have hil : (i : Int) < (hs.length : Int) := by omega
      obtain ⟨E, hE⟩ : ∃ E, (writeQ d' P y.bs).1 = E := ⟨_, rfl⟩
      obtain ⟨d2, hd2⟩ : ∃ d2, (writeQ d' P y.bs).2 = d2 := ⟨_, rfl⟩
      have HST := hide (HSTP.out E d2 hE hd2)
      rw [hE, hd2] at HWQ
      clear hC hR hap hin hrem ok' hst' hI hoK hbx hu hnu hxv hiy hP hpg hfew hKgi HSTP hE hd2 hyp hy hm hn hl2 hF k0 k1 k2 k3 kf HRC HRE
      go_wp2_with (go_at_call 41; refine HF.out.mono ?_; rintro e wz ⟨rfl, hw⟩; subst wz; clear HF)
      refine wp_region_only G [isV (.pointer (some ⟨c, 0, none⟩)), isV (.pointer (some ⟨c, 0, none⟩)), isV (.pointer (some ⟨c, 0, none⟩)), isV (dp r), isV (.slice (some ⟨gi, 0, none⟩) nx capi), isV (.int .i64 (k : Int)), isV (.pointer (some ⟨gi, k, none⟩)), isV (.int .i64 (P : Int)), isV (.pointer (some ⟨c, 0, none⟩)), isV (.pointer (some ⟨c, 0, none⟩)), isV (.pointer (some ⟨c, 2, none⟩)), isV (.slice (some ⟨gb, 0, none⟩) hs.length cap), isV (.int .i64 (i : Int)), isV (.pointer (some ⟨gb, i * 4, none⟩)), isV (.pointer (some ⟨gb, i * 4 + 1, none⟩)), isV (.slice au nu cu), isRw E r (fun k => G k ∨ wr.heap.size ≤ k) d2] 16 48 17 (by kernel_rfl) (by kernel_rfl) (by kernel_rfl) (by kernel_rfl) rfl ?_ ?_ ?_
      · repeat (first | exact trivial | refine allStL_isV ?_ | refine ⟨stS_isRw _ _ _ _, fun h => absurd rfl h, ?_⟩)
      · refine ⟨?_, ?_, ?_, ?_, ?_, ?_, ?_, ?_, ?_, ?_, ?_, ?_, ?_, ?_, ?_, ?_, ?_, trivial⟩
        · intro a wx h
          have e0 : a.eval (.tmp 0) = .pointer (some ⟨c, 0, none⟩) := h.old 0 (by kernel_rfl)
          have hrel := h.rel
          clear h
          refine gives_by rfl a.eval rfl ?_
          generalize a.eval = ρ at *
          intro hf hc
          go_simp
          exact ⟨relM_quiet (by decide) (Only.refl _ _), rfl⟩
        · intro a wx h
          obtain ⟨v21, e21, f21⟩ := h.val 0 21 (by kernel_rfl)
          obtain rfl : v21 = .pointer (some ⟨c, 0, none⟩) := f21
          have hrel := h.rel
          clear h
          refine gives_by rfl a.eval rfl ?_
          generalize a.eval = ρ at *
          intro hf hc
          go_simp
          exact ⟨relM_quiet (by decide) (Only.refl _ _), rfl⟩
        · intro a wx h
          obtain ⟨v22, e22, f22⟩ := h.val 1 22 (by kernel_rfl)
          obtain rfl : v22 = .pointer (some ⟨c, 0, none⟩) := f22
          have hrel := h.rel
          clear h
          refine gives_by rfl a.eval rfl ?_
          generalize a.eval = ρ at *
          intro hf hc
          go_simp
          exact ⟨relM_quiet (by decide) (Only.refl _ _), rfl⟩
        · intro a wx h
          obtain ⟨v23, e23, f23⟩ := h.val 2 23 (by kernel_rfl)
          obtain rfl : v23 = .pointer (some ⟨c, 0, none⟩) := f23
          have hrel := h.rel
          clear h
          have cx := (HCC.out wx hrel).1
          refine gives_by rfl a.eval rfl ?_
          generalize a.eval = ρ at *
          intro hf hc
          go_simp
          exact ⟨relM_quiet (by decide) (Only.refl _ _), rfl⟩
        · intro a wx h
          have e3 : a.eval (.tmp 3) = .slice (some ⟨gi, 0, none⟩) nx capi := h.old 3 (by kernel_rfl)
          have hrel := h.rel
          clear h
          refine gives_by rfl a.eval rfl ?_
          generalize a.eval = ρ at *
          intro hf hc
          go_simp
          exact ⟨relM_quiet (by decide) (Only.refl _ _), rfl⟩
        · intro a wx h
          have e4 : a.eval (.tmp 4) = .int .i64 (k : Int) := h.old 4 (by kernel_rfl)
          have hrel := h.rel
          clear h
          refine gives_by rfl a.eval rfl ?_
          generalize a.eval = ρ at *
          intro hf hc
          go_simp
          exact ⟨relM_quiet (by decide) (Only.refl _ _), rfl⟩
        · intro a wx h
          obtain ⟨v25, e25, f25⟩ := h.val 4 25 (by kernel_rfl)
          obtain rfl : v25 = .slice (some ⟨gi, 0, none⟩) nx capi := f25
          obtain ⟨v26, e26, f26⟩ := h.val 5 26 (by kernel_rfl)
          obtain rfl : v26 = .int .i64 (k : Int) := f26
          have hrel := h.rel
          clear h
          refine gives_by rfl a.eval rfl ?_
          generalize a.eval = ρ at *
          intro hf hc
          go_simp
          exact ⟨relM_quiet (by decide) (Only.refl _ _), rfl⟩
        · intro a wx h
          obtain ⟨v27, e27, f27⟩ := h.val 6 27 (by kernel_rfl)
          obtain rfl : v27 = .pointer (some ⟨gi, k, none⟩) := f27
          have hrel := h.rel
          clear h
          have cx := (HCC.out wx hrel).2.2.1
          refine gives_by rfl a.eval rfl ?_
          generalize a.eval = ρ at *
          intro hf hc
          go_simp
          exact ⟨relM_quiet (by decide) (Only.refl _ _), rfl⟩
        · intro a wx h
          have e0 : a.eval (.tmp 0) = .pointer (some ⟨c, 0, none⟩) := h.old 0 (by kernel_rfl)
          have hrel := h.rel
          clear h
          refine gives_by rfl a.eval rfl ?_
          generalize a.eval = ρ at *
          intro hf hc
          go_simp
          exact ⟨relM_quiet (by decide) (Only.refl _ _), rfl⟩
        · intro a wx h
          obtain ⟨v29, e29, f29⟩ := h.val 8 29 (by kernel_rfl)
          obtain rfl : v29 = .pointer (some ⟨c, 0, none⟩) := f29
          have hrel := h.rel
          clear h
          refine gives_by rfl a.eval rfl ?_
          generalize a.eval = ρ at *
          intro hf hc
          go_simp
          exact ⟨relM_quiet (by decide) (Only.refl _ _), rfl⟩
        · intro a wx h
          obtain ⟨v30, e30, f30⟩ := h.val 9 30 (by kernel_rfl)
          obtain rfl : v30 = .pointer (some ⟨c, 0, none⟩) := f30
          have hrel := h.rel
          clear h
          refine gives_by rfl a.eval rfl ?_
          generalize a.eval = ρ at *
          intro hf hc
          go_simp
          exact ⟨relM_quiet (by decide) (Only.refl _ _), rfl⟩
        · intro a wx h
          obtain ⟨v31, e31, f31⟩ := h.val 10 31 (by kernel_rfl)
          obtain rfl : v31 = .pointer (some ⟨c, 2, none⟩) := f31
          have hrel := h.rel
          clear h
          have cx := (HCC.out wx hrel).2.1
          refine gives_by rfl a.eval rfl ?_
          generalize a.eval = ρ at *
          intro hf hc
          go_simp
          exact ⟨relM_quiet (by decide) (Only.refl _ _), rfl⟩
        · intro a wx h
          have e5 : a.eval (.tmp 5) = .int .i64 (i : Int) := h.old 5 (by kernel_rfl)
          have hrel := h.rel
          clear h
          refine gives_by rfl a.eval rfl ?_
          generalize a.eval = ρ at *
          intro hf hc
          go_simp
          exact ⟨relM_quiet (by decide) (Only.refl _ _), rfl⟩
        · intro a wx h
          obtain ⟨v32, e32, f32⟩ := h.val 11 32 (by kernel_rfl)
          obtain rfl : v32 = .slice (some ⟨gb, 0, none⟩) hs.length cap := f32
          obtain ⟨v33, e33, f33⟩ := h.val 12 33 (by kernel_rfl)
          obtain rfl : v33 = .int .i64 (i : Int) := f33
          have hrel := h.rel
          clear h
          refine gives_by rfl a.eval rfl ?_
          generalize a.eval = ρ at *
          intro hf hc
          go_simp
          exact ⟨relM_quiet (by decide) (Only.refl _ _), rfl⟩
        · intro a wx h
          obtain ⟨v34, e34, f34⟩ := h.val 13 34 (by kernel_rfl)
          obtain rfl : v34 = .pointer (some ⟨gb, i * 4, none⟩) := f34
          have hrel := h.rel
          clear h
          refine gives_by rfl a.eval rfl ?_
          generalize a.eval = ρ at *
          intro hf hc
          go_simp
          exact ⟨relM_quiet (by decide) (Only.refl _ _), rfl⟩
        · intro a wx h
          obtain ⟨v35, e35, f35⟩ := h.val 14 35 (by kernel_rfl)
          obtain rfl : v35 = .pointer (some ⟨gb, i * 4 + 1, none⟩) := f35
          have hrel := h.rel
          clear h
          have cx := (HCC.out wx hrel).2.2.2
          refine gives_by rfl a.eval rfl ?_
          generalize a.eval = ρ at *
          intro hf hc
          go_simp
          exact ⟨relM_quiet (by decide) (Only.refl _ _), rfl⟩
        · intro a wx h
          obtain ⟨v24, e24, f24⟩ := h.val 3 24 (by kernel_rfl)
          obtain rfl : v24 = dp r := f24
          obtain ⟨v28, e28, f28⟩ := h.val 7 28 (by kernel_rfl)
          obtain rfl : v28 = .int .i64 (P : Int) := f28
          obtain ⟨v36, e36, f36⟩ := h.val 15 36 (by kernel_rfl)
          obtain rfl : v36 = .slice au nu cu := f36
          have hrel := h.rel
          have hq := h.relq rfl
          clear h
          refine gives_by rfl a.eval rfl ?_
          generalize a.eval = ρ at *
          intro hf hc
          go_simp
          refine (HWQ.out wx hq).mono ?_
          rintro e wy ⟨rfl, hd, ho⟩
          exact ⟨_, rfl, relM_turn ho, rfl, hd⟩
      · intro oL hoL vals w3 ho3 hv
        simp only [List.getElem?_toArray, List.getElem?_cons_succ, List.getElem?_cons_zero, Option.some.injEq] at hoL
        subst hoL
        have hv16 : isRw E r (fun k => G k ∨ wr.heap.size ≤ k) d2 (vals 16) w3 := hv 16 37 (by decide) (by kernel_rfl)
        clear hv
        generalize hact : putAll _ vals 0 _ = act
        obtain ⟨hv16, hd16⟩ := hv16
        obtain ⟨q1, q2, q3, q4, q5⟩ := HST.out w3 ho3 hd16
        have HQ4 := hide q4
        have HQ5 := hide q5
        clear hd16 ho3 HCC HWQ c2 hci HST q4 q5
        subst hact
        simp only [List.dropLast, putAll, Act.put, List.setIfInBounds_toArray, List.set_cons_zero, List.set_cons_succ, hv16, Nat.zero_add, Nat.reduceAdd]
        refine gives_of_run rfl (exec_assign (.tmp 37) rfl (.int .i64 E) rfl) ?_
        clear hv16
        by_cases hE0 : E = 0
        · subst hE0
          obtain ⟨ch2, e1, e2, e3, e4, e5, e6⟩ := HQ5.out rfl
          have HE : Hid (_ ∧ _ ∧ _ ∧ _ ∧ _ ∧ _) := ⟨e1, e2, e3, e4, e5, e6⟩
          clear e1 e2 e3 e4 e5 e6 HQ4 HQ5
          go_wp2
          go_roundg g
          case measure => omega
          case rel => exact ⟨k + 1, ch2, d2, by omega, by go_num, HE.out⟩
        · obtain ⟨e1, e2, e3⟩ := HQ4.out hE0
          have HE1 := hide e1
          have HE2 := hide e2
          have HE3 := hide e3
          clear e1 e2 e3 HQ4 HQ5 q1 q2 q3
          go_wp2
          go_ret
          rw [HE1.out]
          exact ⟨rfl, HE2.out, HE3.out⟩

end Go.Proofs.YtoplhehcjgldeaaGreat
/- Contracts: Drop, Counts, Has; New of a size that may not be; the device of a cache is synced, armed, crashes. -/
namespace Go.Proofs.YtoplhehcjgldeaaGreat
open Go.RowKit
set_option linter.unusedVariables false
set_option maxRecDepth 100000

section
variable (w0 w : World) (S X : Nat → Prop) (c b : Nat) (ch : Ch) (d : Dv)

theorem counts_any (h : Duos w0 S X w c b ch d) :
    Calls Tryz.prog 39 #[dp c] w fun e w' => e = .returned (.tuple #[.int .i64 ch.hits, .int .i64 ch.misses]) ∧ Below w.heap.size w w' := by
  obtain ⟨H, G, ⟨mb, vo, D, sl, h1⟩, h2, h3, h4, h5, h6, h7⟩ := h
  have HM := hide (cmade_any w c b h1.blk.c0)
  have c4 := h1.blk.c4
  have c5 := h1.blk.c5
  clear h1 h2 h3 h4 h5 h6 h7
  go_enter Tryz.func39, Tryz.ntmps39
  go_wp2_with (go_at_call 53; refine HM.out.mono ?_; rintro e w1 ⟨rfl, hw⟩; subst w1; clear HM)
  go_quiet (fail)
  go_wp2
  go_ret2
  exact ⟨rfl, ((Only.refl (fun _ => False) w).drewN _).below (Nat.le_refl _) (fun _ _ h => h)⟩

theorem hasD_any (h : Duos w0 S X w c b ch d) (p : Int) (hp : Wf p) :
    Calls Tryz.prog 46 #[dp c, .int .i64 p] w fun e w' => e = .returned (.bool (hasC ch.l p)) ∧ w' = w := by
  obtain ⟨H, G, ⟨mb, vo, D, sl, h1⟩, h2, h3, h4, h5, h6, h7⟩ := h
  unfold hasC
  cases hx : findC ch.l p with
  | none => exact chas_no w c b H ch.size (ordC ch.l) ch.l ch.hits ch.misses mb vo D sl h1 p hp hx
  | some x =>
    obtain ⟨hm, rfl⟩ := findC_some hx
    exact chas_yes w c b H ch.size (ordC ch.l) ch.l ch.hits ch.misses mb vo D sl h1 x hm

theorem cnew_bad (w : World) (b : Nat) (G : Nat → Prop) (d : Dv) (h : Dev w b G d) (size : Int) (hs : size < 2 ∨ 64 < size) :
    Calls Tryz.prog 7 #[dp b, .int .i64 size] w fun e w' => e = .returned (.tuple #[.pointer none, .int .i64 1]) ∧ w' = w := by
  have HP := hide (pages_any w b G d h)
  have hp : (d.st.length : Int) ≠ 0 := by have := h.ok.pos; omega
  clear h
  by_cases h1 : size < 2
  · go_enter Tryz.func7, Tryz.ntmps7
    go_wp2_with (go_at_call 21; refine HP.out.mono ?_; rintro e w1 ⟨rfl, hw⟩; subst w1; clear HP)
    go_ret2
    exact ⟨rfl, rfl⟩
  · have h2 : 64 < size := by omega
    go_enter Tryz.func7, Tryz.ntmps7
    go_wp2_with (go_at_call 21; refine HP.out.mono ?_; rintro e w1 ⟨rfl, hw⟩; subst w1; clear HP)
    go_ret2
    exact ⟨rfl, rfl⟩
theorem refCNew_bad (w : World) (r : Nat) (size : Int) (hs : size < 2 ∨ 64 < size) :
    Calls Tryz.prog 8 #[dp r, .int .i64 size] w fun e w' => e = .returned (.tuple #[.pointer none, .int .i64 1]) ∧ w' = w := by
  by_cases h1 : size < 2
  · go_enter Tryz.func8, Tryz.ntmps8
    go_wp2
    go_ret2
    exact ⟨rfl, rfl⟩
  · have h2 : 64 < size := by omega
    go_enter Tryz.func8, Tryz.ntmps8
    go_wp2
    go_ret2
    exact ⟨rfl, rfl⟩
theorem refCNew_ok (w : World) (r : Nat) (G : Nat → Prop) (d : Dv) (h : Ref w r G d) (size : Nat) (h1 : 2 ≤ size) (h2 : size ≤ 64) :
    Calls Tryz.prog 8 #[dp r, .int .i64 size] w fun e w' => ∃ c, e = .returned (.tuple #[dp c, .int .i64 0]) ∧ RefC w' c r (fun k => G k ∨ w.heap.size ≤ k) (newC size) d ∧ Below w.heap.size w w' := by
  have i1 : ¬ (size : Int) < 2 := by omega
  have i2 : ¬ (64 : Int) < (size : Int) := by omega
  have HR := hide h
  clear h
  go_enter Tryz.func8, Tryz.ntmps8
  go_wp2
  go_ret2
  have hb : Below w.heap.size w (w.alloc (.cells #[dp r, .int .i64 size, .slice none 0 0, .int .i64 0, .int .i64 0] 66)) := (Below.refl _ w).alloc (Nat.le_refl _) _
  have hB := Blk.new w 66 [dp r, .int .i64 size, .slice none 0 0, .int .i64 0, .int .i64 0]
  refine ⟨w.heap.size, rfl, ⟨fun k => k = w.heap.size, fun k => G k ∧ k < w.heap.size, [], .slice none 0 0, ⟨hB, World.ownsRow_nil _ _ _ _, (fun x hx => by cases hx), rfl, (fun k hk => by cases hk)⟩, rfl, HR.out.bound.below hb, fun k hk hg => by have := hg.2; omega, fun k hk => ?_⟩, hb⟩
  simp only [World.size_alloc]
  rcases hk with hk | hk
  · exact ⟨.inr (by omega), by omega⟩
  · exact ⟨.inl hk.1, by have := hk.2; omega⟩

/-- the device alone turns -/
theorem duos_devs (h : Duos w0 S X w c b ch d) : ∃ G, Dev w b G d ∧ (∀ k, G k → (S k ∨ w0.heap.size ≤ k) ∧ ¬ X k ∧ k < w.heap.size) ∧ ∀ w' d', Dev w' b G d' → Only G w w' → d'.st.length = d.st.length → Duos w0 S X w' c b ch d' ∧ Turn w0 S X w w' := by
  obtain ⟨H, G, h1, h2, h3, h4, h5, h6, h7⟩ := h
  refine ⟨G, h2, fun k hk => h4 k (.inr hk), fun w' d' hd ho hl => ⟨duos_step h3 h4 h5 h6 (h1.keep ho (fun k hh hg => h3 k hh hg)) hd (ho.mono (fun k _ h => .inr h)) (fun k hk => .inl hk) (fun k hk => .inl hk) (fun k _ hh hg => h3 k hh hg) (by rw [hl]; exact h7), turn_step h4 (ho.mono (fun k _ h => .inr h))⟩⟩

set_option maxHeartbeats 1000000 in
theorem drop_any (h : Duos w0 S X w c b ch d) :
    Calls Tryz.prog 32 #[dp c] w fun e w' => e = .returned (.tuple #[]) ∧ Duos w0 S X w' c b { ch with l := [] } d ∧ Turn w0 S X w w' := by
  obtain ⟨H, G, ⟨mb, vo, D, sl, h1⟩, h2, h3, h4, h5, h6, h7⟩ := h
  have HM := hide (cmade_any w c b h1.blk.c0)
  have c2 := h1.blk.c2
  obtain ⟨es, clock, hm, _⟩ := h1.slots.map
  have hne : mb ≠ c := by
    rintro rfl
    have := (show w.heap[mb]? = _ from h1.blk).symm.trans hm
    simp at this
  have hB1 : Blk (ChangeMaps.setBlock w mb (.map #[] clock)) c 63 [dp b, .int .i64 ch.size, .map (some mb), vo, .int .i64 ch.hits, .int .i64 ch.misses] := Blk.setMap h1.blk hm _
  obtain ⟨w1, hw1⟩ : ∃ w1, ChangeMaps.setBlock w mb (.map #[] clock) = w1 := ⟨_, rfl⟩
  have ho1 : Only (fun k => k = mb) w w1 := by rw [← hw1]; exact (Only.refl _ w).setMap mb es clock _ _ hm (fun _ => rfl)
  have hm1 : w1.heap[mb]? = some (.map #[] clock) := by rw [← hw1]; exact ChangeMaps.heap_setBlock_same hm _
  have hR := run_clear_map (P := Tryz.prog) w 61 0 3 95 Tryz.underlying61 mb es clock hm
  rw [hw1] at hB1 hR
  have c3 : w1.cell? ⟨c, 3, none⟩ = some vo := hB1.cell 3
  have f3 := hB1.frozen 3
  have HR := hide hR
  have ho2 : Only (fun k => k = c) w1 (w1.setCell ⟨c, 3, none⟩ (.slice none 0 0)) := (Only.refl (fun k => k = c) w1).setCell ⟨c, 3, none⟩ _ (fun _ => rfl)
  have hoA : Only (fun k => H k ∨ G k) w (w1.setCell ⟨c, 3, none⟩ (.slice none 0 0)) := (ho1.mono (fun k _ e => .inl (by rw [e]; exact h1.slots.fm))).trans (ho2.mono (fun k _ e => .inl (by rw [e]; exact h1.fc))) (fun _ _ h => h)
  have hmA : (w1.setCell ⟨c, 3, none⟩ (.slice none 0 0)).heap[mb]? = some (.map #[] clock) := (Below.heap_setCell w1 ⟨c, 3, none⟩ _ mb hne).trans hm1
  have hD : Dev (w1.setCell ⟨c, 3, none⟩ (.slice none 0 0)) b G d := (h2.keep ho1 (fun k hg e => h3 k (by rw [e]; exact h1.slots.fm) hg)).keep ho2 (fun k hg e => h3 k (by rw [e]; exact h1.fc) hg)
  have HEnd : Hid (Duos w0 S X (w1.setCell ⟨c, 3, none⟩ (.slice none 0 0)) c b { ch with l := [] } d ∧ Turn w0 S X w (w1.setCell ⟨c, 3, none⟩ (.slice none 0 0))) := by
    refine ⟨duos_step h3 h4 h5 h6 (H' := H) ⟨mb, .slice none 0 0, .map [], fun _ => 0, hB1.set 3 _, Ints.nil _ _, ⟨⟨#[], clock, hmA, ?_, Nat.zero_le _, rfl⟩, (fun p => rfl), (fun x hx => by cases hx), rfl, (fun x hx => by cases hx), (fun x hx => by cases hx), List.nodup_nil, (fun x hx => by cases hx), Nat.zero_le _, h1.slots.fm, (fun x hx => by cases hx)⟩, h1.fc, (fun k hk => by cases hk), Nat.zero_le _⟩ hD hoA (fun _ h => .inl h) (fun _ h => .inl h) (fun k _ => h3 k) ?_, turn_step h4 hoA⟩
    · exact ⟨by simp, MapKept.stamped_empty clock, by simp⟩
    · exact ⟨h7.lo, h7.hi, Nat.zero_le _, List.nodup_nil, fun x hx => by cases hx⟩
  obtain ⟨ao, cap, rfl⟩ := h1.order.shape
  clear h1 h2 h3 h4 h5 h6 h7 hm hm1 hmA hoA ho1 ho2 hD hB1 hR hw1 hne
  go_enter Tryz.func32, Tryz.ntmps32
  go_wp2_with (first
    | (go_at_call 53; refine HM.out.mono ?_; rintro e wz ⟨rfl, hw⟩; subst wz; clear HM)
    | ((with_reducible refine wpList_clear_run _ rfl (.tmp 8) 61 rfl _ ?_ _ HR.out ?_); exact rfl; clear HR))
  go_end0
  exact ⟨rfl, HEnd.out⟩
end

end Go.Proofs.YtoplhehcjgldeaaGreat
