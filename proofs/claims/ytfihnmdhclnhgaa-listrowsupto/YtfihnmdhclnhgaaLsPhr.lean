/- Contract: package list's Phrase. -/
import Derived.Test.YtfihnmdhclnhgaaLsPh
namespace Go.Proofs.Ytfihnmdhclnhgaa
set_option maxRecDepth 20000
open Go.RowKit
set_option linter.unusedVariables false
set_option linter.unusedSimpArgs false
set_option maxRecDepth 100000

/-! ### pure -/
theorem meet_map {α β γ δ : Type} (f : α → γ) (g : β → δ) (o : γ → δ → Int) : ∀ (a : List α) (b : List β), meetL o (a.map f) (b.map g) = (meetL (fun x y => o (f x) (g y)) a b).map (fun p => (f p.1, g p.2))
  | [], _ => rfl
  | x :: a, b => by
    rw [List.map_cons, meetL, meetL, List.dropWhile_map]
    have e : ((fun y => decide (0 < o (f x) y)) ∘ g) = (fun y => decide (0 < o (f x) (g y))) := rfl
    rw [e]
    cases h : b.dropWhile (fun y => decide (0 < o (f x) (g y))) with
    | nil => rfl
    | cons y b' =>
      simp only [List.map_cons]
      have ih := meet_map f g o a (y :: b')
      rw [List.map_cons] at ih
      rw [ih]
      split <;> simp
def docO (p q : Po) : Int := cmpI (p.doc : Int) (q.doc : Int)
def fitP (off : Int) (x : Po × Po) : Option Po := if (meetL (ordI off) x.1.pos x.2.pos).map Prod.fst = [] then none else some ⟨x.1.doc, (meetL (ordI off) x.1.pos x.2.pos).map Prod.fst⟩
def rowP (off : Int) (ps qs : List Po) : List Po := (meetL docO ps qs).filterMap (fitP off)
theorem rowL_pos (off : Int) (xs ys : List PE) : rowL off xs ys = rowP off (posOf xs) (posOf ys) := by
  unfold rowL rowP posOf
  rw [meet_map (fun x : PE => x.2) (fun x : PE => x.2) docO xs ys, List.filterMap_map]
  rfl
def phrF : List (Int × List Po) → List Po → List Po
  | [], r => r
  | x :: l, r => phrF l (rowP x.1 r x.2)
theorem phrF_snoc : ∀ (l : List (Int × List Po)) (x : Int × List Po) (r : List Po), phrF (l ++ [x]) r = rowP x.1 (phrF l r) x.2
  | [], x, r => rfl
  | y :: l, x, r => phrF_snoc l x (rowP y.1 r y.2)
def phraseP (offs : List Int) (ls : List (List Po)) : List Po := phrF (offs.zip ls) (ls.headD [])
/-- a posting whose positions are few and small -/
def smallP (p : Po) : Prop := p.pos.length ≤ 2000 ∧ ∀ z ∈ p.pos, -1 < z ∧ z ≤ 1048576
theorem rowP_small {off : Int} {ps qs : List Po} (h : ∀ p ∈ ps, smallP p) : ∀ r ∈ rowP off ps qs, smallP r := fun r hr => by
  obtain ⟨x, hx, hf⟩ := List.mem_filterMap.1 hr
  unfold fitP at hf
  split at hf
  · cases hf
  · obtain rfl := Option.some.inj hf
    obtain ⟨h1, h2⟩ := h _ (meet_mem docO ps qs x hx).1
    refine ⟨?_, fun z hz => ?_⟩
    · simp only [List.length_map]
      exact Nat.le_trans (meet_len _ _ _) h1
    · obtain ⟨y, hy, rfl⟩ := List.mem_map.1 hz
      exact h2 _ (meet_mem (ordI off) _ _ y hy).1
theorem rowP_len (off : Int) (ps qs : List Po) : (rowP off ps qs).length ≤ ps.length := Nat.le_trans (List.length_filterMap_le _ _) (meet_len _ _ _)
theorem phrF_small : ∀ (l : List (Int × List Po)) (r : List Po), (∀ p ∈ r, smallP p) → ∀ p ∈ phrF l r, smallP p
  | [], _, h => h
  | x :: l, r, h => phrF_small l _ (rowP_small h)
theorem phrF_len : ∀ (l : List (Int × List Po)) (r : List Po), (phrF l r).length ≤ r.length
  | [], _ => Nat.le_refl _
  | x :: l, r => Nat.le_trans (phrF_len l _) (rowP_len _ _ _)
theorem listOk_small : ∀ (l : List Po) (prev : Nat), listOk prev l = true → ∀ p ∈ l, smallP p
  | [], _, _, p, hp => by cases hp
  | q :: l, prev, h, p, hp => by
    rw [listOk, Bool.and_eq_true] at h
    rcases List.mem_cons.1 hp with rfl | hp
    · obtain ⟨_, _, _, h4, h5⟩ := may_parts h.1
      exact ⟨h4, rises_bound _ _ h5⟩
    · exact listOk_small l _ h.2 p hp
def phE (offs : List Int) (ls : List (List PE)) : Int := if offB offs = true ∧ offs.length = ls.length then (if okPs ls = true then 0 else 160) else 1
def phL (offs : List Int) (ls : List (List PE)) : List Po := if phE offs ls = 0 then phraseP offs (ls.map posOf) else []
theorem zip_take {α β : Type} (a : List α) (b : List β) (k : Nat) (h1 : k < a.length) (h2 : k < b.length) : (a.zip b).take (k + 1) = (a.zip b).take k ++ [(a[k], b[k])] := by
  rw [List.take_succ_eq_append_getElem (by rw [List.length_zip]; omega), List.getElem_zip]
theorem PpO.pq {w : World} {base : Nat} {v : Value} {zs : List PE} (h : PpO w base v zs) : Pq w v zs ∧ PqIn w zs := by
  obtain ⟨h1, h2, h3⟩ := h.read.pq
  have e : (zs.map (·.1)).zip (zs.map (·.2)) = zs := by
    induction zs with
    | nil => rfl
    | cons x l ih => simp [List.zip_map']
  rw [e] at h1 h2
  exact ⟨h1, h2⟩

set_option maxHeartbeats 2000000 in
theorem phrase_any (w : World) (vo : Value) (offs : List Int) (ho : Is w vo offs) (vl : Value) (us : List Value) (ls : List (List PE)) (h : Pss w vl us ls) (hlen : ∀ x ∈ ls, x.length ≤ 100000) :
    Calls Try.prog 31 #[vo, vl] w fun e w' => ∃ u zs, e = .returned (.tuple #[u, .int .i64 (phE offs ls)]) ∧ PpO w' w.heap.size u zs ∧ posOf zs = phL offs ls ∧ Below w.heap.size w w' := by
  obtain ⟨oa, oc, rfl, ho1, ho2⟩ := ho.shape
  obtain ⟨ao, cap, rfl, h1, h2⟩ := h.shape
  have HOF := hide (offsMay_any w _ offs ho)
  have HCP : Hid (∀ W, Below w.heap.size w W → Calls Try.prog 50 #[.slice ao ls.length cap] W fun e w' => e = .returned (.int .i64 (if okPs ls = true then 0 else 160)) ∧ Below W.heap.size W w') := fun W hb => checkPs_any W _ us ls (h.below hb)
  have HO : Hid (∀ W, Below w.heap.size w W → Is W (.slice oa offs.length oc) offs) := fun W hb => ho.below hb
  have HU : Hid (∀ W, Below w.heap.size w W → Pss W (.slice ao ls.length cap) us ls) := fun W hb => h.below hb
  obtain ⟨m, hm⟩ : ∃ m, offs.length = m := ⟨_, rfl⟩
  obtain ⟨n, hn⟩ : ∃ n, ls.length = n := ⟨_, rfl⟩
  have HM := hide hm
  have HN := hide hn
  rw [hm] at HOF HO ho1 ⊢
  rw [hn] at HCP HU h1 ⊢
  cases hob : offB offs with
  | false =>
    have hE : phE offs ls = 1 := by unfold phE; rw [if_neg (by rw [hob]; simp)]
    have hL : phL offs ls = [] := by unfold phL; rw [if_neg (by rw [hE]; decide)]
    rw [hob] at HOF
    rw [hE, hL]
    clear ho h hm hn hob hE hL HCP HO HU hlen
    go_enter Try.func31, Try.ntmps31
    go_wp2_with (go_at_call 59; refine HOF.out.mono ?_; rintro e w1 ⟨rfl, hb⟩; have HB1 := hide hb; clear HOF hb)
    go_ret2
    exact ⟨_, [], rfl, PpO.nil _ _, rfl, HB1.out⟩
  | true =>
    rw [hob] at HOF
    by_cases hmn : m = n
    · subst hmn
      cases hok : okPs ls with
      | false =>
        have hE : phE offs ls = 160 := by unfold phE; rw [if_pos ⟨hob, by rw [hm, hn]⟩, hok]; rfl
        have hL : phL offs ls = [] := by unfold phL; rw [if_neg (by rw [hE]; decide)]
        rw [hok] at HCP
        rw [hE, hL]
        simp only [Bool.false_eq_true, if_false] at HCP
        clear ho h hm hn hob hok hE hL HO HU hlen
        go_enter Try.func31, Try.ntmps31
        go_wp2_with (first
          | (go_at_call 59; refine HOF.out.mono ?_; rintro e w1 ⟨rfl, hb⟩; have HB1 := hide hb; clear HOF hb)
          | (go_at_call 50; refine (HCP.out w1 HB1.out).mono ?_; rintro e w2 ⟨rfl, hb⟩; have HB2 := hide (HB1.out.trans (hb.mono HB1.out.size)); clear HCP hb))
        go_ret2
        exact ⟨_, [], rfl, PpO.nil _ _, rfl, HB2.out⟩
      | true =>
        have hE : phE offs ls = 0 := by unfold phE; rw [if_pos ⟨hob, by rw [hm, hn]⟩, hok]; rfl
        have hL : phL offs ls = phraseP offs (ls.map posOf) := by unfold phL; rw [if_pos hE]
        rw [hok] at HCP
        rw [hE, hL]
        simp only [if_true] at HCP
        have hm1 : 1 ≤ m ∧ (∀ k, k < m → 0 ≤ offs.getD k 0 ∧ offs.getD k 0 ≤ 1048576) := by
          unfold offB at hob
          simp only [Bool.and_eq_true, decide_eq_true_iff] at hob
          obtain ⟨⟨⟨q1, q2⟩, q3⟩, q4⟩ := hob
          rw [hm] at q1
          have key : ∀ (l : List Int) (k : Nat), offR l = true → (0 ≤ l.getD 0 0 ∧ l.getD 0 0 ≤ 1048576) → k < l.length → 0 ≤ l.getD k 0 ∧ l.getD k 0 ≤ 1048576 := by
            intro l
            induction l with
            | nil => intro k _ _ hk; exact absurd hk (Nat.not_lt_zero _)
            | cons x l ih =>
              intro k hr h0 hk
              cases k with
              | zero => exact h0
              | succ k =>
                cases l with
                | nil => simp at hk
                | cons y l =>
                  simp only [offR, Bool.and_eq_true, decide_eq_true_iff] at hr
                  simp only [List.getD_cons_zero] at h0
                  have := ih k hr.2 (by simp only [List.getD_cons_zero]; omega) (by simpa using hk)
                  simpa using this
          exact ⟨q1, fun k hk => key offs k q4 (by rw [q3]; omega) (by omega)⟩
        obtain ⟨hm1, hob2⟩ := hm1
        have HSM : Hid (∀ l ∈ ls, ∀ x ∈ l, smallP x.2) := fun l hl x hx => by
          unfold okPs at hok
          exact listOk_small _ 0 (List.all_eq_true.1 hok l hl) _ (List.mem_map.2 ⟨x, hx, rfl⟩)
        have HOB := hide hob2
        have HLE := hide hlen
        obtain ⟨b0, off0, rfl, c0, hq0, hi0⟩ := (HU.out w (Below.refl _ w)).at 0 (by omega)
        have HC0 : Hid (∀ W, Below w.heap.size w W → W.cell? ⟨b0, off0, none⟩ = some (us.getD 0 nilS)) := fun W hb => by have := cell_belowL hb c0; rwa [Nat.add_zero] at this
        obtain ⟨x0, hx0⟩ : ∃ x, ls.getD 0 [] = x := ⟨_, rfl⟩
        rw [hx0] at hq0 hi0
        obtain ⟨va, vc, hv0, _, _⟩ := hq0.shape
        rw [hv0] at HC0 hq0
        have HQ0 := hide hq0
        have HI0 := hide hi0
        have hx0m : x0 ∈ ls := by
          have hl0 : 0 < ls.length := by omega
          rw [← hx0]
          simp only [List.getD, List.getElem?_eq_getElem hl0, Option.getD_some]
          exact List.getElem_mem hl0
        have HX0 : Hid (x0 ∈ ls) := hx0m
        have HHD : Hid ((ls.map posOf).headD [] = posOf x0) := by
          show _ = _
          cases hls : ls with
          | nil => rw [hls] at hx0m; cases hx0m
          | cons y r => rw [hls] at hx0; simp at hx0; simp [hx0]
        have hmp : (0 : Int) < (m : Int) := by omega
        clear ho h hm hn hob hok hE hL hlen c0 hq0 hi0 hv0 hx0 hx0m hob2
        go_enter Try.func31, Try.ntmps31
        go_wp2_with (first
          | (go_at_call 59; refine HOF.out.mono ?_; rintro e w1 ⟨rfl, hb⟩; have HB1 := hide hb; clear HOF hb)
          | (go_at_call 50; refine (HCP.out w1 HB1.out).mono ?_; rintro e w2 ⟨rfl, hb⟩; have HB2 := hide (HB1.out.trans (hb.mono HB1.out.size)); have cc := HC0.out w2 HB2.out; clear HCP hb HC0))
        clear cc
        go_loopg [7, 30] m (fun g l7 l30 wr => ∃ (k : Nat) (zs : List PE) (a : Option Addr) (c : Nat), g + k = m ∧ l30 = .int .i64 (k : Int) ∧ l7 = .slice a zs.length c ∧ Pq wr (.slice a zs.length c) zs ∧ PqIn wr zs ∧ posOf zs = phrF ((offs.zip (ls.map posOf)).take k) (posOf x0) ∧ (0 < k → PpO wr w.heap.size (.slice a zs.length c) zs) ∧ Below w2.heap.size w2 wr)
        case atStart => exact ⟨0, x0, va, vc, by omega, rfl, rfl, HQ0.out.below HB2.out, HI0.out.below HB2.out, rfl, fun h => absurd h (Nat.lt_irrefl _), Below.refl _ _⟩
        case round =>
          obtain ⟨k, zs, a, c, hg, rfl, rfl, hq, hi, hps, hpp, hb⟩ := hrel
          have HQ := hide hq
          have HI := hide hi
          have HPS := hide hps
          have HPP := hide hpp
          have HB := hide hb
          have HBW : Hid (Below w.heap.size w wr) := HB2.out.trans (hb.mono HB2.out.size)
          have hsm : ∀ p ∈ posOf zs, smallP p := by
            rw [hps]
            exact phrF_small _ _ (fun p hp => by obtain ⟨x, hx, rfl⟩ := List.mem_map.1 hp; exact HSM.out _ HX0.out x hx)
          have hzl : zs.length ≤ 100000 := by
            have e : (posOf zs).length ≤ (posOf x0).length := by rw [hps]; exact phrF_len _ _
            have := HLE.out _ HX0.out
            simp only [posOf, List.length_map] at e
            omega
          have HSM2 := hide hsm
          obtain ⟨zn, hzn⟩ : ∃ n, zs.length = n := ⟨_, rfl⟩
          have HZN := hide hzn
          rw [hzn] at HQ HPP hzl ⊢
          clear hq hi hps hpp hb hsm hzn
          by_cases hk : k < m
          · obtain ⟨b1, off1, rfl, c1⟩ := (HO.out wr HBW.out).at k (by have := HM.out; omega)
            obtain ⟨b2, off2, he2, c2, hq2, hi2⟩ := (HU.out wr HBW.out).at k (by have := HN.out; omega)
            obtain ⟨rfl, rfl⟩ : b0 = b2 ∧ off0 = off2 := by simpa using he2
            obtain ⟨y, hy⟩ : ∃ y, ls.getD k [] = y := ⟨_, rfl⟩
            have hkl : k < ls.length := by have := HN.out; omega
            have hko : k < offs.length := by have := HM.out; omega
            have hym : y ∈ ls := by
              rw [← hy]
              simp only [List.getD, List.getElem?_eq_getElem hkl, Option.getD_some]
              exact List.getElem_mem hkl
            obtain ⟨o, ho'⟩ : ∃ o, offs.getD k 0 = o := ⟨_, rfl⟩
            have hob := HOB.out k hk
            rw [ho'] at c1 hob
            rw [hy] at hq2 hi2
            obtain ⟨ya, yc, hyv, _, _⟩ := hq2.shape
            rw [hyv] at c2 hq2
            have HNX : Hid (phrF ((offs.zip (ls.map posOf)).take (k + 1)) (posOf x0) = rowP o (posOf zs) (posOf y)) := by
              show _ = _
              rw [zip_take _ _ k hko (by simpa using hkl), phrF_snoc, ← HPS.out]
              have e1 : offs[k] = o := by rw [← ho', getD_lt offs hko]
              have e2 : (ls.map posOf)[k]'(by simpa using hkl) = posOf y := by rw [← hy]; simp [List.getD, hkl]
              rw [e1, e2]
            have HIR := hide (inRow_any wr (.slice a zn c) _ zs y o HQ.out HI.out hq2 hi2 (by rw [HZN.out]; exact hzl) (HLE.out _ hym) (fun x hx => by
              obtain ⟨s1, s2⟩ := HSM2.out x.2 (List.mem_map.2 ⟨x, hx, rfl⟩)
              exact ⟨by omega, fun z hz => by have := s2 z hz; omega⟩) (fun x hx => by have := (HSM.out _ hym x hx).1; omega) (by omega))
            have hkk : (k : Int) < (m : Int) := by omega
            clear he2 hy hym ho' hq2 hi2 hyv hkl hko hob
            go_wp2_with (go_at_call 60; refine HIR.out.mono ?_; rintro e w5 ⟨u, rs, rfl, hp, hr, hb⟩; have HP := hide hp; have HRR := hide hr; have HB5 := hide hb; clear HIR hp hr hb)
            go_roundg (gk - 1)
            case measure => omega
            case rel =>
              obtain ⟨ra, rc, rfl⟩ := HP.out.shape
              obtain ⟨p1, p2⟩ := HP.out.pq
              refine ⟨k + 1, rs, ra, rc, by omega, by go_num, rfl, p1, p2, ?_, fun _ => ?_, HB.out.trans (HB5.out.mono HB.out.size)⟩
              · rw [HNX.out, ← rowL_pos, ← HRR.out]
              · have hle := HBW.out.size
                exact ⟨by
                  have hrw := HP.out.row
                  refine ⟨hrw.1, ?_⟩
                  rcases hrw.2 with h' | ⟨g, cap', cur, e, hge, r⟩
                  · exact .inl h'
                  · exact .inr ⟨g, cap', cur, e, Nat.le_trans hle hge, r⟩, HP.out.each⟩
          · obtain rfl : k = m := by omega
            go_wp2
            go_ret2
            refine ⟨_, zs, rfl, ?_, ?_, HBW.out⟩
            · exact HPP.out (by omega)
            · rw [HPS.out, List.take_of_length_le (by rw [List.length_zip, HM.out]; omega)]
              unfold phraseP
              rw [HHD.out]
    · have hE : phE offs ls = 1 := by unfold phE; rw [if_neg (by rw [hm, hn]; exact fun h => hmn h.2)]
      have hL : phL offs ls = [] := by unfold phL; rw [if_neg (by rw [hE]; decide)]
      rw [hE, hL]
      have hmi : ((m : Int) == (n : Int)) = false := by simp; omega
      clear ho h hm hn hob hE hL HCP HO HU hlen
      go_enter Try.func31, Try.ntmps31
      go_wp2_with (go_at_call 59; refine HOF.out.mono ?_; rintro e w1 ⟨rfl, hb⟩; have HB1 := hide hb; clear HOF hb)
      go_ret2
      exact ⟨_, [], rfl, PpO.nil _ _, rfl, HB1.out⟩

end Go.Proofs.Ytfihnmdhclnhgaa
