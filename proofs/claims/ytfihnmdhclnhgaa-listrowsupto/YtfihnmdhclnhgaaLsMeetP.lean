/- Contracts: package list's meetings at postings, as an iterator over an iterator. -/
import Derived.Test.YtfihnmdhclnhgaaLsMt
namespace Go.Proofs.Ytfihnmdhclnhgaa
set_option maxRecDepth 20000
open Go.RowKit Go.Shelf
set_option linter.unusedVariables false
set_option linter.unusedSimpArgs false
set_option maxRecDepth 100000
attribute [local go_sem] Oper.semAt_some

theorem meetingsP_any (w : World) (a b : Option Addr) (n m c d : Nat) (ov : Value) (ho : ∃ f bs, ov = .func f #[] bs) : Calls Try.prog 82 #[.slice a n c, .slice b m d, ov] w fun e w' => e = .returned (.func (.func 108) #[] #[.pointer (some ⟨w.heap.size + 1, 0, none⟩), .pointer (some ⟨w.heap.size, 0, none⟩), .pointer (some ⟨w.heap.size + 2, 0, none⟩)]) ∧ w' = ((w.alloc (.cells #[.slice a n c] 47)).alloc (.cells #[.slice b m d] 47)).alloc (.cells #[ov] 78) := by
  obtain ⟨f, bs, rfl⟩ := ho
  go_enter Try.func82, Try.ntmps82
  go_wp2
  go_ret
  exact ⟨rfl, rfl⟩
theorem enters_meetP : ∀ args w, (callFunc 108 args).run Try.prog w = .ok (.enter 108 args) w := enters_of Try.func108 (by kernel_rfl) rfl
def enc2P (p : PE × PE) : Array Value := #[.agg #[.int .u32 (p.1.2.doc : Int), p.1.1], .agg #[.int .u32 (p.2.2.doc : Int), p.2.1]]
/-- what the iterator reads -/
def MeetVP (Ap Bp Op : Nat) (av bv : Value) (xs ys : List PE) (k : Nat) (W : World) : Prop := (W.cell? ⟨Ap, 0, none⟩ = some av ∧ W.cell? ⟨Bp, 0, none⟩ = some bv ∧ W.cell? ⟨Op, 0, none⟩ = some (.func (.func 53) #[] #[])) ∧ Pq W av xs ∧ Pq W bv ys

set_option maxHeartbeats 4000000 in
theorem meetP_iter (Ap Bp Op : Nat) (av bv : Value) (xs ys : List PE) (hlx : xs.length ≤ 1000000) (hly : ys.length ≤ 1000000) (hsx : SlE xs) (hsy : SlE ys) : Iter2 Try.prog 108 #[.pointer (some ⟨Bp, 0, none⟩), .pointer (some ⟨Ap, 0, none⟩), .pointer (some ⟨Op, 0, none⟩)] enc2P (meetL (fun (x y : PE) => cmpI (x.2.doc : Int) (y.2.doc : Int)) xs ys) (MeetVP Ap Bp Op av bv xs ys) := by
  obtain ⟨L, hL⟩ : ∃ L, meetL (fun (x y : PE) => cmpI (x.2.doc : Int) (y.2.doc : Int)) xs ys = L := ⟨_, rfl⟩
  rw [hL]
  have HLM := hide hL
  clear hL
  intro l J Jx hJ hJx hV hY Y W h0
  obtain ⟨⟨ca, cb, co⟩, hax, hby⟩ := hV Y 0 W h0
  obtain ⟨ao, ac, rfl, _, _⟩ := hax.shape
  obtain ⟨bo, bc, rfl, hbc1, hbc2⟩ := hby.shape
  obtain ⟨A, hA⟩ : ∃ A, W.heap.size = A := ⟨_, rfl⟩
  obtain ⟨W1, hW1⟩ : ∃ W1, W.alloc (.cells #[.func (.yield l) #[] #[]] 87) = W1 := ⟨_, rfl⟩
  obtain ⟨W2, hW2⟩ : ∃ W2, W1.alloc (.cells #[.slice bo ys.length bc] 47) = W2 := ⟨_, rfl⟩
  obtain ⟨W3, hW3⟩ : ∃ W3, W2.alloc (.cells #[.slice ao xs.length ac] 47) = W3 := ⟨_, rfl⟩
  have hb1 : Below W.heap.size W W1 := by rw [← hW1]; exact (Below.refl _ W).alloc (Nat.le_refl _) _
  have hs1 : W1.heap.size = A + 1 := by rw [← hW1]; simp [hA]
  have hb2 : Below W.heap.size W W2 := by rw [← hW2]; exact hb1.alloc (by omega) _
  have hs2 : W2.heap.size = A + 2 := by rw [← hW2]; simp [hs1]
  have hb3 : Below W.heap.size W W3 := by rw [← hW3]; exact hb2.alloc (by omega) _
  have hs3 : W3.heap.size = A + 3 := by rw [← hW3]; simp [hs2]
  have cb1 := cell_belowL hb1 cb
  have ca2 := cell_belowL hb2 ca
  have hyb : Blk W3 A 87 [.func (.yield l) #[] #[]] := by rw [← hW3, ← hW2, ← hW1, ← hA]; exact ((Blk.new W _ _).alloc _).alloc _
  have hrb : Blk W3 (A + 1) 47 [.slice bo ys.length bc] := by rw [← hW3, ← hW2, ← hs1]; exact (Blk.new W1 _ _).alloc _
  have hab : Blk W3 (A + 2) 47 [.slice ao xs.length ac] := by rw [← hW3, ← hs2]; exact Blk.new W2 _ _
  have HVL := hide (valuesP_any W2 ao xs.length ac)
  have HSZ0 : Hid (W.heap.size = A ∧ W1.heap.size = A + 1 ∧ W2.heap.size = A + 2) := ⟨hA, hs1, hs2⟩
  have HMI : Hid (∀ W', Only (fun _ => False) W3 W' → W'.heap.size = A + 5 → MtI J A 87 47 (.func (.yield l) #[] #[]) (.slice ao xs.length ac) L (fun k j => meetL (fun (x y : PE) => cmpI (x.2.doc : Int) (y.2.doc : Int)) (xs.drop k) (ys.drop j)) ys.length (fun j rv => ∀ X, Pq X (.slice bo ys.length bc) ys → Pq X rv (ys.drop j)) (fun _ => False) 0 W') := fun W' ho hsz => by
    have hoW : Only (fun _ => False) W W' := (Only.of_below (fun _ => False) hb3).trans ho (fun _ _ h => h)
    exact ⟨_, 0, 0, _, ⟨Nat.zero_le _, Nat.zero_le _, by simp only [List.drop_zero]; exact HLM.out.symm, fun X h => by rw [List.drop_zero]; exact h⟩, hJ Y 0 W W' h0 (hoW.mono (fun _ _ h => h.elim)), ⟨fun j h1 h2 => .inr ⟨by omega, by omega⟩, fun _ h => h.elim⟩, ⟨hyb.only ho (fun h => h), hrb.only ho (fun h => h), hab.only ho (fun h => h), by omega⟩, fun _ h => h.elim⟩
  have HJ := hide hJ
  have HJX := hide hJx
  have HV := hide hV
  have HY := hide hY
  have HS3 := hide hs3
  clear ca cb co hax hby hJ hJx hV hY h0 hA hb1 hb2 hb3 hyb hrb hab hs1 hs2 hs3
  refine callsIn_wide.2 ((callsIn_wide (n := 3)).1 ?_)
  refine callsIn_of_wp_marks Try.func108 rfl trivial ?_ rfl
  simp only [Try.ntmps108, List.size_toArray, List.length_cons, List.length_nil, Nat.reduceAdd, Nat.reduceSub, Array.replicate_succ, Array.replicate_zero, List.push_toArray, List.append_toArray, List.nil_append, List.cons_append]
  gi_wp2
  refine wpIn_wide.2 ?_
  apply wp_scope_straight
  refine (wpIn_wide (n := 3)).1 ?_
  gi_wp2
  apply wpIn_label
  gi_wp2_with (first
    | (refine ⟨trivial, ?_⟩; gi_at_call 109; refine (callsIn_wide.2 HVL.out).mono ?_; rintro e w1 ⟨rfl, hw⟩; subst w1; clear HVL))
  obtain ⟨e1, e2, e3⟩ := HSZ0.out
  simp only [e1, e2, e3]
  clear hW1 hW2 hW3 cb1 ca2 e1 e2 e3
  refine wp_range10 (gf := 129) (lb := #[.pointer (some ⟨A + 2, 0, none⟩)]) (xs := xs) (encs := encPE) (V := ValVP (A + 2) (.slice ao xs.length ac) xs) rfl enters_valP (valuesP_iter (A + 2) (.slice ao xs.length ac) xs hlx hsx).two (fun _ => rfl)
    (fun Y' k W' => MtI J A 87 47 (.func (.yield l) #[] #[]) (.slice ao xs.length ac) L (fun k j => meetL (fun (x y : PE) => cmpI (x.2.doc : Int) (y.2.doc : Int)) (xs.drop k) (ys.drop j)) ys.length (fun j rv => ∀ X, Pq X (.slice bo ys.length bc) ys → Pq X rv (ys.drop j)) Y' k W')
    (fun Y' cc k W' => cc = .ret ∧ MtX J Jx A L Y' W') ?_ ?_ ?_ ?_ ?_ ?_
    (fun x n a' W' => ∃ g, n ≤ g ∧ Blk W' g 63 [.int .u32 (x.2.doc : Int), x.1] ∧ a' = { tmps := #[.func (.yield l) #[] #[], .pointer (some ⟨Bp, 0, none⟩), .pointer (some ⟨Ap, 0, none⟩), .pointer (some ⟨Op, 0, none⟩), .pointer (some ⟨A, 0, none⟩), .pointer (some ⟨A + 1, 0, none⟩), .pointer (some ⟨g, 0, none⟩), undef, .slice bo ys.length bc, .slice ao xs.length ac, .func (.func 129) #[] #[.pointer (some ⟨A + 2, 0, none⟩)], .agg #[.int .u32 (x.2.doc : Int), x.1], undef, undef, undef, undef, undef, undef, undef, undef, undef, undef, undef, undef, undef, undef, undef, undef, undef, undef, undef, undef, undef, undef, undef, undef], defers := [] })
    ?_ (fun Y' k W' W'' h hb => MtI.fresh HJ.out h hb) (fun Y' k W' h j hj => by obtain ⟨_, _, _, _, h⟩ := h; exact h.2.2.2.2 j hj) ?assign ?body ?done ?stop
  · intro Y' k W' W'' h ho
    exact h.keep HJ.out (by rw [HS3.out] at ho; exact ho)
  · intro Y' k W' W'' h ho
    exact h.grow HJ.out ho
  · rintro Y' cc k W' W'' ⟨rfl, h⟩ ho
    exact ⟨rfl, h.keep HJ.out HJX.out (by rw [HS3.out] at ho; exact ho)⟩
  · rintro Y' cc k W' W'' ⟨rfl, h⟩ ho
    exact ⟨rfl, h.grow HJ.out HJX.out ho⟩
  · rintro Y' k W' ⟨Z, k', j, rv, h⟩
    exact ⟨h.2.2.2.1.abox.cell 0, (HV.out Z k' W' h.2.1).2.1⟩
  · intro W' ho hs
    exact HMI.out W' ho (by have := HS3.out; omega)
  · rintro x n a' W' W'' ⟨g, hg1, hg2, rfl⟩ hn ho
    exact ⟨g, hg1, hg2.only ho (by omega), rfl⟩
  case assign =>
    intro l2 k hk W' K hK
    obtain ⟨x, hx⟩ : ∃ x, xs[k] = x := ⟨_, rfl⟩
    obtain ⟨xa, xn, xc, hxv⟩ := hsx x (by rw [← hx]; exact List.getElem_mem hk)
    rw [hx] at hK ⊢
    obtain ⟨xv, d, xp⟩ := x
    simp only at hxv
    subst hxv
    clear hx
    simp only [encPE]
    gi_wp2
    exact hK _ _ ⟨_, Nat.le_refl _, Blk.new W' _ _, rfl⟩ ((Below.refl _ W').alloc (Nat.le_refl _) _)
  case body =>
    rintro l2 Y' k hk n W' a' hYn hn2 hI ⟨g, hg1, hg2, rfl⟩
    obtain ⟨x, hx⟩ : ∃ x, xs[k] = x := ⟨_, rfl⟩
    rw [hx] at hg2
    have hxd : xs.drop k = x :: xs.drop (k + 1) := by rw [List.drop_eq_getElem_cons hk, hx]
    obtain ⟨xa, xn, xc, hxv⟩ := hsx x (by rw [← hx]; exact List.getElem_mem hk)
    obtain ⟨xv, xd, xp⟩ := x
    simp only at hxv hg2 ⊢
    subst hxv
    have HG : Hid (A + 5 ≤ g ∧ Blk W' g 63 [.int .u32 (xd : Int), .slice xa xn xc]) := ⟨by have := HS3.out; omega, hg2⟩
    clear hg2
    have HXD := hide hxd
    have HII := hide hI
    have hsw : A + 5 ≤ W'.heap.size := by obtain ⟨_, _, _, _, h⟩ := hI; exact h.2.2.2.1.size
    have HSW := hide hsw
    clear hI hx hxd HMI hsw
    gi_wp2
    gi_loopw [] (fun wr => ∃ (Z : Nat → Prop) (k' j : Nat) (rv : Value), MtJ J A 87 47 (.func (.yield l) #[] #[]) (.slice ao xs.length ac) L (fun k j => meetL (fun (x y : PE) => cmpI (x.2.doc : Int) (y.2.doc : Int)) (xs.drop k) (ys.drop j)) ys.length (fun j rv => ∀ X, Pq X (.slice bo ys.length bc) ys → Pq X rv (ys.drop j)) Y' k Z k' j rv wr ∧ Keeps2 (A + 3) W' wr ∧ KeepsY Y' W' wr ∧ W'.heap.size ≤ wr.heap.size ∧ Blk wr g 63 [.int .u32 (xd : Int), .slice xa xn xc]) (fun wr => rdL wr (A + 1))
    case atStart =>
      obtain ⟨Z, k', j, rv, h⟩ := HII.out
      exact ⟨Z, k', j, rv, h, Keeps2.refl _ _, KeepsY.refl _ _, Nat.le_refl _, HG.out.2⟩
    case round =>
      obtain ⟨Z, k', j, rv, hst, hk2, hkY, hsz, hg3⟩ := hrel
      clear HII
      obtain ⟨⟨hkl, hjn, hd, hcut⟩, hj, hz, hK, hyl⟩ := id hst
      have HYL := hide hyl
      obtain ⟨⟨_, _, co⟩, _, hby⟩ := HV.out Z k' wr hj
      have hd : L.drop k' = meetL (fun (x y : PE) => cmpI (x.2.doc : Int) (y.2.doc : Int)) (xs.drop k) (ys.drop j) := hd
      have hcut : ∀ X, Pq X (.slice bo ys.length bc) ys → Pq X rv (ys.drop j) := hcut
      have hry := hcut wr hby
      obtain ⟨ra, rc, rfl, hrc1, hrc2⟩ := hry.shape
      obtain ⟨m, hm⟩ : ∃ m, (ys.drop j).length = m := ⟨_, rfl⟩
      have hmj : m = ys.length - j := by rw [← hm, List.length_drop]
      rw [hm] at hst hcut hK hry hrc1
      have cY : wr.cell? ⟨A, 0, none⟩ = some (.func (.yield l) #[] #[]) := hK.ybox.cell 0
      have cR : wr.cell? ⟨A + 1, 0, none⟩ = some (.slice ra m rc) := hK.rbox.cell 0
      have fR := hK.rbox.frozen 0
      have HST := hide hst
      have HK2 := hide hk2
      have HKY := hide hkY
      have HSZ := hide hsz
      have HCUT := hide hcut
      have HD := hide hd
      have HMJ := hide hmj
      have HRD := hide (rdL_at cR)
      have HG3 := hide hg3
      clear hst hk2 hkY hsz hcut hd hj hz hK hyl hmj hg3
      by_cases hm0 : m = 0
      · subst hm0
        have hjl : ys.drop j = [] := List.eq_nil_of_length_eq_zero hm
        have hfin : k' = L.length := by
          have h := HD.out
          rw [hjl, meet_nil, List.drop_eq_nil_iff] at h
          omega
        have HFIN := hide hfin
        clear hry hm hjl hfin
        gi_wp2
        obtain ⟨_, hj, hz, hK, _⟩ := HST.out
        rw [HFIN.out] at hj
        rw [HS3.out]
        exact ⟨HK2.out, HKY.out, rfl, Z, hz, hK.size, .inl hj⟩
      · have hmp : 0 < m := by omega
        have hmi : (0 : Int) < (m : Int) := by omega
        have hjy : j < ys.length := by have := HMJ.out; omega
        obtain ⟨y, hy⟩ : ∃ y, ys[j] = y := ⟨_, rfl⟩
        have hyd : ys.drop j = y :: ys.drop (j + 1) := by rw [List.drop_eq_getElem_cons hjy, hy]
        obtain ⟨ya, yn, yc, hyv⟩ := hsy y (by rw [← hy]; exact List.getElem_mem hjy)
        obtain ⟨rg, ro, rfl, hc0, hc1⟩ := hry.at 0 (by rw [hm]; exact hmp)
        rw [hyd, List.getD_cons_zero, Nat.zero_mul, Nat.add_zero] at hc0 hc1
        obtain ⟨yv, yd, yp⟩ := y
        simp only at hyv hc0 hc1
        subst hyv
        obtain ⟨ca, cc, hcl, hcd⟩ := cut_1P (some ⟨rg, ro, none⟩) (ys.drop j) rc (by omega) (by omega) hrc2
        rw [hm] at hcl hcd
        have HCD := hide hcd
        have HYD := hide hyd
        obtain ⟨W4, hW4⟩ : ∃ x, wr.drew = x := ⟨_, rfl⟩
        have hb4 : Below wr.heap.size wr W4 := by rw [← hW4]; exact (Below.refl _ wr).drew
        have HCO : Hid (W4.cell? ⟨Op, 0, none⟩ = some (.func (.func 53) #[] #[])) := cell_belowL hb4 co
        have HRC : Hid (W4.cell? ⟨A + 1, 0, none⟩ = some (.slice (some ⟨rg, ro, none⟩) m rc)) := cell_belowL hb4 cR
        have HYC : Hid (W4.cell? ⟨rg, ro, none⟩ = some (.int .u32 (yd : Int)) ∧ W4.cell? ⟨rg, ro + 1, none⟩ = some (.slice ya yn yc)) := ⟨cell_belowL hb4 hc0, cell_belowL hb4 hc1⟩
        have HXC : Hid (W4.cell? ⟨g, 0, none⟩ = some (.int .u32 (xd : Int)) ∧ W4.cell? ⟨g, 1, none⟩ = some (.slice xa xn xc)) := ⟨cell_belowL hb4 (HG3.out.cell 0), cell_belowL hb4 (HG3.out.cell 1)⟩
        have HCM : Hid (Calls Try.prog 53 #[.agg #[.int .u32 (xd : Int), .slice xa xn xc], .agg #[.int .u32 (yd : Int), .slice ya yn yc]] W4 fun e w' => e = .returned (.int .i64 (cmpI (xd : Int) (yd : Int))) ∧ Below W4.heap.size W4 w') := byDoc_any W4 xd yd _ _ rfl rfl
        have HB4 := hide hb4
        have HW4 := hide hW4
        have HM0 : Hid ((0 : Int) < (m : Int)) := hmi
        clear hb4 hry hm hy hyd hcd co hby hc0 hc1 cY
        have HO := hide (cmp3 xd yd)
        rcases HO.out with ho | ho | ho
        · rw [ho] at HCM
          have HNX : Hid (L.drop k' = meetL (fun (x y : PE) => cmpI (x.2.doc : Int) (y.2.doc : Int)) (xs.drop (k + 1)) (ys.drop j)) := by
            show _ = _
            rw [HD.out, HXD.out, HYD.out]
            exact meet_lt (o := (fun (x y : PE) => cmpI (x.2.doc : Int) (y.2.doc : Int))) (by show cmpI (xd : Int) (yd : Int) < 0; rw [ho]; decide)
          clear ho HO HD
          gi_wp2
          refine wpIn_region_chainZ [some (.func (.func 53) #[] #[]), some (.agg #[.int .u32 (xd : Int), .slice xa xn xc]), some (.slice (some ⟨rg, ro, none⟩) m rc), some (.pointer (some ⟨rg, ro, none⟩)), some (.agg #[.int .u32 (yd : Int), .slice ya yn yc]), none, none] [5, 6] (StM W4 (.int .i64 (-1))) 36 (by kernel_rfl) (by kernel_rfl) (by kernel_rfl) (by kernel_rfl) rfl ?_ ?_ ?_
          · exact fun vals0 => HW4.out
          · refine ⟨?_, ?_, ?_, ?_, ?_, ?_, ?_, trivial⟩
            · intro k vals act wx hk hlk h hs
              have e3 : act.eval (.tmp 3) = .pointer (some ⟨Op, 0, none⟩) := h.old 3 (by kernel_rfl)
              obtain rfl := chain_zero hlk (by kernel_rfl)
              obtain rfl : wx = W4 := hs
              clear h hlk
              have hco := HCO.out
              refine givesZ_of (by intro c hc; cases hc) (gives_by rfl act.eval rfl ?_)
              generalize act.eval = ρ at *
              intro hf hc
              go_simp
              exact ⟨rfl, rfl⟩
            · intro k vals act wx hk hlk h hs
              have e6 : act.eval (.tmp 6) = .pointer (some ⟨g, 0, none⟩) := h.old 6 (by kernel_rfl)
              obtain rfl := chain_zero hlk (by kernel_rfl)
              obtain rfl : wx = W4 := hs
              clear h hlk
              obtain ⟨hx0, hx1⟩ := HXC.out
              refine givesZ_of (by intro c hc; cases hc) (gives_by rfl act.eval rfl ?_)
              generalize act.eval = ρ at *
              intro hf hc
              go_simp
              exact ⟨rfl, rfl⟩
            · intro k vals act wx hk hlk h hs
              have e5 : act.eval (.tmp 5) = .pointer (some ⟨A + 1, 0, none⟩) := h.old 5 (by kernel_rfl)
              obtain rfl := chain_zero hlk (by kernel_rfl)
              obtain rfl : wx = W4 := hs
              clear h hlk
              have hcr := HRC.out
              refine givesZ_of (by intro c hc; cases hc) (gives_by rfl act.eval rfl ?_)
              generalize act.eval = ρ at *
              intro hf hc
              go_simp
              exact ⟨rfl, rfl⟩
            · intro k vals act wx hk hlk h hs
              have e19 : act.eval (.tmp 19) = .slice (some ⟨rg, ro, none⟩) m rc := h.q 2 19 (by kernel_rfl) rfl
              obtain rfl := chain_zero hlk (by kernel_rfl)
              obtain rfl : wx = W4 := hs
              clear h hlk
              have hm0 := HM0.out
              refine givesZ_of (by intro c hc; cases hc) (gives_by rfl act.eval rfl ?_)
              generalize act.eval = ρ at *
              intro hf hc
              go_simp
              exact ⟨rfl, rfl⟩
            · intro k vals act wx hk hlk h hs
              have e20 : act.eval (.tmp 20) = .pointer (some ⟨rg, ro, none⟩) := h.q 3 20 (by kernel_rfl) rfl
              obtain rfl := chain_zero hlk (by kernel_rfl)
              obtain rfl : wx = W4 := hs
              clear h hlk
              obtain ⟨hy0, hy1⟩ := HYC.out
              refine givesZ_of (by intro c hc; cases hc) (gives_by rfl act.eval rfl ?_)
              generalize act.eval = ρ at *
              intro hf hc
              go_simp
              exact ⟨rfl, rfl⟩
            · intro vals act wx h hs
              have e17 : act.eval (.tmp 17) = .func (.func 53) #[] #[] := h.q 0 17 (by kernel_rfl) rfl
              have e18 : act.eval (.tmp 18) = .agg #[.int .u32 (xd : Int), .slice xa xn xc] := h.q 1 18 (by kernel_rfl) rfl
              have e21 : act.eval (.tmp 21) = .agg #[.int .u32 (yd : Int), .slice ya yn yc] := h.q 4 21 (by kernel_rfl) rfl
              clear h
              obtain rfl : wx = W4 := hs
              refine givesZ_of (by intro c hc; cases hc) (gives_by rfl act.eval rfl ?_)
              generalize act.eval = ρ at *
              intro hf hc
              go_simp
              refine HCM.out.mono ?_
              rintro e w' ⟨rfl, hw⟩
              exact ⟨_, rfl, rfl, hw⟩
            · intro vals act wx h hs
              have e22 : act.eval (.tmp 22) = vals 5 := h.val 5 22 (by kernel_rfl)
              clear h
              obtain ⟨hr, hb⟩ := hs
              rw [show vals 5 = .int .i64 (-1) from hr] at e22
              refine givesZ_of (by intro c hc; cases hc) (gives_by rfl act.eval rfl ?_)
              generalize act.eval = ρ at *
              intro hf hc
              go_simp
              exact ⟨rfl, hb⟩
          · intro vals w5 hq hs
            obtain ⟨hr6, hb5⟩ := hs
            have hr6 : vals 6 = .int .i64 (-1) := hr6
            simp only [putAll, Act.put, List.setIfInBounds_toArray, List.set_cons_zero, List.set_cons_succ, Nat.zero_add, Nat.reduceAdd]
            rw [hr6]
            clear hr6 hq
            generalize vals 0 = x0 at *
            generalize vals 1 = x1 at *
            generalize vals 2 = x2 at *
            generalize vals 3 = x3 at *
            generalize vals 4 = x4 at *
            generalize vals 5 = x5 at *
            have HST5 := hide (HST.out.step HJ.out (Only.of_below (fun _ => False) (HB4.out.trans (hb5.mono HB4.out.size))) (fun i e => e.elim))
            have HB5 := hide (HB4.out.trans (hb5.mono HB4.out.size))
            have HB45 := hide hb5
            generalize more Z wr w5 = Z5 at *
            clear hb5 HST
            gi_wp2
            rw [HS3.out]
            obtain ⟨⟨g1, g2, g3, g4⟩, g5, g6, g7, g8⟩ := HST5.out
            exact ⟨HK2.out.trans (Keeps2.of_only (Only.of_below (fun _ => False) HB5.out) (fun h => h) (fun h => h)), HKY.out.trans (KeepsY.of_only (Only.of_below (fun _ => False) HB5.out) (fun i hi => HYL.out i hi) (fun _ _ h => h)), _, k', j, _, ⟨g1, g2, HNX.out, g4⟩, g5, g6, g7, g8⟩
        · rw [ho] at HCM
          have HNX : Hid (L.drop k' = ((.slice xa xn xc, ⟨xd, xp⟩), (.slice ya yn yc, ⟨yd, yp⟩)) :: meetL (fun (x y : PE) => cmpI (x.2.doc : Int) (y.2.doc : Int)) (xs.drop (k + 1)) (ys.drop j)) := by
            show _ = _
            rw [HD.out, HXD.out, HYD.out]
            exact meet_eq (o := (fun (x y : PE) => cmpI (x.2.doc : Int) (y.2.doc : Int))) ho
          clear ho HO HD
          gi_wp2
          refine wpIn_region_chainZ [some (.func (.func 53) #[] #[]), some (.agg #[.int .u32 (xd : Int), .slice xa xn xc]), some (.slice (some ⟨rg, ro, none⟩) m rc), some (.pointer (some ⟨rg, ro, none⟩)), some (.agg #[.int .u32 (yd : Int), .slice ya yn yc]), none, none] [5, 6] (StM W4 (.int .i64 (0))) 36 (by kernel_rfl) (by kernel_rfl) (by kernel_rfl) (by kernel_rfl) rfl ?_ ?_ ?_
          · exact fun vals0 => HW4.out
          · refine ⟨?_, ?_, ?_, ?_, ?_, ?_, ?_, trivial⟩
            · intro k vals act wx hk hlk h hs
              have e3 : act.eval (.tmp 3) = .pointer (some ⟨Op, 0, none⟩) := h.old 3 (by kernel_rfl)
              obtain rfl := chain_zero hlk (by kernel_rfl)
              obtain rfl : wx = W4 := hs
              clear h hlk
              have hco := HCO.out
              refine givesZ_of (by intro c hc; cases hc) (gives_by rfl act.eval rfl ?_)
              generalize act.eval = ρ at *
              intro hf hc
              go_simp
              exact ⟨rfl, rfl⟩
            · intro k vals act wx hk hlk h hs
              have e6 : act.eval (.tmp 6) = .pointer (some ⟨g, 0, none⟩) := h.old 6 (by kernel_rfl)
              obtain rfl := chain_zero hlk (by kernel_rfl)
              obtain rfl : wx = W4 := hs
              clear h hlk
              obtain ⟨hx0, hx1⟩ := HXC.out
              refine givesZ_of (by intro c hc; cases hc) (gives_by rfl act.eval rfl ?_)
              generalize act.eval = ρ at *
              intro hf hc
              go_simp
              exact ⟨rfl, rfl⟩
            · intro k vals act wx hk hlk h hs
              have e5 : act.eval (.tmp 5) = .pointer (some ⟨A + 1, 0, none⟩) := h.old 5 (by kernel_rfl)
              obtain rfl := chain_zero hlk (by kernel_rfl)
              obtain rfl : wx = W4 := hs
              clear h hlk
              have hcr := HRC.out
              refine givesZ_of (by intro c hc; cases hc) (gives_by rfl act.eval rfl ?_)
              generalize act.eval = ρ at *
              intro hf hc
              go_simp
              exact ⟨rfl, rfl⟩
            · intro k vals act wx hk hlk h hs
              have e19 : act.eval (.tmp 19) = .slice (some ⟨rg, ro, none⟩) m rc := h.q 2 19 (by kernel_rfl) rfl
              obtain rfl := chain_zero hlk (by kernel_rfl)
              obtain rfl : wx = W4 := hs
              clear h hlk
              have hm0 := HM0.out
              refine givesZ_of (by intro c hc; cases hc) (gives_by rfl act.eval rfl ?_)
              generalize act.eval = ρ at *
              intro hf hc
              go_simp
              exact ⟨rfl, rfl⟩
            · intro k vals act wx hk hlk h hs
              have e20 : act.eval (.tmp 20) = .pointer (some ⟨rg, ro, none⟩) := h.q 3 20 (by kernel_rfl) rfl
              obtain rfl := chain_zero hlk (by kernel_rfl)
              obtain rfl : wx = W4 := hs
              clear h hlk
              obtain ⟨hy0, hy1⟩ := HYC.out
              refine givesZ_of (by intro c hc; cases hc) (gives_by rfl act.eval rfl ?_)
              generalize act.eval = ρ at *
              intro hf hc
              go_simp
              exact ⟨rfl, rfl⟩
            · intro vals act wx h hs
              have e17 : act.eval (.tmp 17) = .func (.func 53) #[] #[] := h.q 0 17 (by kernel_rfl) rfl
              have e18 : act.eval (.tmp 18) = .agg #[.int .u32 (xd : Int), .slice xa xn xc] := h.q 1 18 (by kernel_rfl) rfl
              have e21 : act.eval (.tmp 21) = .agg #[.int .u32 (yd : Int), .slice ya yn yc] := h.q 4 21 (by kernel_rfl) rfl
              clear h
              obtain rfl : wx = W4 := hs
              refine givesZ_of (by intro c hc; cases hc) (gives_by rfl act.eval rfl ?_)
              generalize act.eval = ρ at *
              intro hf hc
              go_simp
              refine HCM.out.mono ?_
              rintro e w' ⟨rfl, hw⟩
              exact ⟨_, rfl, rfl, hw⟩
            · intro vals act wx h hs
              have e22 : act.eval (.tmp 22) = vals 5 := h.val 5 22 (by kernel_rfl)
              clear h
              obtain ⟨hr, hb⟩ := hs
              rw [show vals 5 = .int .i64 (0) from hr] at e22
              refine givesZ_of (by intro c hc; cases hc) (gives_by rfl act.eval rfl ?_)
              generalize act.eval = ρ at *
              intro hf hc
              go_simp
              exact ⟨rfl, hb⟩
          · intro vals w5 hq hs
            obtain ⟨hr6, hb5⟩ := hs
            have hr6 : vals 6 = .int .i64 (0) := hr6
            simp only [putAll, Act.put, List.setIfInBounds_toArray, List.set_cons_zero, List.set_cons_succ, Nat.zero_add, Nat.reduceAdd]
            rw [hr6]
            clear hr6 hq
            generalize vals 0 = x0 at *
            generalize vals 1 = x1 at *
            generalize vals 2 = x2 at *
            generalize vals 3 = x3 at *
            generalize vals 4 = x4 at *
            generalize vals 5 = x5 at *
            have HST5 := hide (HST.out.step HJ.out (Only.of_below (fun _ => False) (HB4.out.trans (hb5.mono HB4.out.size))) (fun i e => e.elim))
            have HB5 := hide (HB4.out.trans (hb5.mono HB4.out.size))
            have HB45 := hide hb5
            generalize more Z wr w5 = Z5 at *
            clear hb5 HST
            obtain ⟨⟨g1, g2, g3, g4⟩, g5, g6, g7, g8⟩ := HST5.out
            have hkl5 : k' < L.length := by
              apply Nat.lt_of_not_le
              intro hle
              have h := HNX.out
              rw [List.drop_eq_nil_of_le hle] at h
              cases h
            have hnx := HNX.out
            rw [List.drop_eq_getElem_cons hkl5] at hnx
            obtain ⟨hx1, hx2⟩ := List.cons.inj hnx
            clear hnx
            obtain ⟨W6, hW6⟩ : ∃ x, w5.drew = x := ⟨_, rfl⟩
            have hb6 : Below w5.heap.size w5 W6 := by rw [← hW6]; exact (Below.refl _ w5).drew
            have hst6 := HST5.out.step HJ.out (Only.of_below (fun _ => False) hb6) (fun i e => e.elim)
            have hb46 : Below W4.heap.size W4 W6 := HB45.out.trans (hb6.mono HB45.out.size)
            generalize more Z5 w5 W6 = Z6 at *
            have hyy := HY.out Z6 k' hkl5 W6 hst6.2.1
            rw [hx1] at hyy
            simp only [enc2P, encPE] at hyy
            obtain ⟨Post, hPT, hPF, hPO⟩ : ∃ Post : Bool → World → Prop, (∀ W', J Z6 (k' + 1) W' ∧ KeepsY Z6 W6 W' → Post true W') ∧ (∀ W', Jx Z6 (k' + 1) W' ∧ KeepsY Z6 W6 W' → Post false W') ∧ (∀ r W', Post r W' → (r = true → J Z6 (k' + 1) W' ∧ KeepsY Z6 W6 W') ∧ (r = false → Jx Z6 (k' + 1) W' ∧ KeepsY Z6 W6 W')) :=
              ⟨fun r W' => (r = true → J Z6 (k' + 1) W' ∧ KeepsY Z6 W6 W') ∧ (r = false → Jx Z6 (k' + 1) W' ∧ KeepsY Z6 W6 W'), fun W' h => ⟨fun _ => h, fun e => (by cases e)⟩, fun W' h => ⟨fun e => (by cases e), fun _ => h⟩, fun _ _ h => h⟩
            have HYR := hide hyy
            have HPT := hide hPT
            have HPF := hide hPF
            have HPO := hide hPO
            have HST6 := hide hst6
            have HW6 := hide hW6
            have HX2 := hide hx2
            have HB6 := hide (HB5.out.trans (hb6.mono HB5.out.size))
            have HYC6 : Hid (W6.cell? ⟨A, 0, none⟩ = some (.func (.yield l) #[] #[])) := hst6.2.2.2.1.ybox.cell 0
            have HRC6 : Hid (W6.cell? ⟨A + 1, 0, none⟩ = some (.slice (some ⟨rg, ro, none⟩) m rc)) := hst6.2.2.2.1.rbox.cell 0
            have HE6 : Hid (W6.cell? ⟨rg, ro, none⟩ = some (.int .u32 (yd : Int)) ∧ W6.cell? ⟨rg, ro + 1, none⟩ = some (.slice ya yn yc)) := ⟨cell_belowL hb46 HYC.out.1, cell_belowL hb46 HYC.out.2⟩
            have HX6 : Hid (W6.cell? ⟨g, 0, none⟩ = some (.int .u32 (xd : Int)) ∧ W6.cell? ⟨g, 1, none⟩ = some (.slice xa xn xc)) := ⟨cell_belowL hb46 HXC.out.1, cell_belowL hb46 HXC.out.2⟩
            clear g1 g2 g3 g4 g5 g6 g7 g8 hx1 hx2 hyy hPT hPF hPO hst6 hW6 hb6 hb46 HYC HRC HCO HXC
            gi_wp2
            refine wpIn_region_chainZ [some (.func (.yield l) #[] #[]), some (.agg #[.int .u32 (xd : Int), .slice xa xn xc]), some (.slice (some ⟨rg, ro, none⟩) m rc), some (.pointer (some ⟨rg, ro, none⟩)), some (.agg #[.int .u32 (yd : Int), .slice ya yn yc]), none, none] [5, 6] (StW W6 Post) 36 (by kernel_rfl) (by kernel_rfl) (by kernel_rfl) (by kernel_rfl) rfl ?_ ?_ ?_
            · exact fun vals0 => HW6.out
            · refine ⟨?_, ?_, ?_, ?_, ?_, ?_, ?_, trivial⟩
              · intro k vals act wx hk hlk h hs
                have e4 : act.eval (.tmp 4) = .pointer (some ⟨A, 0, none⟩) := h.old 4 (by kernel_rfl)
                obtain rfl := chain_zero hlk (by kernel_rfl)
                obtain rfl : wx = W6 := hs
                clear h hlk
                have hco := HYC6.out
                refine givesZ_of (by intro c hc; cases hc) (gives_by rfl act.eval rfl ?_)
                generalize act.eval = ρ at *
                intro hf hc
                go_simp
                exact ⟨rfl, rfl⟩
              · intro k vals act wx hk hlk h hs
                have e6 : act.eval (.tmp 6) = .pointer (some ⟨g, 0, none⟩) := h.old 6 (by kernel_rfl)
                obtain rfl := chain_zero hlk (by kernel_rfl)
                obtain rfl : wx = W6 := hs
                clear h hlk
                obtain ⟨hx0, hx1⟩ := HX6.out
                refine givesZ_of (by intro c hc; cases hc) (gives_by rfl act.eval rfl ?_)
                generalize act.eval = ρ at *
                intro hf hc
                go_simp
                exact ⟨rfl, rfl⟩
              · intro k vals act wx hk hlk h hs
                have e5 : act.eval (.tmp 5) = .pointer (some ⟨A + 1, 0, none⟩) := h.old 5 (by kernel_rfl)
                obtain rfl := chain_zero hlk (by kernel_rfl)
                obtain rfl : wx = W6 := hs
                clear h hlk
                have hcr := HRC6.out
                refine givesZ_of (by intro c hc; cases hc) (gives_by rfl act.eval rfl ?_)
                generalize act.eval = ρ at *
                intro hf hc
                go_simp
                exact ⟨rfl, rfl⟩
              · intro k vals act wx hk hlk h hs
                have e31 : act.eval (.tmp 31) = .slice (some ⟨rg, ro, none⟩) m rc := h.q 2 31 (by kernel_rfl) rfl
                obtain rfl := chain_zero hlk (by kernel_rfl)
                obtain rfl : wx = W6 := hs
                clear h hlk
                have hm0 := HM0.out
                refine givesZ_of (by intro c hc; cases hc) (gives_by rfl act.eval rfl ?_)
                generalize act.eval = ρ at *
                intro hf hc
                go_simp
                exact ⟨rfl, rfl⟩
              · intro k vals act wx hk hlk h hs
                have e32 : act.eval (.tmp 32) = .pointer (some ⟨rg, ro, none⟩) := h.q 3 32 (by kernel_rfl) rfl
                obtain rfl := chain_zero hlk (by kernel_rfl)
                obtain rfl : wx = W6 := hs
                clear h hlk
                obtain ⟨hy0, hy1⟩ := HE6.out
                refine givesZ_of (by intro c hc; cases hc) (gives_by rfl act.eval rfl ?_)
                generalize act.eval = ρ at *
                intro hf hc
                go_simp
                exact ⟨rfl, rfl⟩
              · intro vals act wx h hs
                have e29 : act.eval (.tmp 29) = .func (.yield l) #[] #[] := h.q 0 29 (by kernel_rfl) rfl
                have e30 : act.eval (.tmp 30) = .agg #[.int .u32 (xd : Int), .slice xa xn xc] := h.q 1 30 (by kernel_rfl) rfl
                have e33 : act.eval (.tmp 33) = .agg #[.int .u32 (yd : Int), .slice ya yn yc] := h.q 4 33 (by kernel_rfl) rfl
                clear h
                obtain rfl : wx = W6 := hs
                refine givesZ_yield (by intro c hc; cases hc) rfl l #[.agg #[.int .u32 (xd : Int), .slice xa xn xc], .agg #[.int .u32 (yd : Int), .slice ya yn yc]] ?_ ?_
                · intro f tmps assign body hyy
                  generalize act.eval = ρ at *
                  go_simp
                · exact yield_weaken HYR.out (fun e w' hh => by
                    rcases hh with ⟨rfl, hh⟩ | ⟨rfl, hh⟩
                    · exact ⟨_, rfl, true, rfl, HPT.out _ hh⟩
                    · exact ⟨_, rfl, false, rfl, HPF.out _ hh⟩)
              · intro vals act wx h hs
                have e34 : act.eval (.tmp 34) = vals 5 := h.val 5 34 (by kernel_rfl)
                clear h
                obtain ⟨r, hr, hh⟩ := hs
                rw [show vals 5 = .bool r from hr] at e34
                refine givesZ_of (by intro c hc; cases hc) (gives_by rfl act.eval rfl ?_)
                generalize act.eval = ρ at *
                intro hf hc
                go_simp
                exact ⟨r, rfl, hh⟩
            · intro vals w7 hq hs
              obtain ⟨r, hr, hh⟩ := hs
              have hr6 : vals 6 = .bool (!r) := hr
              simp only [putAll, Act.put, List.setIfInBounds_toArray, List.set_cons_zero, List.set_cons_succ, Nat.zero_add, Nat.reduceAdd]
              rw [hr6]
              clear hr6 hr hq
              generalize vals 0 = z0 at *
              generalize vals 1 = z1 at *
              generalize vals 2 = z2 at *
              generalize vals 3 = z3 at *
              generalize vals 4 = z4 at *
              generalize vals 5 = z5 at *
              have hh2 := HPO.out r w7 hh
              obtain ⟨⟨g1, g2, g3, g4⟩, g5, g6, g7, g8⟩ := HST6.out
              have hfin : ∀ W7, KeepsY Z6 W6 W7 → Keeps2 (A + 3) W' W7 ∧ KeepsY Y' W' W7 ∧ MtK A 87 47 (.func (.yield l) #[] #[]) (.slice (some ⟨rg, ro, none⟩) m rc) (.slice ao xs.length ac) W7 ∧ ∀ i, Y' i → i < W7.heap.size := fun W7 hk7 =>
                ⟨(HK2.out.trans (Keeps2.of_only (Only.of_below (fun _ => False) HB6.out) (fun h => h) (fun h => h))).trans (fun j hj o ho => (hk7 j (g6.z j (by omega) (by omega))).trans ho), (HKY.out.trans (KeepsY.of_only (Only.of_below (fun _ => False) HB6.out) (fun i hi => HYL.out i hi) (fun _ _ h => h))).trans (fun j hj => hk7 j (g6.y j hj).1), g7.keepY g6.z hk7, fun i hi => by
                  have e := hk7 i (g6.y i hi).1
                  rw [Array.getElem?_eq_getElem (g8 i hi)] at e
                  exact (Array.getElem?_eq_some_iff.1 e).1⟩
              have HFIN := hide hfin
              have HZ6 := hide g6
              have HG2 : Hid (j ≤ ys.length ∧ (∀ X, Pq X (.slice bo ys.length bc) ys → Pq X (.slice (some ⟨rg, ro, none⟩) m rc) (ys.drop j))) := ⟨g2, g4⟩
              clear g1 g2 g3 g4 g5 g6 g7 g8 hfin hh
              cases r with
              | true =>
                obtain ⟨hj7, hk7⟩ := hh2.1 rfl
                have HJ7 := hide hj7
                have HK7 := hide hk7
                clear hj7 hk7 hh2
                gi_wp2
                rw [HS3.out]
                obtain ⟨f1, f2, f3, f4⟩ := HFIN.out w7 HK7.out
                exact ⟨f1, f2, Z6, k' + 1, j, _, ⟨hkl5, HG2.out.1, HX2.out, HG2.out.2⟩, HJ7.out, HZ6.out, f3, f4⟩
              | false =>
                obtain ⟨hj7, hk7⟩ := hh2.2 rfl
                have HJ7 := hide hj7
                have HK7 := hide hk7
                clear hj7 hk7 hh2
                gi_wp2
                rw [HS3.out]
                obtain ⟨f1, f2, f3, f4⟩ := HFIN.out w7 HK7.out
                exact ⟨f1, f2, rfl, Z6, HZ6.out, f3.size, .inr ⟨k', hkl5, HJ7.out⟩⟩
        · rw [ho] at HCM
          have HNX : Hid (L.drop k' = meetL (fun (x y : PE) => cmpI (x.2.doc : Int) (y.2.doc : Int)) (xs.drop k) (ys.drop (j + 1))) := by
            show _ = _
            rw [HD.out, HXD.out, HYD.out]
            exact meet_gt (o := (fun (x y : PE) => cmpI (x.2.doc : Int) (y.2.doc : Int))) (by show 0 < cmpI (xd : Int) (yd : Int); rw [ho]; decide)
          clear ho HO HD
          gi_wp2
          refine wpIn_region_chainZ [some (.func (.func 53) #[] #[]), some (.agg #[.int .u32 (xd : Int), .slice xa xn xc]), some (.slice (some ⟨rg, ro, none⟩) m rc), some (.pointer (some ⟨rg, ro, none⟩)), some (.agg #[.int .u32 (yd : Int), .slice ya yn yc]), none, none] [5, 6] (StM W4 (.int .i64 (1))) 36 (by kernel_rfl) (by kernel_rfl) (by kernel_rfl) (by kernel_rfl) rfl ?_ ?_ ?_
          · exact fun vals0 => HW4.out
          · refine ⟨?_, ?_, ?_, ?_, ?_, ?_, ?_, trivial⟩
            · intro k vals act wx hk hlk h hs
              have e3 : act.eval (.tmp 3) = .pointer (some ⟨Op, 0, none⟩) := h.old 3 (by kernel_rfl)
              obtain rfl := chain_zero hlk (by kernel_rfl)
              obtain rfl : wx = W4 := hs
              clear h hlk
              have hco := HCO.out
              refine givesZ_of (by intro c hc; cases hc) (gives_by rfl act.eval rfl ?_)
              generalize act.eval = ρ at *
              intro hf hc
              go_simp
              exact ⟨rfl, rfl⟩
            · intro k vals act wx hk hlk h hs
              have e6 : act.eval (.tmp 6) = .pointer (some ⟨g, 0, none⟩) := h.old 6 (by kernel_rfl)
              obtain rfl := chain_zero hlk (by kernel_rfl)
              obtain rfl : wx = W4 := hs
              clear h hlk
              obtain ⟨hx0, hx1⟩ := HXC.out
              refine givesZ_of (by intro c hc; cases hc) (gives_by rfl act.eval rfl ?_)
              generalize act.eval = ρ at *
              intro hf hc
              go_simp
              exact ⟨rfl, rfl⟩
            · intro k vals act wx hk hlk h hs
              have e5 : act.eval (.tmp 5) = .pointer (some ⟨A + 1, 0, none⟩) := h.old 5 (by kernel_rfl)
              obtain rfl := chain_zero hlk (by kernel_rfl)
              obtain rfl : wx = W4 := hs
              clear h hlk
              have hcr := HRC.out
              refine givesZ_of (by intro c hc; cases hc) (gives_by rfl act.eval rfl ?_)
              generalize act.eval = ρ at *
              intro hf hc
              go_simp
              exact ⟨rfl, rfl⟩
            · intro k vals act wx hk hlk h hs
              have e19 : act.eval (.tmp 19) = .slice (some ⟨rg, ro, none⟩) m rc := h.q 2 19 (by kernel_rfl) rfl
              obtain rfl := chain_zero hlk (by kernel_rfl)
              obtain rfl : wx = W4 := hs
              clear h hlk
              have hm0 := HM0.out
              refine givesZ_of (by intro c hc; cases hc) (gives_by rfl act.eval rfl ?_)
              generalize act.eval = ρ at *
              intro hf hc
              go_simp
              exact ⟨rfl, rfl⟩
            · intro k vals act wx hk hlk h hs
              have e20 : act.eval (.tmp 20) = .pointer (some ⟨rg, ro, none⟩) := h.q 3 20 (by kernel_rfl) rfl
              obtain rfl := chain_zero hlk (by kernel_rfl)
              obtain rfl : wx = W4 := hs
              clear h hlk
              obtain ⟨hy0, hy1⟩ := HYC.out
              refine givesZ_of (by intro c hc; cases hc) (gives_by rfl act.eval rfl ?_)
              generalize act.eval = ρ at *
              intro hf hc
              go_simp
              exact ⟨rfl, rfl⟩
            · intro vals act wx h hs
              have e17 : act.eval (.tmp 17) = .func (.func 53) #[] #[] := h.q 0 17 (by kernel_rfl) rfl
              have e18 : act.eval (.tmp 18) = .agg #[.int .u32 (xd : Int), .slice xa xn xc] := h.q 1 18 (by kernel_rfl) rfl
              have e21 : act.eval (.tmp 21) = .agg #[.int .u32 (yd : Int), .slice ya yn yc] := h.q 4 21 (by kernel_rfl) rfl
              clear h
              obtain rfl : wx = W4 := hs
              refine givesZ_of (by intro c hc; cases hc) (gives_by rfl act.eval rfl ?_)
              generalize act.eval = ρ at *
              intro hf hc
              go_simp
              refine HCM.out.mono ?_
              rintro e w' ⟨rfl, hw⟩
              exact ⟨_, rfl, rfl, hw⟩
            · intro vals act wx h hs
              have e22 : act.eval (.tmp 22) = vals 5 := h.val 5 22 (by kernel_rfl)
              clear h
              obtain ⟨hr, hb⟩ := hs
              rw [show vals 5 = .int .i64 (1) from hr] at e22
              refine givesZ_of (by intro c hc; cases hc) (gives_by rfl act.eval rfl ?_)
              generalize act.eval = ρ at *
              intro hf hc
              go_simp
              exact ⟨rfl, hb⟩
          · intro vals w5 hq hs
            obtain ⟨hr6, hb5⟩ := hs
            have hr6 : vals 6 = .int .i64 (1) := hr6
            simp only [putAll, Act.put, List.setIfInBounds_toArray, List.set_cons_zero, List.set_cons_succ, Nat.zero_add, Nat.reduceAdd]
            rw [hr6]
            clear hr6 hq
            generalize vals 0 = x0 at *
            generalize vals 1 = x1 at *
            generalize vals 2 = x2 at *
            generalize vals 3 = x3 at *
            generalize vals 4 = x4 at *
            generalize vals 5 = x5 at *
            have HST5 := hide (HST.out.step HJ.out (Only.of_below (fun _ => False) (HB4.out.trans (hb5.mono HB4.out.size))) (fun i e => e.elim))
            have HB5 := hide (HB4.out.trans (hb5.mono HB4.out.size))
            have HB45 := hide hb5
            generalize more Z wr w5 = Z5 at *
            clear hb5 HST
            obtain ⟨⟨g1, g2, g3, g4⟩, g5, g6, g7, g8⟩ := HST5.out
            have cR5 : w5.cell? ⟨A + 1, 0, none⟩ = some (.slice (some ⟨rg, ro, none⟩) m rc) := g7.rbox.cell 0
            have fR5 := g7.rbox.frozen 0
            clear g1 g2 g3 g4 g5 g6 g7 g8
            gi_wp2
            go_roundw
            case rel =>
              obtain ⟨⟨g1, g2, g3, g4⟩, g5, g6, g7, g8⟩ := HST5.out
              have ho := only_set0 w5 (A + 1) (.slice ca (m - 1) cc)
              have ho2 := (Only.of_below (fun _ => False) HB5.out)
              exact ⟨_, k', j + 1, _, ⟨⟨g1, by omega, HNX.out, fun X hX => by have := HCD.out X (g4 X hX) ; rwa [List.drop_drop] at this⟩, HJ.out _ _ _ _ g5 (ho.mono (fun i _ e => g6.z i (by omega) (by omega))), (g6.more g7.size).part (fun _ h => .inl h), g7.setr _, fun i hi => Nat.lt_of_lt_of_le (g8 i hi) ho.size⟩, (HK2.out.trans (Keeps2.of_only ho2 (fun h => h) (fun h => h))).trans (Keeps2.of_only ho (by omega) (by omega)), (HKY.out.trans (KeepsY.of_only ho2 (fun i hi => HYL.out i hi) (fun _ _ h => h))).trans (KeepsY.of_only ho (fun i hi => g8 i hi) (fun i hi e => by have := (g6.y i hi).2; omega)), Nat.le_trans HSZ.out (Nat.le_trans HB5.out.size ho.size), (HG3.out.only ho2 (fun h => h)).only ho (by have := HG.out.1; omega)⟩
            case measure =>
              obtain ⟨_, _, _, g7, _⟩ := HST5.out
              have := (g7.setr (.slice ca (m - 1) cc)).rbox.cell 0
              rw [HRD.out, rdL_at this]
              omega
  case done =>
    rintro Y' W' ⟨Z, k', j, rv, ⟨h1, h2, h3, h4⟩, hj, hz, hK, hl⟩ hD
    have h3 : L.drop k' = meetL (fun (x y : PE) => cmpI (x.2.doc : Int) (y.2.doc : Int)) (xs.drop xs.length) (ys.drop j) := h3
    rw [List.drop_of_length_le (Nat.le_refl xs.length), meet_none] at h3
    have hk' : k' = L.length := by
      have := List.drop_eq_nil_iff.1 h3
      omega
    subst hk'
    have HD := hide hD
    have HJJ := hide hj
    have HZ := hide hz
    clear hD hj hz hK HMI h1 h2 h3 h4
    gi_wp2
    refine ⟨by simp, .inl ⟨_, _, rfl, run_takeDeferred HD.out, ?_⟩⟩
    have hoD : Only (· = W3.heap.size) W' (W'.putObj W3.heap.size (.deferred none)) := only_put1 W' _ _ _ rfl
    refine ⟨_, results_none rfl _ _ _, ⟨_, rfl⟩, _, .inl (HJ.out Z _ W' _ HJJ.out (hoD.mono (fun i _ e => HZ.out.z i (by have := HS3.out; omega) (by have := HS3.out; omega))))⟩
  case stop =>
    rintro Y' cc k W' hk ⟨rfl, Z, hz, hsz, hor⟩ hD
    have HD := hide hD
    have HZ := hide hz
    have HOR := hide hor
    clear hD hz HMI hor
    gi_wp2
    refine ⟨by simp, .inl ⟨_, _, rfl, run_takeDeferred HD.out, ?_⟩⟩
    have hoD : Only Z W' (W'.putObj W3.heap.size (.deferred none)) := (only_put1 W' _ _ (· = W3.heap.size) rfl).mono (fun i _ e => HZ.out.z i (by have := HS3.out; omega) (by have := HS3.out; omega))
    refine ⟨_, results_none rfl _ _ _, ⟨_, rfl⟩, _, HOR.out.imp (fun h => HJ.out Z _ W' _ h hoD) (fun ⟨k', a, b⟩ => ⟨k', a, HJX.out Z _ W' _ b hoD⟩)⟩

end Go.Proofs.Ytfihnmdhclnhgaa
