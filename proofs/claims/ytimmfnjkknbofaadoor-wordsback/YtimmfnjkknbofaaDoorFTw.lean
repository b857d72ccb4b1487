/- Contract: package fold's foldsTwice. -/
import Derived.Test.YtimmfnjkknbofaaDoorFRis
import Derived.Test.YtimmfnjkknbofaaDoorRegion
namespace Go.Proofs.YtimmfnjkknbofaaDoor
set_option maxRecDepth 20000
open Go.RowKit
set_option linter.unusedVariables false
set_option linter.unusedSimpArgs false
set_option maxRecDepth 100000

theorem call_gives {P : Program} {f : FuncId} {args : Array Value} {wx : World} {v : Value} {F : Value → World → Prop} (h : Calls P f args wx fun r w' => r = .returned v ∧ Below wx.heap.size wx w') (hF : ∀ w', F v w') :
    Calls P f args wx fun e w' => ∃ u, e = .returned u ∧ Below wx.heap.size wx w' ∧ F u w' := h.mono fun e w' ⟨he, hb⟩ => ⟨v, he, hb, hF w'⟩
def meetB (x y : Fd) : Bool := decide (x.2.1 ≤ y.1 + y.2.2 - 1) && decide (y.1 ≤ x.2.1 + x.2.2 - 1)
def twoB (x : Fd) (xs : List Fd) : Bool := xs.any (meetB x)
/-- a rune that one is folded to is folded itself -/
def twiceB (xs : List Fd) : Bool := xs.any fun x => twoB x xs
theorem any_yes {α : Type} {p : α → Bool} {x : α} {xs : List α} (h : p x = true) : (x :: xs).any p = true := by simp [h]
theorem any_no {α : Type} {p : α → Bool} {x : α} {xs : List α} (h : p x = false) : (x :: xs).any p = xs.any p := by simp [h]
def Cells3 (w : World) (b : Nat) (f t m : Int) : Prop := w.cell? ⟨b, 0, none⟩ = some (.int .i32 f) ∧ w.cell? ⟨b, 1, none⟩ = some (.int .i32 t) ∧ w.cell? ⟨b, 2, none⟩ = some (.int .i64 m)
theorem Cells3.below {w w' : World} {b : Nat} {f t m : Int} (h : Cells3 w b f t m) (hb : Below w.heap.size w w') : Cells3 w' b f t m := by
  obtain ⟨h0, h1, h2⟩ := h
  have hbb := hb.block b (World.block_lt_of_cell? w _ h0)
  exact ⟨(World.cell?_of_block (w := w) (a := ⟨b, _, none⟩) hbb).trans h0, (World.cell?_of_block (w := w) (a := ⟨b, _, none⟩) hbb).trans h1, (World.cell?_of_block (w := w) (a := ⟨b, _, none⟩) hbb).trans h2⟩
theorem Cells3.new (w : World) (f t m : Int) : Cells3 (w.alloc (.cells #[.int .i32 f, .int .i32 t, .int .i64 m] 54)) w.heap.size f t m := by
  refine ⟨?_, ?_, ?_⟩ <;> (rw [World.cell?_alloc_at _ _ _ _ rfl]; rfl)

set_option maxHeartbeats 4000000 in
theorem foldsTwice_any (w : World) (v : Value) (xs : List Fd) (hT : Tbl w v xs) (hN : ∀ x ∈ xs, NOk x.2.2) :
    Calls Tryd.prog 62 #[v] w fun e w' => e = .returned (.bool (twiceB xs)) ∧ Below w.heap.size w w' := by
  obtain ⟨ao, cap, rfl⟩ := hT.len
  have hmx := hT.max
  have HT := hide hT
  have HN := hide hN
  obtain ⟨n, hn⟩ : ∃ n, xs.length = n := ⟨_, rfl⟩
  have HL := hide hn
  rw [hn] at HT hmx ⊢
  clear hT hN hn
  go_enter Tryd.func62, Tryd.ntmps62
  go_wp2
  go_loopg [9] n (fun k i wr => ∃ j : Nat, k + j = n ∧ i = .int .i64 (j : Int) ∧ (xs.drop j).any (fun x => twoB x xs) = twiceB xs ∧ Below w.heap.size w wr)
  case atStart => exact ⟨0, rfl, rfl, rfl, Below.refl _ w⟩
  case round =>
    obtain ⟨j, hk, rfl, hs, hbw⟩ := hrel
    have HS := hide hs
    have HB := hide hbw
    clear hs hbw
    cases gk with
    | zero =>
      obtain rfl : j = n := by omega
      have hlt : ¬ (j : Int) < (j : Int) := by omega
      go_wp2
      go_ret
      exact ⟨ret_bool (by rw [← HS.out, List.drop_eq_nil_of_le (by rw [HL.out]; exact Nat.le_refl _)]; rfl), HB.out⟩
    | succ GO =>
      have hj : (j : Int) < (n : Int) := by omega
      obtain ⟨b, off, ⟨f, t, m⟩, rfl, hx, hok, q0, q1, q2⟩ := (HT.out.below HB.out).at j (by rw [HL.out]; omega)
      simp only at q0 q1 q2
      have HD := hide (drop_at hx)
      have HM := hide (HN.out _ (List.mem_of_getElem? hx))
      have HOK := hide hok
      obtain ⟨b4, hb4⟩ : ∃ b4, wr.heap.size = b4 := ⟨_, rfl⟩
      obtain ⟨W0, hW0⟩ : ∃ W0, wr.alloc (.cells #[.int .i32 f, .int .i32 t, .int .i64 m] 54) = W0 := ⟨_, rfl⟩
      have HB0 : Hid (Below w.heap.size w W0) := by rw [← hW0]; exact HB.out.alloc HB.out.size _
      have HC4 : Hid (Cells3 W0 b4 f t m) := by rw [← hW0, ← hb4]; exact Cells3.new wr f t m
      clear hx hok
      go_wp2
      try rw [hb4]
      clear q0 q1 q2
      have HGO := hide hk
      clear hk
      go_loopg [15] n (fun k2 i wr2 => ∃ q : Nat, k2 + q = n ∧ i = .int .i64 (q : Int) ∧ (xs.drop q).any (meetB (f, t, m)) = twoB (f, t, m) xs ∧ Below w.heap.size w wr2 ∧ Cells3 wr2 b4 f t m)
      case atStart => exact ⟨0, rfl, rfl, rfl, HB0.out, HC4.out⟩
      case round =>
        clear hW0 hb4
        clear HC4 HB0
        obtain ⟨q, hk, rfl, hs2, hbw2, hc4⟩ := hrel
        have HS2 := hide hs2
        have HB2 := hide hbw2
        have HC := hide hc4
        clear hs2 hbw2 hc4
        cases gk with
        | zero =>
          obtain rfl : q = n := by omega
          have hlt : ¬ (q : Int) < (q : Int) := by omega
          have HR : Hid ((xs.drop (j + 1)).any (fun x => twoB x xs) = twiceB xs) := by
            rw [← HS.out, HD.out]
            exact (any_no (p := fun x => twoB x xs) (x := (f, t, m)) (by show twoB (f, t, m) xs = false; rw [← HS2.out, List.drop_eq_nil_of_le (by rw [HL.out]; exact Nat.le_refl _)]; rfl)).symm
          go_wp2
          have hk := HGO.out
          go_roundg GO
          case measure => omega
          case rel => exact ⟨j + 1, by omega, by go_num, HR.out, HB2.out⟩
        | succ G2 =>
          have hj2 : (q : Int) < (n : Int) := by omega
          obtain ⟨b2, off2, ⟨f2, t2, m2⟩, heq, hx2, hok2, q0, q1, q2⟩ := (HT.out.below HB2.out).at q (by rw [HL.out]; omega)
          simp only [Option.some.injEq, Addr.mk.injEq] at heq
          obtain ⟨rfl, rfl, _⟩ := heq
          simp only at q0 q1 q2
          have hd2 := drop_at hx2
          have hm2 : NOk m2 := HN.out _ (List.mem_of_getElem? hx2)
          obtain ⟨b6, hb6⟩ : ∃ b6, wr.heap.size = b6 := ⟨_, rfl⟩
          obtain ⟨W2, hW2⟩ : ∃ W2, wr.alloc (.cells #[.int .i32 f2, .int .i32 t2, .int .i64 m2] 54) = W2 := ⟨_, rfl⟩
          have HB3 : Hid (Below w.heap.size w W2) := by rw [← hW2]; exact HB2.out.alloc HB2.out.size _
          have hC4 : Cells3 W2 b4 f t m := by rw [← hW2]; exact HC.out.below ((Below.refl _ wr).alloc (Nat.le_refl _) _)
          have hC6 : Cells3 W2 b6 f2 t2 m2 := by rw [← hW2, ← hb6]; exact Cells3.new wr f2 t2 m2
          have H4 : Hid (∀ wx, Below W2.heap.size W2 wx → Cells3 wx b4 f t m) := fun wx hb => hC4.below hb
          have H6 : Hid (∀ wx, Below W2.heap.size W2 wx → Cells3 wx b6 f2 t2 m2) := fun wx hb => hC6.below hb
          have HTO : Hid (∀ wx, Calls Tryd.prog 82 #[.agg #[.int .i32 f, .int .i32 t, .int .i64 m]] wx fun e w' => e = .returned (.agg #[.int .i64 t, .int .i64 (t + m - 1)]) ∧ Below wx.heap.size wx w') := fun wx => toRow_any wx f t m HOK.out.2.1 HM.out
          have HFR : Hid (∀ wx, Calls Tryd.prog 80 #[.agg #[.int .i32 f2, .int .i32 t2, .int .i64 m2]] wx fun e w' => e = .returned (.agg #[.int .i64 f2, .int .i64 (f2 + m2 - 1)]) ∧ Below wx.heap.size wx w') := fun wx => fromRow_any wx f2 t2 m2 hok2.1 hm2
          have HME0 : Hid (∀ wx, Calls Tryd.prog 83 #[.agg #[.int .i64 t, .int .i64 (t + m - 1)], .agg #[.int .i64 f2, .int .i64 (f2 + m2 - 1)]] wx fun e w' => e = .returned (.bool (meetB (f, t, m) (f2, t2, m2))) ∧ Below wx.heap.size wx w') := fun wx => meets_any wx t (t + m - 1) f2 (f2 + m2 - 1)
          have HD2 := hide hd2
          obtain ⟨M, hM⟩ : ∃ M, meetB (f, t, m) (f2, t2, m2) = M := ⟨_, rfl⟩
          have HMV := hide hM
          rw [hM] at HME0
          have HME := HME0
          clear hx2 hok2 hm2 hd2 hM HME0 hC4 hC6
          go_wp2
          try rw [hb6]
          clear q0 q1 q2 hb6 hW2
          refine wp_region_facts (FL [isV (.agg #[.int .i32 f, .int .i32 t, .int .i64 m]), isV (.agg #[.int .i64 t, .int .i64 (t + m - 1)]), isV (.agg #[.int .i32 f2, .int .i32 t2, .int .i64 m2]), isV (.agg #[.int .i64 f2, .int .i64 (f2 + m2 - 1)]), isV (.bool M)]) 26 (by kernel_rfl) (by kernel_rfl) (by kernel_rfl) rfl (FL_stable _ (by repeat (first | exact trivial | refine ⟨stable_isV _, ?_⟩))) ?_ ?_
          · refine ⟨?_, ?_, ?_, ?_, ?_, trivial⟩
            · intro act wx h
              have e4 : act.eval (.tmp 4) = .pointer (some ⟨b4, 0, none⟩) := h.old 4 (by kernel_rfl)
              have hbel := h.below
              clear h
              have z0 := H4.out wx hbel
              obtain ⟨x0, x1, x2⟩ := z0
              refine gives_by rfl act.eval rfl ?_
              generalize act.eval = ρ at *
              intro hf hc
              go_simp
              exact ⟨Below.refl _ _, rfl⟩
            · intro act wx h
              obtain ⟨v19, e19, f19⟩ := h.val 0 19 (by kernel_rfl)
              obtain rfl : v19 = .agg #[.int .i32 f, .int .i32 t, .int .i64 m] := f19
              have hbel := h.below
              clear h
              refine gives_by rfl act.eval rfl ?_
              generalize act.eval = ρ at *
              intro hf hc
              go_simp
              exact call_gives (HTO.out wx) (fun _ => rfl)
            · intro act wx h
              have e6 : act.eval (.tmp 6) = .pointer (some ⟨b6, 0, none⟩) := h.old 6 (by kernel_rfl)
              have hbel := h.below
              clear h
              have z0 := H6.out wx hbel
              obtain ⟨x0, x1, x2⟩ := z0
              refine gives_by rfl act.eval rfl ?_
              generalize act.eval = ρ at *
              intro hf hc
              go_simp
              exact ⟨Below.refl _ _, rfl⟩
            · intro act wx h
              obtain ⟨v21, e21, f21⟩ := h.val 2 21 (by kernel_rfl)
              obtain rfl : v21 = .agg #[.int .i32 f2, .int .i32 t2, .int .i64 m2] := f21
              have hbel := h.below
              clear h
              refine gives_by rfl act.eval rfl ?_
              generalize act.eval = ρ at *
              intro hf hc
              go_simp
              exact call_gives (HFR.out wx) (fun _ => rfl)
            · intro act wx h
              obtain ⟨v20, e20, f20⟩ := h.val 1 20 (by kernel_rfl)
              obtain rfl : v20 = .agg #[.int .i64 t, .int .i64 (t + m - 1)] := f20
              obtain ⟨v22, e22, f22⟩ := h.val 3 22 (by kernel_rfl)
              obtain rfl : v22 = .agg #[.int .i64 f2, .int .i64 (f2 + m2 - 1)] := f22
              have hbel := h.below
              clear h
              refine gives_by rfl act.eval rfl ?_
              generalize act.eval = ρ at *
              intro hf hc
              go_simp
              exact call_gives (HME.out wx) (fun _ => rfl)
          · intro vals w8 hb8 hv
            have hv23 : vals 4 = .bool M := hv 4 23 (by kernel_rfl)
            clear hv
            generalize hact : putAll _ vals 0 _ = act
            have HB8 := hide hb8
            clear hb8
            subst hact
            simp only [putAll, Act.put, List.setIfInBounds_toArray, List.set_cons_zero, List.set_cons_succ, hv23, Nat.zero_add, Nat.reduceAdd]
            clear hv23
            cases M with
            | true =>
              have HR : Hid (twiceB xs = true) := by
                rw [← HS.out, HD.out]
                exact any_yes (p := fun x => twoB x xs) (x := (f, t, m)) (by show twoB (f, t, m) xs = true; rw [← HS2.out, HD2.out]; exact any_yes HMV.out)
              go_wp2
              go_ret
              exact ⟨ret_bool HR.out.symm, HB3.out.trans (HB8.out.mono HB3.out.size)⟩
            | false =>
              have HR : Hid ((xs.drop (q + 1)).any (meetB (f, t, m)) = twoB (f, t, m) xs) := by rw [← HS2.out, HD2.out]; exact (any_no HMV.out).symm
              go_wp2
              go_roundg G2
              case measure => omega
              case rel => exact ⟨q + 1, by omega, by go_num, HR.out, HB3.out.trans (HB8.out.mono HB3.out.size), H4.out _ HB8.out⟩

end Go.Proofs.YtimmfnjkknbofaaDoor
