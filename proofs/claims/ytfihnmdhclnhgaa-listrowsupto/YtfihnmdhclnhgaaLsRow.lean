/- Contract: package list's inRow: where one word stands as far behind another. -/
import Derived.Test.YtfihnmdhclnhgaaLsAnd
import Derived.Test.YtfihnmdhclnhgaaLsRng
import Derived.Test.YtfihnmdhclnhgaaLsMeetI
import Derived.Test.YtfihnmdhclnhgaaLsMeetP
import Derived.Laws.EntriesVeiled
namespace Go.Proofs.Ytfihnmdhclnhgaa
set_option maxRecDepth 20000
open Go.RowKit Go.Shelf
set_option linter.unusedVariables false
set_option linter.unusedSimpArgs false
set_option maxRecDepth 100000
attribute [local go_sem] Oper.semAt_some

def ordP (x y : PE) : Int := cmpI (x.2.doc : Int) (y.2.doc : Int)
def ordI (off x y : Int) : Int := cmpI (x + off) y
/-- the positions from which on the second word has one, so far on -/
def fitL (off : Int) (p q : PE) : List Int := (meetL (ordI off) p.2.pos q.2.pos).map Prod.fst
def fitO (off : Int) (x : PE × PE) : Option Po := if fitL off x.1 x.2 = [] then none else some ⟨x.1.2.doc, fitL off x.1 x.2⟩
def rowL (off : Int) (xs ys : List PE) : List Po := (meetL ordP xs ys).filterMap (fitO off)
theorem PqIn.sl {w : World} {xs : List PE} (h : PqIn w xs) : SlE xs := fun x hx => by
  obtain ⟨ao, cap, e, _⟩ := (h x hx).2.shape
  exact ⟨ao, _, cap, e⟩
theorem meet_mem {α β : Type} (o : α → β → Int) : ∀ (a : List α) (b : List β), ∀ x ∈ meetL o a b, x.1 ∈ a ∧ x.2 ∈ b
  | [], _, x, h => by cases h
  | y :: a, b, x, h => by
    rw [meetL] at h
    have hd : ∀ z ∈ b.dropWhile (fun z => decide (0 < o y z)), z ∈ b := fun z hz => (List.dropWhile_suffix _).mem hz
    split at h
    · cases h
    · rename_i z b' heq
      rw [heq] at hd
      split at h
      · rcases List.mem_cons.1 h with rfl | h
        · exact ⟨List.mem_cons_self .., hd _ (List.mem_cons_self ..)⟩
        · have := meet_mem o a _ x h
          exact ⟨List.mem_cons_of_mem _ this.1, hd _ this.2⟩
      · have := meet_mem o a _ x h
        exact ⟨List.mem_cons_of_mem _ this.1, hd _ this.2⟩

abbrev ordV (B : Nat) : Value := .func (.func 80) #[] #[.pointer (some ⟨B, 0, none⟩)]
abbrev docV : Value := .func (.func 53) #[] #[]
/-- what it keeps between two postings -/
structure RwI (w : World) (off : Int) (vr vw : Value) (L : List (PE × PE)) (Y : Nat → Prop) (k : Nat) (W : World) : Prop where
  b0 : Blk W w.heap.size 3 [.int .i64 off]
  b1 : Blk W (w.heap.size + 1) 104 [ordV w.heap.size]
  b2 : ∃ v zs, Blk W (w.heap.size + 2) 47 [v] ∧ PpO W w.heap.size v zs ∧ zs.map (·.2) = (L.take k).filterMap (fitO off) ∧ (∀ j, v.ownBlock = some j → w.heap.size + 8 ≤ j ∧ ¬ Y j) ∧ (∀ z ∈ zs, ∀ j, z.1.ownBlock = some j → w.heap.size + 8 ≤ j ∧ ¬ Y j) ∧ zs.length ≤ k
  b3 : Blk W (w.heap.size + 3) 47 [vr]
  b4 : Blk W (w.heap.size + 4) 47 [vw]
  b5 : Blk W (w.heap.size + 5) 78 [docV]
  below : Below w.heap.size w W
  size : w.heap.size + 8 ≤ W.heap.size
  ys : ∀ j, Y j → w.heap.size + 8 ≤ j ∧ j < W.heap.size
section
variable {w : World} {off : Int} {vr vw : Value} {L : List (PE × PE)} {Y : Nat → Prop} {k : Nat} {W W' : World}
theorem RwI.only {S : Nat → Prop} {Y' : Nat → Prop} (h : RwI w off vr vw L Y k W) (ho : Only S W W') (hS : ∀ j, S j → w.heap.size + 6 ≤ j) (hn : ∀ v zs, PpO W w.heap.size v zs → (∀ j, v.ownBlock = some j → w.heap.size + 8 ≤ j ∧ ¬ Y j) → (∀ z ∈ zs, ∀ j, z.1.ownBlock = some j → w.heap.size + 8 ≤ j ∧ ¬ Y j) → (∀ j, v.ownBlock = some j → ¬ S j ∧ ¬ Y' j) ∧ (∀ z ∈ zs, ∀ j, z.1.ownBlock = some j → ¬ S j ∧ ¬ Y' j)) (hY : ∀ j, Y' j → w.heap.size + 8 ≤ j ∧ j < W'.heap.size) : RwI w off vr vw L Y' k W' := by
  obtain ⟨v, zs, h1, h2, h3, h4, h5, h6⟩ := h.b2
  obtain ⟨n1, n2⟩ := hn v zs h2 h4 h5
  have hb : Below w.heap.size W W' := ho.below (by have := h.size; omega) (fun j hj e => by have := hS j e; omega)
  exact ⟨h.b0.only ho (fun e => by have := hS _ e; omega), h.b1.only ho (fun e => by have := hS _ e; omega), ⟨v, zs, h1.only ho (fun e => by have := hS _ e; omega), h2.only ho (fun j hj => (n1 j hj).1) (fun z hz j hj => (n2 z hz j hj).1), h3, fun j hj => ⟨(h4 j hj).1, (n1 j hj).2⟩, fun z hz j hj => ⟨(h5 z hz j hj).1, (n2 z hz j hj).2⟩, h6⟩,
    h.b3.only ho (fun e => by have := hS _ e; omega), h.b4.only ho (fun e => by have := hS _ e; omega), h.b5.only ho (fun e => by have := hS _ e; omega), h.below.trans hb, Nat.le_trans h.size ho.size, hY⟩
theorem RwI.keep (h : RwI w off vr vw L Y k W) (ho : Only (fun j => j = w.heap.size + 6 ∨ j = w.heap.size + 6 + 1) W W') : RwI w off vr vw L Y k W' :=
  h.only ho (fun j e => by omega) (fun v zs _ h1 h2 => ⟨fun j hj => ⟨fun e => by have := (h1 j hj).1; omega, (h1 j hj).2⟩, fun z hz j hj => ⟨fun e => by have := (h2 z hz j hj).1; omega, (h2 z hz j hj).2⟩⟩) (fun j hj => ⟨(h.ys j hj).1, Nat.lt_of_lt_of_le (h.ys j hj).2 ho.size⟩)
theorem RwI.fresh (h : RwI w off vr vw L Y k W) (hb : Below W.heap.size W W') : RwI w off vr vw L Y k W' :=
  h.only (Only.of_below (fun _ => False) hb) (fun j e => e.elim) (fun v zs _ h1 h2 => ⟨fun j hj => ⟨fun e => e, (h1 j hj).2⟩, fun z hz j hj => ⟨fun e => e, (h2 z hz j hj).2⟩⟩) (fun j hj => ⟨(h.ys j hj).1, Nat.lt_of_lt_of_le (h.ys j hj).2 hb.size⟩)
theorem RwI.grow (h : RwI w off vr vw L Y k W) (ho : Only Y W W') : RwI w off vr vw L (more Y W W') k W' := by
  have hs := h.size
  refine h.only ho (fun j e => by have := (h.ys j e).1; omega) (fun v zs hp h1 h2 => ⟨fun j hj => ⟨(h1 j hj).2, fun e => e.elim (h1 j hj).2 (fun e => by have := (hp.lt j hj).2; omega)⟩, fun z hz j hj => ⟨(h2 z hz j hj).2, fun e => e.elim (h2 z hz j hj).2 (fun e => by have := ((hp.each z hz).2.lt j hj).2; omega)⟩⟩) (fun j hj => ?_)
  rcases hj with hj | hj
  · exact ⟨(h.ys j hj).1, Nat.lt_of_lt_of_le (h.ys j hj).2 ho.size⟩
  · exact ⟨by omega, hj.2⟩
end

/-- what it keeps while it goes over the places of one posting -/
structure FtI (F : Nat) (W2 : World) (pd : Int) (pv qv ov : Value) (ms : List Int) (Y : Nat → Prop) (k : Nat) (X : World) : Prop where
  fit : ∃ u, Blk X F 63 [.int .u32 pd, u] ∧ Ints X F u (ms.take k) ∧ ∀ j, u.ownBlock = some j → F + 5 ≤ j ∧ ¬ Y j
  b1 : Blk X (F + 1) 44 [pv]
  b2 : Blk X (F + 2) 44 [qv]
  b3 : Blk X (F + 3) 104 [ov]
  below : Below F W2 X
  size : F + 5 ≤ X.heap.size
  ys : ∀ j, Y j → F + 5 ≤ j ∧ j < X.heap.size
section
variable {F : Nat} {W2 : World} {pd : Int} {pv qv ov : Value} {ms : List Int} {Y : Nat → Prop} {k : Nat} {X X' : World}
theorem FtI.keep (h : FtI F W2 pd pv qv ov ms Y k X) (ho : Only (fun j => j = F + 4) X X') : FtI F W2 pd pv qv ov ms Y k X' := by
  obtain ⟨u, h1, h2, h3⟩ := h.fit
  exact ⟨⟨u, h1.only ho (by omega), h2.only ho (fun j hj e => by have := (h3 j hj).1; omega), h3⟩, h.b1.only ho (by omega), h.b2.only ho (by omega), h.b3.only ho (by omega), h.below.trans (ho.below (by have := h.size; omega) (fun j hj e => by omega)), Nat.le_trans h.size ho.size, fun j hj => ⟨(h.ys j hj).1, Nat.lt_of_lt_of_le (h.ys j hj).2 ho.size⟩⟩
theorem FtI.grow (h : FtI F W2 pd pv qv ov ms Y k X) (ho : Only Y X X') : FtI F W2 pd pv qv ov ms (more Y X X') k X' := by
  obtain ⟨u, h1, h2, h3⟩ := h.fit
  have hy := h.ys
  have hs := h.size
  refine ⟨⟨u, h1.only ho (fun e => by have := (hy _ e).1; omega), h2.only ho (fun j hj e => (h3 j hj).2 e), fun j hj => ⟨(h3 j hj).1, fun e => e.elim (h3 j hj).2 (fun e => by have := (h2.lt j hj).2; omega)⟩⟩, h.b1.only ho (fun e => by have := (hy _ e).1; omega), h.b2.only ho (fun e => by have := (hy _ e).1; omega), h.b3.only ho (fun e => by have := (hy _ e).1; omega), h.below.trans (ho.below (by omega) (fun j hj e => by have := (hy _ e).1; omega)), Nat.le_trans hs ho.size, fun j hj => ?_⟩
  rcases hj with hj | hj
  · exact ⟨(hy j hj).1, Nat.lt_of_lt_of_le (hy j hj).2 ho.size⟩
  · exact ⟨by omega, hj.2⟩
end

set_option maxHeartbeats 4000000 in
theorem inRow_any (w : World) (vr vw : Value) (xs ys : List PE) (off : Int) (hr : Pq w vr xs) (hri : PqIn w xs) (hw : Pq w vw ys) (hwi : PqIn w ys) (hlx : xs.length ≤ 100000) (hly : ys.length ≤ 100000)
    (hpx : ∀ x ∈ xs, x.2.pos.length ≤ 100000 ∧ ∀ z ∈ x.2.pos, -4611686018427387904 ≤ z ∧ z ≤ 4611686018427387904) (hpy : ∀ y ∈ ys, y.2.pos.length ≤ 100000) (hof : -4611686018427387904 < off ∧ off < 4611686018427387904) :
    Calls Try.prog 60 #[vr, vw, .int .i64 off] w fun e w' => ∃ u zs, e = .returned u ∧ PpO w' w.heap.size u zs ∧ zs.map (·.2) = rowL off xs ys ∧ Below w.heap.size w w' := by
  obtain ⟨ra, rc, rfl, _, _⟩ := hr.shape
  obtain ⟨wa, wc, rfl, _, _⟩ := hw.shape
  have hsx := hri.sl
  have hsy := hwi.sl
  obtain ⟨L, hL⟩ : ∃ L, meetL ordP xs ys = L := ⟨_, rfl⟩
  have HLM := hide hL
  have HLI : Hid (∀ x ∈ L, (x.1.2.pos.length ≤ 100000 ∧ (∀ z ∈ x.1.2.pos, -4611686018427387904 ≤ z ∧ z ≤ 4611686018427387904) ∧ Is w x.1.1 x.1.2.pos ∧ x.1.2.doc < 4294967296) ∧ x.2.2.pos.length ≤ 100000 ∧ Is w x.2.1 x.2.2.pos) := fun x hx => by
    obtain ⟨m1, m2⟩ := meet_mem ordP xs ys x (by rw [hL]; exact hx)
    exact ⟨⟨(hpx _ m1).1, (hpx _ m1).2, (hri _ m1).2, (hri _ m1).1⟩, hpy _ m2, (hwi _ m2).2⟩
  have HLL : Hid (L.length ≤ 100000) := by rw [← hL]; exact Nat.le_trans (meet_len _ _ _) hlx
  have hrow : rowL off xs ys = L.filterMap (fitO off) := by unfold rowL; rw [hL]
  rw [hrow]
  have HR : Hid (∀ W, Below w.heap.size w W → Pq W (.slice ra xs.length rc) xs ∧ Pq W (.slice wa ys.length wc) ys) := fun W hb => ⟨hr.below hb, hw.below hb⟩
  clear hr hri hw hwi hpx hpy hrow hL
  obtain ⟨w1, hw1⟩ : ∃ w1, ((w.alloc (.cells #[.int .i64 off] 3)).alloc (.cells #[ordV w.heap.size] 104)).alloc (.cells #[.slice none 0 0] 47) = w1 := ⟨_, rfl⟩
  have hs1 : w1.heap.size = w.heap.size + 3 := by rw [← hw1]; simp
  have hb1 : Below w.heap.size w w1 := by rw [← hw1]; exact (((Below.refl _ w).alloc (Nat.le_refl _) _).alloc (by simp) _).alloc (by simp; omega) _
  obtain ⟨w2, hw2⟩ : ∃ w2, ((w1.alloc (.cells #[.slice ra xs.length rc] 47)).alloc (.cells #[.slice wa ys.length wc] 47)).alloc (.cells #[docV] 78) = w2 := ⟨_, rfl⟩
  have hs2 : w2.heap.size = w.heap.size + 6 := by rw [← hw2]; simp [hs1]
  have hb2 : Below w.heap.size w w2 := by rw [← hw2]; exact ((hb1.alloc (by omega) _).alloc (by simp; omega) _).alloc (by simp; omega) _
  have hb12 : Below w1.heap.size w1 w2 := by rw [← hw2]; exact (((Below.refl _ w1).alloc (Nat.le_refl _) _).alloc (by simp) _).alloc (by simp; omega) _
  have k0 : Blk w1 w.heap.size 3 [.int .i64 off] := by rw [← hw1]; exact ((Blk.new w _ _).alloc _).alloc _
  have k1 : Blk w1 (w.heap.size + 1) 104 [ordV w.heap.size] := by
    rw [← hw1]
    have := Blk.new (w.alloc (.cells #[.int .i64 off] 3)) 104 [ordV w.heap.size]
    rw [World.size_alloc] at this
    exact this.alloc _
  have k2 : Blk w1 (w.heap.size + 2) 47 [.slice none 0 0] := by
    rw [← hw1]
    have := Blk.new ((w.alloc (.cells #[.int .i64 off] 3)).alloc (.cells #[ordV w.heap.size] 104)) 47 [.slice none 0 0]
    rw [World.size_alloc, World.size_alloc] at this
    exact this
  have k3 : Blk w2 (w.heap.size + 3) 47 [.slice ra xs.length rc] := by rw [← hw2, ← hs1]; exact ((Blk.new w1 _ _).alloc _).alloc _
  have k4 : Blk w2 (w.heap.size + 4) 47 [.slice wa ys.length wc] := by
    rw [← hw2]
    have := Blk.new (w1.alloc (.cells #[.slice ra xs.length rc] 47)) 47 [.slice wa ys.length wc]
    rw [World.size_alloc, hs1] at this
    exact this.alloc _
  have k5 : Blk w2 (w.heap.size + 5) 78 [docV] := by
    rw [← hw2]
    have := Blk.new ((w1.alloc (.cells #[.slice ra xs.length rc] 47)).alloc (.cells #[.slice wa ys.length wc] 47)) 78 [docV]
    rw [World.size_alloc, World.size_alloc, hs1] at this
    exact this
  have HI0 : Hid (∀ W, Only (fun _ => False) w2 W → W.heap.size = w.heap.size + 8 → RwI w off (.slice ra xs.length rc) (.slice wa ys.length wc) L (fun _ => False) 0 W) := fun W ho hsz => by
    have o2 : Only (fun _ => False) w1 w2 := Only.of_below _ hb12
    exact ⟨(k0.only o2 (fun h => h)).only ho (fun h => h), (k1.only o2 (fun h => h)).only ho (fun h => h), ⟨_, [], (k2.only o2 (fun h => h)).only ho (fun h => h), PpO.nil _ _, by simp, (fun j hj => by cases hj), (fun z hz => by cases hz), Nat.le_refl _⟩, k3.only ho (fun h => h), k4.only ho (fun h => h), k5.only ho (fun h => h), hb2.trans (ho.below hb2.size (fun _ _ h => h)), by omega, fun _ h => h.elim⟩
  have HML := hide (meetingsP_any w1 ra wa xs.length ys.length rc wc docV ⟨_, _, rfl⟩)
  rw [hw2, hs1] at HML
  have HSZ : Hid (w1.heap.size = w.heap.size + 3 ∧ w2.heap.size = w.heap.size + 6) := ⟨hs1, hs2⟩
  clear hb1 hb2 hb12 k0 k1 k2 k3 k4 k5 hs1 hs2 hw2
  refine (callsIn_wide (n := 3)).1 ?_
  refine callsIn_of_wp_marks Try.func60 rfl trivial ?_ rfl
  simp only [Try.ntmps60, List.size_toArray, List.length_cons, List.length_nil, Nat.reduceAdd, Nat.reduceSub, Array.replicate_succ, Array.replicate_zero, List.push_toArray, List.append_toArray, List.nil_append, List.cons_append]
  gi_wp2_with (first
    | (refine ⟨trivial, ?_⟩; gi_at_call 82; refine (callsIn_wide.2 HML.out).mono ?_; rintro e w3 ⟨rfl, hw⟩; subst w3; clear HML))
  clear hw1
  obtain ⟨hs1, hs2⟩ := HSZ.out
  refine wp_range13 (gf := 108) (lb := #[.pointer (some ⟨w.heap.size + 4, 0, none⟩), .pointer (some ⟨w.heap.size + 3, 0, none⟩), .pointer (some ⟨w.heap.size + 5, 0, none⟩)]) (xs := L) (encs := enc2P) (V := MeetVP (w.heap.size + 3) (w.heap.size + 4) (w.heap.size + 5) (.slice ra xs.length rc) (.slice wa ys.length wc) xs ys) rfl enters_meetP (by rw [← HLM.out]; exact meetP_iter _ _ _ _ _ xs ys (by omega) (by omega) hsx hsy) (fun _ => rfl)
    (fun Y k W => RwI w off (.slice ra xs.length rc) (.slice wa ys.length wc) L Y k W) (fun _ _ _ _ => False) ?_ (fun Y k W W' h ho => h.grow ho) (fun _ _ _ _ _ h _ => h) (fun _ _ _ _ _ h _ => h) ?_ ?_
    (fun x n a' W => ∃ g, n ≤ g ∧ Blk W g 63 [.int .u32 (x.1.2.doc : Int), x.1.1] ∧ Blk W (g + 1) 63 [.int .u32 (x.2.2.doc : Int), x.2.1] ∧ a' = { tmps := #[.slice ra xs.length rc, .slice wa ys.length wc, .int .i64 off, undef, undef, .pointer (some ⟨w.heap.size, 0, none⟩), .slice none 0 0, .pointer (some ⟨w.heap.size + 1, 0, none⟩), .pointer (some ⟨w.heap.size + 1 + 1, 0, none⟩), .pointer (some ⟨g, 0, none⟩), .pointer (some ⟨g + 1, 0, none⟩), undef, undef, ordV w.heap.size, .slice ra xs.length rc, .slice wa ys.length wc, .func (.func 108) #[] #[.pointer (some ⟨w.heap.size + 3 + 1, 0, none⟩), .pointer (some ⟨w.heap.size + 3, 0, none⟩), .pointer (some ⟨w.heap.size + 3 + 2, 0, none⟩)], .agg #[.int .u32 (x.1.2.doc : Int), x.1.1], .agg #[.int .u32 (x.2.2.doc : Int), x.2.1], undef, undef, undef, undef, undef, undef, undef, undef, undef, undef, undef, undef, undef, undef, undef, undef, undef, undef, undef, undef, undef, undef, undef, undef, undef, undef], defers := [] })
    ?_ (fun Y k W W' h hb => h.fresh hb) (fun Y k W h j hj => (h.ys j hj).2) ?assign ?body ?done (fun _ _ _ _ _ h _ => h.elim)
  · intro Y k W W' h ho
    rw [hs2] at ho
    exact h.keep ho
  · rintro Y k W h
    obtain ⟨q1, q2⟩ := HR.out W h.below
    exact ⟨⟨h.b3.cell 0, h.b4.cell 0, h.b5.cell 0⟩, q1, q2⟩
  · intro W ho hs
    exact HI0.out W ho (by omega)
  · rintro x n a' W W' ⟨g, hg, g1, g2, rfl⟩ hn ho
    exact ⟨g, hg, g1.only ho (by omega), g2.only ho (by omega), rfl⟩
  case assign =>
    intro l k hk W K hK
    obtain ⟨x, hx⟩ : ∃ x, L[k] = x := ⟨_, rfl⟩
    obtain ⟨⟨_, _, i1, _⟩, _, i2⟩ := HLI.out x (by rw [← hx]; exact List.getElem_mem hk)
    rw [hx] at hK ⊢
    obtain ⟨⟨u1, d1, p1⟩, ⟨u2, d2, p2⟩⟩ := x
    simp only at i1 i2
    obtain ⟨a1, c1, rfl, _, _⟩ := i1.shape
    obtain ⟨a2, c2, rfl, _, _⟩ := i2.shape
    generalize p1.length = n1 at *
    generalize p2.length = n2 at *
    clear hx i1 i2
    simp only [enc2P]
    gi_wp2
    refine hK _ _ ⟨W.heap.size, Nat.le_refl _, (Blk.new W _ _).alloc _, ?_, rfl⟩ (((Below.refl _ W).alloc (Nat.le_refl _) _).alloc (by simp) _)
    have := Blk.new (W.alloc (.cells #[.int .u32 (d1 : Int), .slice a1 n1 c1] 63)) 63 [.int .u32 (d2 : Int), .slice a2 n2 c2]
    rwa [World.size_alloc] at this
  case body =>
    rintro l Y k hk n W _ ⟨rfl, hlr⟩ hYn hn2 hI ⟨g, hg, g1, g2, rfl⟩
    obtain ⟨x, hx⟩ : ∃ x, L[k] = x := ⟨_, rfl⟩
    obtain ⟨⟨hpl, hpr, i1, hpd⟩, hql, i2⟩ := HLI.out x (by rw [← hx]; exact List.getElem_mem hk)
    rw [hx] at g1 g2 ⊢
    have hxf : (L.take (k + 1)).filterMap (fitO off) = (L.take k).filterMap (fitO off) ++ (fitO off x).toList := by
      rw [take_snoc L k hk, List.filterMap_append, hx]
      congr 1
    have HKL : Hid (k < 100000) := Nat.lt_of_lt_of_le hk HLL.out
    obtain ⟨⟨u1, d1, p1⟩, ⟨u2, d2, p2⟩⟩ := x
    simp only at i1 i2 g1 g2 hpl hpr hql hpd ⊢
    obtain ⟨a1, c1, rfl, _, _⟩ := i1.shape
    obtain ⟨a2, c2, rfl, _, _⟩ := i2.shape
    obtain ⟨n1, hn1⟩ : ∃ n, p1.length = n := ⟨_, rfl⟩
    obtain ⟨m2, hm2⟩ : ∃ n, p2.length = n := ⟨_, rfl⟩
    obtain ⟨F, hF⟩ : ∃ F, W.heap.size = F := ⟨_, rfl⟩
    have hgF : w.heap.size + 8 ≤ g ∧ g + 1 < F := by have := g2.lt; omega
    have hFs : w.heap.size + 8 ≤ F := by omega
    obtain ⟨W1, hW1⟩ : ∃ W1, W.alloc (.cells #[.int .u32 (d1 : Int), .slice none 0 0] 63) = W1 := ⟨_, rfl⟩
    have hsW1 : W1.heap.size = F + 1 := by rw [← hW1]; simp [hF]
    have hbW1 : Below W.heap.size W W1 := by rw [← hW1]; exact (Below.refl _ W).alloc (Nat.le_refl _) _
    obtain ⟨W2, hW2⟩ : ∃ W2, ((W1.alloc (.cells #[.slice a1 n1 c1] 44)).alloc (.cells #[.slice a2 m2 c2] 44)).alloc (.cells #[ordV w.heap.size] 104) = W2 := ⟨_, rfl⟩
    have hsW2 : W2.heap.size = F + 4 := by rw [← hW2]; simp [hsW1]
    have hbW2 : Below W.heap.size W W2 := by rw [← hW2]; exact ((hbW1.alloc (by omega) _).alloc (by simp; omega) _).alloc (by simp; omega) _
    have q0 : Blk W2 F 63 [.int .u32 (d1 : Int), .slice none 0 0] := by rw [← hW2, ← hW1, ← hF]; exact (((Blk.new W _ _).alloc _).alloc _).alloc _
    have q1 : Blk W2 (F + 1) 44 [.slice a1 n1 c1] := by rw [← hW2, ← hsW1]; exact ((Blk.new W1 _ _).alloc _).alloc _
    have q2 : Blk W2 (F + 2) 44 [.slice a2 m2 c2] := by
      rw [← hW2]
      have := Blk.new (W1.alloc (.cells #[.slice a1 n1 c1] 44)) 44 [.slice a2 m2 c2]
      rw [World.size_alloc, hsW1] at this
      exact this.alloc _
    have q3 : Blk W2 (F + 3) 104 [ordV w.heap.size] := by
      rw [← hW2]
      have := Blk.new ((W1.alloc (.cells #[.slice a1 n1 c1] 44)).alloc (.cells #[.slice a2 m2 c2] 44)) 104 [ordV w.heap.size]
      rw [World.size_alloc, World.size_alloc, hsW1] at this
      exact this
    obtain ⟨g1c, g1d⟩ := box_po g1
    obtain ⟨g2c, g2d⟩ := box_po g2
    rw [hn1] at g1d
    rw [hm2] at g2d
    have e1 := cell_belowL hbW1 g1d
    have e2 := cell_belowL hbW1 g2d
    have e3 : W1.cell? ⟨w.heap.size + 1, 0, none⟩ = some (ordV w.heap.size) := cell_belowL hbW1 (hI.b1.cell 0)
    obtain ⟨MS, hMS⟩ : ∃ MS, meetL (ordI off) p1 p2 = MS := ⟨_, rfl⟩
    have HMS := hide hMS
    have HXG : Hid ((L.take (k + 1)).filterMap (fitO off) = (L.take k).filterMap (fitO off) ++ (if MS.map Prod.fst = [] then none else some (⟨d1, MS.map Prod.fst⟩ : Po)).toList) := hxf.trans (by
      show _ ++ (if (meetL (ordI off) p1 p2).map Prod.fst = [] then none else some (⟨d1, (meetL (ordI off) p1 p2).map Prod.fst⟩ : Po)).toList = _
      rw [hMS])
    have hMl : MS.length ≤ 100000 := by rw [← hMS]; exact Nat.le_trans (meet_len _ _ _) hpl
    have HMI := hide (meetingsI_any W1 a1 a2 n1 m2 c1 c2 (ordV w.heap.size) ⟨_, _, rfl⟩)
    rw [hW2, hsW1, ← hW1] at HMI
    rw [← hW1] at e1 e2 e3
    have HRW := hide hI
    have HF0 : Hid (∀ X, Only (fun _ => False) W2 X → X.heap.size = F + 5 → FtI F W2 d1 (.slice a1 n1 c1) (.slice a2 m2 c2) (ordV w.heap.size) (MS.map Prod.fst) (fun _ => False) 0 X) := fun X ho hsz =>
      ⟨⟨_, q0.only ho (fun h => h), Ints.nil _ _, (fun j hj => by cases hj)⟩, q1.only ho (fun h => h), q2.only ho (fun h => h), q3.only ho (fun h => h), ho.below (by omega) (fun _ _ h => h), by omega, fun _ h => h.elim⟩
    have HIS : Hid (∀ X, Below F W2 X → X.cell? ⟨w.heap.size, 0, none⟩ = some (.int .i64 off) ∧ Is X (.slice a1 n1 c1) p1 ∧ Is X (.slice a2 m2 c2) p2) := fun X hb => by
      have hbX : Below W.heap.size W X := hbW2.trans (hF ▸ hb)
      have hbw := hI.below.trans (hbX.mono (by omega))
      exact ⟨cell_belowL hbX (hI.b0.cell 0), hn1 ▸ i1.below hbw, hm2 ▸ i2.below hbw⟩
    have HBW2 := hide hbW2
    have hlr2 : ∃ r, W2.heap[w.heap.size + 7]? = some (.loop r) := by
      obtain ⟨r, hr⟩ := hlr
      rw [hs2] at hr
      exact ⟨r, (hbW2.block _ (by omega)).trans hr⟩
    obtain ⟨lr, hlr2⟩ := hlr2
    have HLR := hide hlr2
    have HGF := hide hgF
    have HPR := hide hpr
    have HSW2 := hide hsW2
    have HF := hide hF
    clear hW1 hW2 hx hxf i1 i2 g1 g2 hI hlr hlr2 q0 q1 q2 q3 hbW1 hbW2 hMS hsW1 g1d g2d g2c hsW2 hF hYn hn2 hpr hgF
    gi_wp2_with (first
      | (refine ⟨trivial, ?_⟩; gi_at_call 83; refine (calls_wideR HMI.out _ _).mono ?_; rintro e w4 ⟨rfl, hw⟩; subst w4; clear HMI))
    simp only [HF.out]
    refine wp_rangeN (l₀ := w2.heap.size + 1) (r₀ := lr) (by rw [hs2]; exact HLR.out) (gf := 110) (lb := #[.pointer (some ⟨F + 2, 0, none⟩), .pointer (some ⟨F + 1, 0, none⟩), .pointer (some ⟨F + 3, 0, none⟩)]) (xs := MS) (encs := enc2I) (V := MeetVI (F + 1) (F + 2) (F + 3) (.slice a1 n1 c1) (.slice a2 m2 c2) w.heap.size off p1 p2) rfl enters_meetI (by rw [← HMS.out]; exact meetI_iter _ _ _ _ _ _ off p1 p2 (by omega) (by omega) HPR.out hof) (fun _ => rfl)
      (fun Y2 k2 X => FtI F W2 d1 (.slice a1 n1 c1) (.slice a2 m2 c2) (ordV w.heap.size) (MS.map Prod.fst) Y2 k2 X) (fun _ _ _ _ => False) ?_ (fun Y k X X' h ho => h.grow ho) (fun _ _ _ _ _ h _ => h) (fun _ _ _ _ _ h _ => h) ?_ ?_
      (fun x => { tmps := #[.slice ra xs.length rc, .slice wa ys.length wc, .int .i64 off, undef, undef, .pointer (some ⟨w.heap.size, 0, none⟩), .slice none 0 0, .pointer (some ⟨w.heap.size + 1, 0, none⟩), .pointer (some ⟨w.heap.size + 1 + 1, 0, none⟩), .pointer (some ⟨g, 0, none⟩), .pointer (some ⟨g + 1, 0, none⟩), .pointer (some ⟨F, 0, none⟩), .int .i64 x.1, ordV w.heap.size, .slice ra xs.length rc, .slice wa ys.length wc, .func (.func 108) #[] #[.pointer (some ⟨w.heap.size + 3 + 1, 0, none⟩), .pointer (some ⟨w.heap.size + 3, 0, none⟩), .pointer (some ⟨w.heap.size + 3 + 2, 0, none⟩)], .agg #[.int .u32 (d1 : Int), .slice a1 n1 c1], .agg #[.int .u32 (d2 : Int), .slice a2 m2 c2], .pointer (some ⟨g, 0, none⟩), .int .u32 (d1 : Int), .agg #[.int .u32 (d1 : Int), .slice none 0 0], .pointer (some ⟨g, 1, none⟩), .slice a1 n1 c1, .pointer (some ⟨g + 1, 1, none⟩), .slice a2 m2 c2, ordV w.heap.size, .func (.func 110) #[] #[.pointer (some ⟨F + 1 + 1, 0, none⟩), .pointer (some ⟨F + 1, 0, none⟩), .pointer (some ⟨F + 1 + 2, 0, none⟩)], .int .i64 x.1, .int .i64 x.2, undef, undef, undef, undef, undef, undef, undef, undef, undef, undef, undef, undef, undef, undef, undef], defers := [] }) ?iassign ?ibody ?idone (fun _ _ _ _ _ h => h.elim)
    · intro Y2 k2 X X' h ho
      rw [HSW2.out] at ho
      exact h.keep ho
    · intro Y2 k2 X h
      obtain ⟨s1, s2, s3⟩ := HIS.out X h.below
      exact ⟨⟨h.b1.cell 0, h.b2.cell 0, h.b3.cell 0⟩, s2, s3, s1⟩
    · intro X ho hs
      exact HF0.out X ho (by have := HSW2.out; omega)
    case iassign =>
      intro l2 k2 hk2 X K hK
      simp only [enc2I]
      gi_wp2
      exact hK
    case ibody =>
      intro l2 Y2 k2 hk2 X h
      obtain ⟨x, hx⟩ : ∃ x, MS[k2] = x := ⟨_, rfl⟩
      rw [hx]
      have hxs : (MS.map Prod.fst).take (k2 + 1) = (MS.map Prod.fst).take k2 ++ [x.1] := by rw [take_snoc _ k2 (by simpa using hk2)]; simp [hx]
      have hle : ((MS.map Prod.fst).take k2).length = k2 := by simp; omega
      obtain ⟨x1, x2⟩ := x
      simp only at hxs ⊢
      have HXS := hide hxs
      obtain ⟨u, f1, f2, f3⟩ := h.fit
      have HH := hide h
      have fc := f1.cell 1
      obtain ⟨v2, w3, hr, hi2, hg2, hv2, ao2, cap2, rfl⟩ := run_append_int X F u _ f2 x1 (by rw [hle]; omega) (by have := h.size; omega)
      have hoA : Only (fun j => u.ownBlock = some j) X w3 := ((Only.refl _ X).alloc _).grown hg2 (fun j e _ => e)
      have hB3 : Blk w3 F 63 [.int .u32 (d1 : Int), u] := f1.only hoA (fun e => by have := (f3 _ e).1; omega)
      have cc3 : w3.cell? ⟨F, 1, none⟩ = some u := hB3.cell 1
      have ff3 := hB3.frozen 1
      obtain ⟨ao1, cap1, hv1⟩ := f2.shape
      have HB3 := hide hB3
      have HR := hide hr
      have HI2 := hide hi2
      have HV2 := hide hv2
      have HOA := hide hoA
      have H3 := hide f3
      have fc1 : X.cell? ⟨F, 1, none⟩ = some u := fc
      rw [hle] at hv1 HR HI2 HV2
      subst hv1
      clear hr hi2 hv2 hg2 hB3 f1 f2 f3 h hx hxs hle hoA fc
      gi_wp2_with (first
        | (gi_at_builtin; (with_reducible refine wpListIn_append_run _ rfl (.tmp 31) (.tmp 33) 44 rfl _ _ ?_ ?_ _ _ HR.out ?_); exact rfl; exact rfl; clear HR))
      have hoB : Only (· = F) w3 (w3.setCell ⟨F, 1, none⟩ (.slice ao2 (k2 + 1) cap2)) := (Only.refl (· = F) w3).setCell ⟨F, 1, none⟩ _ (fun _ => rfl)
      have hv3 : ∀ j, (Value.slice ao2 (k2 + 1) cap2).ownBlock = some j → F + 5 ≤ j ∧ ¬ Y2 j := fun j hj => by
        rcases HV2.out with e | e
        · exact H3.out j (e ▸ hj)
        · rw [e] at hj
          have := Option.some.inj hj
          exact ⟨by have := HH.out.size; omega, fun hy => by have := (HH.out.ys j hy).2; omega⟩
      have h5 := HH.out
      have hoA := HOA.out
      have nA : ∀ j, j ≤ F + 4 → ¬ (Value.slice ao1 k2 cap1).ownBlock = some j := fun j hj e => by have := (H3.out j e).1; omega
      rw [HSW2.out]
      refine ⟨(Keeps1.of_only hoA (nA _ (by omega))).trans (Keeps1.of_only hoB (by omega)), fun j hj => ?_, ⟨⟨_, HB3.out.set 1 _, ?_, hv3⟩, (h5.b1.only hoA (nA _ (by omega))).only hoB (by omega), (h5.b2.only hoA (nA _ (by omega))).only hoB (by omega), (h5.b3.only hoA (nA _ (by omega))).only hoB (by omega), ?_, ?_, ?_⟩⟩
      · have hjs := h5.ys j hj
        exact (hoB.block j (by have := hoA.size; omega) (by omega)).trans (hoA.block j hjs.2 (fun e => (H3.out j e).2 hj))
      · rw [HXS.out]
        exact HI2.out.only hoB (fun j hj e => by have := (hv3 j hj).1; omega)
      · exact (h5.below.trans (hoA.below (by have := h5.size; omega) (fun j hj e => by have := (H3.out j e).1; omega))).trans (hoB.below (by have := hoA.size; have := h5.size; omega) (fun j hj e => by omega))
      · have := hoA.size
        have := hoB.size
        have := h5.size
        omega
      · intro j hj
        have := hoA.size
        have := hoB.size
        have hjs := h5.ys j hj
        exact ⟨hjs.1, by omega⟩
    case idone =>
      intro Y2 X h
      obtain ⟨u, f1, f2, f3⟩ := h.fit
      rw [List.take_of_length_le (by simp)] at f2
      have hbX : Below W.heap.size W X := HBW2.out.trans (by rw [HF.out]; exact h.below)
      have hRX := HRW.out.fresh hbX
      have HRX := hide hRX
      have HBX := hide hbX
      have hml : (MS.map Prod.fst).length = MS.length := by simp
      obtain ⟨uo, uc, rfl⟩ := f2.shape
      rw [hml] at f1 f2 f3
      have fc1 : X.cell? ⟨F, 1, none⟩ = some (.slice uo MS.length uc) := f1.cell 1
      have fc0 : X.cell? ⟨F, 0, none⟩ = some (.int .u32 (d1 : Int)) := f1.cell 0
      have HYS := hide HRW.out.ys
      have HFS := hide h.size
      have F2 := hide f2
      have F3 := hide f3
      have hKP : ∀ W', Below W.heap.size W W' → Keeps2 (w.heap.size + 6) W W' ∧ KeepsY Y W W' := fun W' hb => ⟨Keeps2.of_only (Only.of_below (fun _ => False) hb) (fun h => h) (fun h => h), fun j hj => hb.block j (HYS.out j hj).2⟩
      have HKP := hide hKP
      by_cases hne : MS.length = 0
      · have hm0 : MS = [] := List.eq_nil_of_length_eq_zero hne
        have HFN : Hid ((L.take (k + 1)).filterMap (fitO off) = (L.take k).filterMap (fitO off)) := by
          show _ = _
          rw [HXG.out, hm0]
          simp
        rw [hne] at fc1
        clear hKP hbX hRX f1 f2 f3 h hne hm0
        gi_wp2
        rw [hs2]
        obtain ⟨k1, k2⟩ := HKP.out X HBX.out
        obtain ⟨b0, b1, ⟨v, zs, c1, c2, c3, c4, c5, c6⟩, b3, b4, b5, b6, b7, b8⟩ := HRX.out
        exact ⟨k1, k2, b0, b1, ⟨v, zs, c1, c2, by rw [HFN.out]; exact c3, c4, c5, Nat.le_succ_of_le c6⟩, b3, b4, b5, b6, b7, b8⟩
      · have hmp : (0 : Int) < (MS.length : Int) := by omega
        have hnn : MS.map Prod.fst ≠ [] := fun e => hne (by have := congrArg List.length e; simpa using this)
        have HFN : Hid ((L.take (k + 1)).filterMap (fitO off) = (L.take k).filterMap (fitO off) ++ [⟨d1, MS.map Prod.fst⟩]) := by
          show _ = _
          rw [HXG.out, if_neg hnn]
          rfl
        obtain ⟨v, zs, c1', c2', c3', c4', c5', c6'⟩ := hRX.b2
        have cv : X.cell? ⟨w.heap.size + 2, 0, none⟩ = some v := c1'.cell 0
        have hkl := HKL.out
        obtain ⟨v2, w3, hr, hp2, ho2, hv2, ao2, cap2, rfl⟩ := push_po X w.heap.size v zs c2' (.slice uo MS.length uc, ⟨d1, MS.map Prod.fst⟩) hpd (f2.base (Nat.zero_le _)) rfl (by omega) hRX.below.size
        have hBB : Blk w3 (w.heap.size + 2) 47 [v] := c1'.only ho2 (fun e => by have := (c4' _ e.1).1; omega)
        have cv3 : w3.cell? ⟨w.heap.size + 2, 0, none⟩ = some v := hBB.cell 0
        have cf3 := hBB.frozen 0
        have hzl : (zs ++ [((.slice uo MS.length uc, ⟨d1, MS.map Prod.fst⟩) : PE)]).length = zs.length + 1 := by simp
        obtain ⟨av, cvp, hvs⟩ := c2'.shape
        rw [hzl] at hr hp2 hv2
        subst hvs
        have HR := hide hr
        have HP2 := hide hp2
        have HO2 := hide ho2
        have HV2 := hide hv2
        have HBB := hide hBB
        have HC3 := hide c3'
        have HC4 := hide c4'
        have HC5 := hide c5'
        have HC6 := hide c6'
        have HPS := hide c2'
        obtain ⟨zn, hzn⟩ : ∃ n, zs.length = n := ⟨_, rfl⟩
        have HZN := hide hzn
        rw [hzn] at HR HP2 HV2 HBB HC4 HPS HO2 cv cv3
        clear hKP hbX hRX f1 f2 f3 h hne hr hp2 ho2 hv2 hBB c1' c2' c3' c4' c5' c6' hzl hzn hnn hkl
        gi_wp2_with (first
          | (gi_at_builtin; (with_reducible refine wpListIn_append_run _ rfl (.tmp 40) (.tmp 42) 47 rfl _ _ ?_ ?_ _ _ HR.out ?_); exact rfl; exact rfl; clear HR))
        rw [hs2]
        have hoA := HO2.out
        have hoB : Only (· = w.heap.size + 2) w3 (w3.setCell ⟨w.heap.size + 1 + 1, 0, none⟩ (.slice ao2 (zn + 1) cap2)) := only_set0 w3 (w.heap.size + 2) _
        have hrx := HRX.out
        have hszX := hrx.size
        have hFX : F + 5 ≤ X.heap.size := HFS.out
        have hWF : W.heap.size = F := HF.out
        have nA : ∀ j, j < w.heap.size + 8 → ¬ ((Value.slice av zn cvp).ownBlock = some j ∧ noInts X j) := fun j hj e => by have := (HC4.out j e.1).1; omega
        have hv3 : ∀ j, (Value.slice ao2 (zn + 1) cap2).ownBlock = some j → w.heap.size + 8 ≤ j ∧ ¬ Y j := fun j hj => by
          rcases HV2.out with e | ⟨q, e, hq⟩
          · exact HC4.out j (e ▸ hj)
          · rw [e] at hj
            have := Option.some.inj hj
            exact ⟨by omega, fun hy => by have := (HYS.out j hy).2; have := HBX.out.size; omega⟩
        obtain ⟨kp1, kp2⟩ := HKP.out X HBX.out
        refine ⟨(kp1.trans (Keeps2.of_only hoA (nA _ (by omega)) (nA _ (by omega)))).trans (Keeps2.of_only hoB (by omega) (by omega)), fun j hj => ?_, ?_⟩
        · have hjs := HYS.out j hj
          have hjX : j < X.heap.size := Nat.lt_of_lt_of_le hjs.2 HBX.out.size
          exact (hoB.block j (by have := hoA.size; omega) (by omega)).trans ((hoA.block j hjX (fun e => (HC4.out j e.1).2 hj)).trans (kp2 j hj))
        · have keepB : ∀ {b : Nat} {e : TypeId} {cs : List Value}, b < w.heap.size + 8 → b ≠ w.heap.size + 2 → Blk X b e cs → Blk (w3.setCell ⟨w.heap.size + 1 + 1, 0, none⟩ (.slice ao2 (zn + 1) cap2)) b e cs := fun hb hne h => (h.only hoA (nA _ hb)).only hoB hne
          refine ⟨keepB (by omega) (by omega) hrx.b0, keepB (by omega) (by omega) hrx.b1, ⟨_, _, HBB.out.set 0 _, HP2.out.only hoB (fun j hj e => by have := (hv3 j hj).1; omega) ?_, ?_, hv3, ?_, ?_⟩, keepB (by omega) (by omega) hrx.b3, keepB (by omega) (by omega) hrx.b4, keepB (by omega) (by omega) hrx.b5, ?_, ?_, ?_⟩
          · intro z hz j hj e
            rcases List.mem_append.1 hz with hz | hz
            · have := (HC5.out z hz j hj).1; omega
            · obtain rfl : z = _ := by simpa using hz
              have := (F3.out j hj).1; omega
          · rw [HFN.out, List.map_append, HC3.out]
            rfl
          · intro z hz j hj
            rcases List.mem_append.1 hz with hz | hz
            · exact HC5.out z hz j hj
            · obtain rfl : z = _ := by simpa using hz
              have h5 := (F3.out j hj).1
              exact ⟨by omega, fun hy => by have := (HYS.out j hy).2; omega⟩
          · simp
            have := HC6.out
            omega
          · exact (hrx.below.trans (hoA.below hrx.below.size (fun j hj e => by have := (HC4.out j e.1).1; omega))).trans (hoB.below (by have := hoA.size; omega) (fun j hj e => by omega))
          · have := hoA.size
            have := hoB.size
            omega
          · intro j hj
            have hjs := HYS.out j hj
            have := hoA.size
            have := hoB.size
            have := HBX.out.size
            exact ⟨hjs.1, by omega⟩
  case done =>
    intro Y W h hD
    obtain ⟨v, zs, c1, c2, c3, c4, c5, c6⟩ := h.b2
    rw [List.take_of_length_le (Nat.le_refl _)] at c3
    have cv : W.cell? ⟨w.heap.size + 2, 0, none⟩ = some v := c1.cell 0
    obtain ⟨av, cvp, hvs⟩ := c2.shape
    have C2 := hide c2
    have C3 := hide c3
    have C4 := hide c4
    have C5 := hide c5
    have HB := hide h.below
    have HD := hide hD
    obtain ⟨zn, hzn⟩ : ∃ n, zs.length = n := ⟨_, rfl⟩
    rw [hzn] at hvs
    subst hvs
    clear h hD c1 c2 c3 c4 c5 c6 hzn
    gi_wp2
    refine ⟨by simp, .inl ⟨_, _, rfl, run_takeDeferred HD.out, ?_⟩⟩
    have hoD : Only (· = w2.heap.size) W (W.putObj w2.heap.size (.deferred none)) := only_put1 W _ _ _ rfl
    exact ⟨_, results_tmp (t := 6) rfl _ _ _, _, zs, rfl, C2.out.only hoD (fun j hj e => by have := (C4.out j hj).1; omega) (fun z hz j hj e => by have := (C5.out z hz j hj).1; omega), C3.out, HB.out.trans (hoD.below HB.out.size (fun j hj e => by omega))⟩

end Go.Proofs.Ytfihnmdhclnhgaa
