/- Contracts: Changed; Flush. -/
import Derived.Test.YtoplhehcjgldeaaGreatJCUn
import Derived.Test.YtoplhehcjgldeaaGreatJCHold
namespace Go.Proofs.YtoplhehcjgldeaaGreat
open Go.RowKit Go.Shelf Go.Sort
set_option linter.unusedVariables false
set_option maxRecDepth 100000
attribute [local go_sem] Oper.semAt_some

def chgF (l : List Hd) (p : Int) : Bool := match findC l p with
  | some h => h.ch
  | none => false
theorem chgF_mem {l : List Hd} (hn : (l.map (·.p)).Nodup) {h : Hd} (hh : h ∈ l) : chgF l h.p = h.ch := by unfold chgF; rw [findC_mem hn hh]
/-- the pages that are changed, rising -/
def changedC (l : List Hd) : List Int := (srt (ordC l)).filter (chgF l)
theorem mem_ordC {l : List Hd} {p : Int} : p ∈ ordC l ↔ ∃ h ∈ l, (h.p : Int) = p := by simp [ordC]
theorem changedC_len (l : List Hd) : (changedC l).length ≤ l.length := by
  unfold changedC
  refine Nat.le_trans (List.length_filter_le _ _) ?_
  rw [List.length_mergeSort, ordC_len]
  exact Nat.le_refl _

def flushR : List Int → Ch → Dv → Int × Ch × Dv
  | [], c, d => (0, c, d)
  | p :: r, c, d => match findC c.l p with
    | none => (0, c, d)
    | some h => if (writeQ d h.p h.bs).1 = 0 then flushR r { c with l := updC c.l h.p (fun y => { y with ch := false }) } (writeQ d h.p h.bs).2 else ((writeQ d h.p h.bs).1, c, (writeQ d h.p h.bs).2)
def flushC (c : Ch) (d : Dv) : Int × Ch × Dv := flushR (changedC c.l) c d

section
variable (w0 w : World) (S X : Nat → Prop) (c b : Nat) (ch : Ch) (d : Dv)

theorem changed_any (h : Duos w0 S X w c b ch d) :
    Calls Tryz.prog 44 #[dp c] w fun e w' => ∃ v, e = .returned v ∧ Ints w' w.heap.size v (changedC ch.l) ∧ Below w.heap.size w w' := by
  obtain ⟨H, G, h1, h2, h3, h4, h5, h6, h7⟩ := h
  have HC : Hid (Calls Tryz.prog 77 #[.func (.func 81) #[] #[.pointer (some ⟨w.heap.size, 0, none⟩)]] (w.alloc (.cells #[dp c] 31)) fun e w' => ∃ v, e = .returned v ∧ Ints w' w.heap.size v (changedC ch.l) ∧ Below w.heap.size w w') := by
    have hb : Only (fun _ => False) w (w.alloc (.cells #[dp c] 31)) := (Only.refl _ w).alloc _
    have hB := Blk.new w 31 [dp c]
    refine (collect_any _ 81 #[.pointer (some ⟨w.heap.size, 0, none⟩)] (changedC ch.l) (UnV w.heap.size c b (ordC ch.l) (chgF ch.l)) enters_un (un_iter w.heap.size c b (ordC ch.l) (chgF ch.l)) (fun k W' ho => ⟨(hB.only ho (fun h => h)).cell 0, H, ch.size, ch.l, ch.hits, ch.misses, (h1.keep hb (fun _ _ h => h)).keep ho (fun _ _ h => h), fun p hp => mem_ordC.1 hp, fun y hy hm => ?_, fun y hy hf => ?_⟩) (by have := changedC_len ch.l; have := h7.few; have := h7.hi; omega)).mono ?_
    · have := (List.mem_filter.1 (List.mem_of_mem_drop hm)).2
      rwa [chgF_mem h7.nodup hy] at this
    · rwa [chgF_mem h7.nodup hy] at hf
    · rintro e w' ⟨v, rfl, hi, hb'⟩
      exact ⟨v, rfl, hi.base (by simp), after_alloc hb'⟩
  clear h1 h2 h3 h4 h5 h6 h7
  go_enter Tryz.func44, Tryz.ntmps44
  go_wp2_with (first
    | (go_at_call 66; refine (unwritten_any w _).mono ?_; rintro e w1 ⟨rfl, hw⟩; subst w1)
    | (go_at_call 77; refine HC.out.mono ?_; rintro e w2 ⟨v2, rfl, hi2, hb2⟩; have HI2 := hide hi2; have HB2 := hide hb2; clear HC hi2 hb2))
  go_ret
  exact ⟨_, rfl, HI2.out, HB2.out⟩

theorem duos_write (k : Nat) (hk : k < 900000) (h : Duos w0 S X w c b ch d) (hf : Few k ch d) (x : Hd) (hx : x ∈ ch.l) :
    Calls Tryz.prog 67 #[dp c, .int .i64 x.p] w fun e w' => e = .returned (.int .i64 (writeQ d x.p x.bs).1) ∧ Duos w0 S X w' c b (if (writeQ d x.p x.bs).1 = 0 then { ch with l := updC ch.l x.p (fun y => { y with ch := false }) } else ch) (writeQ d x.p x.bs).2 ∧ Turn w0 S X w w' := by
  obtain ⟨H, G, ⟨mb, vo, D, sl, h1⟩, h2, h3, h4, h5, h6, h7⟩ := h
  refine (write_at w c b H G ch.size (ordC ch.l) ch.l ch.hits ch.misses mb vo D sl d h1 h2 h3 x hx (h7.pages x hx).1 (by have := hf.ws; omega) (by have := hf.done; omega)).mono ?_
  rintro e w' ⟨rfl, k1, k2, ho⟩
  refine ⟨rfl, duos_step h3 h4 h5 h6 (H' := H) (G' := fun k => G k ∨ w.heap.size ≤ k) ?_ k2 ho (fun _ h => .inl h) (fun _ h => h) (fun k _ hh hg => ?_) ?_, turn_step h4 ho⟩
  · by_cases he : (writeQ d x.p x.bs).1 = 0
    · rw [if_pos he] at k1 ⊢
      show CachH _ c b H ch.size (ordC (updC _ _ _)) _ _ _
      rw [ordC_updC _ _ (fun y => { y with ch := false }) (fun _ => rfl)]
      exact ⟨mb, vo, D, sl, k1⟩
    · rw [if_neg he] at k1 ⊢
      exact ⟨mb, vo, D, sl, k1⟩
  · rcases hg with hg | hg
    · exact h3 k hh hg
    · have := (h4 k (.inl hh)).2.2; omega
  · rw [writeQ_st]
    split
    · exact ok_upd h7 x.p _ (fun _ => rfl) (fun y hy => (h7.pages y hy).2)
    · exact h7
end

/-- k pages having been written -/
structure Rem (xs : List Int) (f : Int → Bool) (ch : Ch) (d : Dv) (K k : Nat) (ch' : Ch) (d' : Dv) : Prop where
  fl : flushR xs ch d = flushR (xs.drop k) ch' d'
  ord : ordC ch'.l = ordC ch.l
  sz : ch'.size = ch.size
  yes : ∀ h ∈ ch'.l, (h.p : Int) ∈ xs.drop k → h.ch = true
  no : ∀ h ∈ ch'.l, f h.p = false → h.ch = false
  few : Few (K + k) ch' d'

theorem few_write {K : Nat} {ch ch' : Ch} {d : Dv} (h : Few K ch d) (p : Nat) (zs : List Int) (h1 : ch'.hits = ch.hits) (h2 : ch'.misses = ch.misses) (h3 : ∀ y ∈ ch'.l, y.pins ≤ K) : Few (K + 1) ch' (writeQ d p zs).2 := by
  have hw : (writeQ d p zs).2.ws.length ≤ d.ws.length + 1 ∧ (writeQ d p zs).2.done ≤ d.done + 1 := by
    unfold writeQ
    split
    · exact ⟨Nat.le_succ _, Nat.le_succ _⟩
    · unfold spendD
      split
      · exact ⟨by simp, Nat.le_succ _⟩
      · exact ⟨by simp, Nat.le_refl _⟩
      · exact ⟨by simp, Nat.le_refl _⟩
  exact ⟨by rw [h1]; exact Nat.le_succ_of_le h.hits, by rw [h2]; exact Nat.le_succ_of_le h.misses, fun y hy => Nat.le_succ_of_le (h3 y hy), by have := h.ws; omega, by have := h.done; omega⟩

theorem rem_step {xs : List Int} {f : Int → Bool} {ch : Ch} {d : Dv} {K k : Nat} {ch' : Ch} {d' : Dv} (h : Rem xs f ch d K k ch' d') (hnd : (ch'.l.map (·.p)).Nodup) (hk : k < xs.length) (hxn : xs.Nodup) {x : Hd} (hx : x ∈ ch'.l) (hp : (x.p : Int) = xs[k]) (he : (writeQ d' x.p x.bs).1 = 0) :
    Rem xs f ch d K (k + 1) { ch' with l := updC ch'.l x.p (fun y => { y with ch := false }) } (writeQ d' x.p x.bs).2 := by
  have hd : xs.drop k = (x.p : Int) :: xs.drop (k + 1) := by rw [List.drop_eq_getElem_cons hk, hp]
  have hf := findC_mem hnd hx
  have hm : ∀ y ∈ updC ch'.l x.p (fun y => { y with ch := false }), ∃ z ∈ ch'.l, y.p = z.p ∧ y.pins = z.pins ∧ y.ch = if z.p = x.p then false else z.ch := by
    intro y hy
    obtain ⟨z, hz, e⟩ := mem_updC hy
    refine ⟨z, hz, ?_⟩
    by_cases hzx : z.p = x.p
    · rw [if_pos hzx] at e ⊢
      subst e
      exact ⟨rfl, rfl, rfl⟩
    · rw [if_neg hzx] at e ⊢
      subst e
      exact ⟨rfl, rfl, rfl⟩
  refine ⟨?_, (ordC_updC ch'.l x.p (fun y => { y with ch := false }) (fun _ => rfl)).trans h.ord, h.sz, fun y hy hmem => ?_, fun y hy hff => ?_, few_write h.few x.p x.bs rfl rfl (fun y hy => ?_)⟩
  · rw [h.fl, hd, flushR, hf]
    simp only
    rw [if_pos he]
  · obtain ⟨z, hz, e1, e2, e3⟩ := hm y hy
    have hne : z.p ≠ x.p := fun e => by
      have hnn : (xs.drop k).Nodup := hxn.sublist (List.drop_sublist _ _)
      rw [hd, List.nodup_cons] at hnn
      exact hnn.1 (by rw [e1, e] at hmem; exact hmem)
    rw [e3, if_neg hne]
    exact h.yes z hz (by rw [hd]; exact List.mem_cons_of_mem _ (by rw [← e1]; exact hmem))
  · obtain ⟨z, hz, e1, e2, e3⟩ := hm y hy
    rw [e3]
    split
    · rfl
    · exact h.no z hz (by rw [← e1]; exact hff)
  · obtain ⟨z, hz, e1, e2, e3⟩ := hm y hy
    rw [e2]
    exact h.few.pins z hz
theorem rem_stop {xs : List Int} {f : Int → Bool} {ch : Ch} {d : Dv} {K k : Nat} {ch' : Ch} {d' : Dv} (h : Rem xs f ch d K k ch' d') (hnd : (ch'.l.map (·.p)).Nodup) (hk : k < xs.length) {x : Hd} (hx : x ∈ ch'.l) (hp : (x.p : Int) = xs[k]) (he : (writeQ d' x.p x.bs).1 ≠ 0) :
    flushR xs ch d = ((writeQ d' x.p x.bs).1, ch', (writeQ d' x.p x.bs).2) := by
  have hd : xs.drop k = (x.p : Int) :: xs.drop (k + 1) := by rw [List.drop_eq_getElem_cons hk, hp]
  rw [h.fl, hd, flushR, findC_mem hnd hx]
  simp only
  rw [if_neg he]
theorem srt_nodup {os : List Int} (h : os.Nodup) : (srt os).Nodup := ((List.mergeSort_perm os _).nodup_iff).2 h
theorem ordC_nodup {l : List Hd} (h : (l.map (·.p)).Nodup) : (ordC l).Nodup := List.pairwise_reverse.2 ((nodup_int h).imp (fun h => Ne.symm h))
theorem changedC_nodup {l : List Hd} (h : (l.map (·.p)).Nodup) : (changedC l).Nodup := (srt_nodup (ordC_nodup h)).sublist List.filter_sublist
theorem mem_changedC {l : List Hd} {p : Int} (h : p ∈ changedC l) : ∃ x ∈ l, (x.p : Int) = p := mem_ordC.1 (List.mem_mergeSort.1 (List.mem_filter.1 h).1)

end Go.Proofs.YtoplhehcjgldeaaGreat
/- Contract: Flush. -/
namespace Go.Proofs.YtoplhehcjgldeaaGreat
open Go.RowKit Go.Shelf Go.Sort
set_option linter.unusedVariables false
set_option maxRecDepth 100000
attribute [local go_sem] Oper.semAt_some

/-- between two rounds of Flush: w: where it began -/
structure FlI (w0 w : World) (S X : Nat → Prop) (c b : Nat) (ch : Ch) (d : Dv) (K : Nat) (e : Int) (Y : Nat → Prop) (W : World) (ch' : Ch) (d' : Dv) : Prop where
  duo : Duos w0 S (fun j => X j ∨ (w.heap.size ≤ j ∧ j < w.heap.size + 5) ∨ Y j) W c b ch' d'
  b1 : Blk W w.heap.size 31 [dp c]
  b2 : Blk W (w.heap.size + 1) 24 [.int .i64 e]
  b3 : Blk W (w.heap.size + 2) 31 [dp c]
  turn : Turn w0 S X w W
  ys : ∀ j, Y j → w.heap.size + 5 ≤ j

section
variable {w0 w : World} {S X : Nat → Prop} {c b : Nat} {ch : Ch} {d : Dv} {K : Nat} {e : Int} {Y : Nat → Prop} {W W' : World} {ch' : Ch} {d' : Dv}
theorem FlI.keep (h : FlI w0 w S X c b ch d K e Y W ch' d') (h0 : w0.heap.size ≤ w.heap.size) (hX : ∀ k, X k → k < w.heap.size) (ho : Only (fun j => j = w.heap.size + 3 ∨ j = w.heap.size + 3 + 1) W W') : FlI w0 w S X c b ch d K e Y W' ch' d' :=
  ⟨h.duo.keep ho (fun k hk => .inl (.inr (.inl (by omega)))) (fun k hk ht => by omega), h.b1.only ho (by omega), h.b2.only ho (by omega), h.b3.only ho (by omega),
    h.turn.trans (ho.mono (fun k _ hk => ⟨.inr (by omega), fun hx => by have := hX k hx; omega⟩)), h.ys⟩
theorem FlI.grow (h : FlI w0 w S X c b ch d K e Y W ch' d') (hs : w.heap.size + 5 ≤ W.heap.size) (hb : Below W.heap.size W W') : FlI w0 w S X c b ch d K e (more Y W W') W' ch' d' :=
  ⟨(h.duo.grow hb).less (fun k hk => by
    rcases hk with hk | hk | hk | hk
    · exact .inl (.inl hk)
    · exact .inl (.inr (.inl hk))
    · exact .inl (.inr (.inr hk))
    · exact .inr hk), h.b1.below hb h.b1.lt, h.b2.below hb h.b2.lt, h.b3.below hb h.b3.lt, h.turn.trans (Turn.of_below hb), fun j hj => hj.elim (h.ys j) (fun hj => by omega)⟩
end

set_option maxHeartbeats 2000000 in
theorem flush_any (w0 w : World) (S X : Nat → Prop) (c b : Nat) (ch : Ch) (d : Dv) (K : Nat) (hK : K < 800000) (h : Duos w0 S X w c b ch d) (hf : Few K ch d) :
    Calls Tryz.prog 30 #[dp c] w fun e w' => e = .returned (.int .i64 (flushC ch d).1) ∧ Duos w0 S X w' c b (flushC ch d).2.1 (flushC ch d).2.2 ∧ Turn w0 S X w w' := by
  have ok := h.ok
  have hX : ∀ k, X k → k < w.heap.size := by obtain ⟨_, _, _, _, _, _, h, _⟩ := h; exact h
  have h00 : w0.heap.size ≤ w.heap.size := h.only.size
  have hlen : (changedC ch.l).length ≤ 64 := by have := changedC_len ch.l; have := ok.few; have := ok.hi; omega
  have HFL : Hid (flushC ch d = flushR (changedC ch.l) ch d) := rfl
  have hcm : ∀ p ∈ changedC ch.l, ∃ x ∈ ch.l, (x.p : Int) = p := fun p hp => mem_changedC hp
  have hcn := changedC_nodup ok.nodup
  have hcf : ∀ y ∈ ch.l, (y.p : Int) ∈ changedC ch.l → y.ch = true := fun y hy hm => by
    have := (List.mem_filter.1 hm).2
    rwa [chgF_mem ok.nodup hy] at this
  have hcg : ∀ y ∈ ch.l, chgF ch.l y.p = false → y.ch = false := fun y hy hm => by rwa [chgF_mem ok.nodup hy] at hm
  have HIT := hide (un_iter (w.heap.size + 2) c b (ordC ch.l) (chgF ch.l))
  refine (callsIn_wide (n := 3)).1 ?_
  refine callsIn_of_wp_marks Tryz.func30 rfl trivial ?_ rfl
  simp only [Tryz.ntmps30, List.size_toArray, List.length_cons, List.length_nil, Nat.reduceAdd, Nat.reduceSub, Array.replicate_succ, Array.replicate_zero, List.push_toArray, List.append_toArray, List.nil_append, List.cons_append]
  have hb2 : Below w.heap.size w ((w.alloc (.cells #[dp c] 31)).alloc (.cells #[.int .i64 0] 24)) := ((Below.refl _ w).alloc (Nat.le_refl _) _).alloc (by simp) _
  have HMD : Hid (Calls Tryz.prog 53 #[dp c] ((w.alloc (.cells #[dp c] 31)).alloc (.cells #[.int .i64 0] 24)) fun e w' => e = .returned (.bool true) ∧ w' = ((w.alloc (.cells #[dp c] 31)).alloc (.cells #[.int .i64 0] 24))) := cmade_any _ c b (by obtain ⟨H, G, ⟨mb, vo, D, sl, h1⟩, _⟩ := h.below hb2; exact h1.blk.c0)
  have q0 : ((w.alloc (.cells #[dp c] 31)).alloc (.cells #[.int .i64 0] 24)).cell? ⟨w.heap.size, 0, none⟩ = some (dp c) := ((Blk.new w 31 [dp c]).alloc _).cell 0
  have HU := hide (unwritten_any ((w.alloc (.cells #[dp c] 31)).alloc (.cells #[.int .i64 0] 24)) (some ⟨c, 0, none⟩))
  gi_wp2_with (first
    | (refine ⟨trivial, ?_⟩; gi_at_call 53; refine (callsIn_wide.2 HMD.out).mono ?_; rintro e w1 ⟨rfl, hw⟩; subst w1; clear HMD)
    | (refine ⟨trivial, ?_⟩; gi_at_call 66; refine (callsIn_wide.2 HU.out).mono ?_; rintro e w1 ⟨rfl, hw⟩; subst w1; clear HU))
  obtain ⟨w3, hw3⟩ : ∃ w3, ((w.alloc (.cells #[dp c] 31)).alloc (.cells #[.int .i64 0] 24)).alloc (.cells #[dp c] 31) = w3 := ⟨_, rfl⟩
  have hs3 : w3.heap.size = w.heap.size + 3 := by rw [← hw3]; simp
  have hb3 : Below w.heap.size w w3 := by rw [← hw3]; exact hb2.alloc (by simp; omega) _
  have e1 : Blk w3 w.heap.size 31 [dp c] := by rw [← hw3]; exact ((Blk.new w _ _).alloc _).alloc _
  have e2 : Blk w3 (w.heap.size + 1) 24 [.int .i64 0] := by
    rw [← hw3]
    have := (Blk.new (w.alloc (.cells #[dp c] 31)) 24 [.int .i64 0]).alloc (.cells #[dp c] 31)
    rw [World.size_alloc] at this
    exact this
  have e3 : Blk w3 (w.heap.size + 2) 31 [dp c] := by
    rw [← hw3]
    have := Blk.new ((w.alloc (.cells #[dp c] 31)).alloc (.cells #[.int .i64 0] 24)) 31 [dp c]
    simp only [World.size_alloc] at this
    exact this
  rw [show w.heap.size + 1 + 1 = w.heap.size + 2 by omega, hw3]
  clear q0 hb2 hw3
  obtain ⟨xs, hxs⟩ : ∃ xs, changedC ch.l = xs := ⟨_, rfl⟩
  have hit : Iter Tryz.prog 81 #[.pointer (some ⟨w.heap.size + 2, 0, none⟩)] enc1 xs (UnV (w.heap.size + 2) c b (ordC ch.l) (chgF ch.l)) := by rw [← hxs]; exact HIT.out
  have HXS := hide hxs
  rw [hxs] at hcm hcn hcf hlen
  clear HIT hxs
  refine wp_range5 (gf := 81) (lb := #[.pointer (some ⟨w.heap.size + 2, 0, none⟩)]) (xs := xs) (encs := enc1) (V := UnV (w.heap.size + 2) c b (ordC ch.l) (chgF ch.l)) rfl enters_un hit (fun _ => rfl)
    (fun Y k W => ∃ ch' d', FlI w0 w S X c b ch d K 0 Y W ch' d' ∧ Rem xs (chgF ch.l) ch d K k ch' d' ∧ w.heap.size + 5 ≤ W.heap.size)
    (fun cc k W => cc = .ret ∧ ∃ e ch' d', FlI w0 w S X c b ch d K e (fun _ => False) W ch' d' ∧ flushR xs ch d = (e, ch', d') ∧ w.heap.size + 5 ≤ W.heap.size) ?_ ?_ ?_ ?_ ?_
    (fun x => { tmps := #[dp c, .pointer (some ⟨w.heap.size, 0, none⟩), .pointer (some ⟨w.heap.size + 1, 0, none⟩), .int .i64 x, undef, dp c, .bool true, .bool false, dp c, .func (.func 81) #[] #[.pointer (some ⟨w.heap.size + 2, 0, none⟩)], .int .i64 x, undef, undef, undef, undef, undef, undef], defers := [] }) ?assign ?body ?done ?stop
  · rintro Y k W W' ⟨ch', d', h1, h2, h3⟩ ho
    rw [hs3] at ho
    exact ⟨ch', d', h1.keep h00 hX ho, h2, Nat.le_trans h3 ho.size⟩
  · rintro Y k W W' ⟨ch', d', h1, h2, h3⟩ hb
    exact ⟨ch', d', h1.grow h3 hb, h2, Nat.le_trans h3 hb.size⟩
  · rintro cc k W W' ⟨rfl, e, ch', d', h1, h2, h3⟩ ho
    rw [hs3] at ho
    exact ⟨rfl, e, ch', d', h1.keep h00 hX ho, h2, Nat.le_trans h3 ho.size⟩
  · rintro Y k W ⟨ch', d', h1, h2, h3⟩
    obtain ⟨H, G, k1, k2, k3, k4, k5, k6, k7⟩ := h1.duo
    rw [h2.ord] at k1
    have e : (srt (ordC ch.l)).filter (chgF ch.l) = xs := HXS.out
    refine ⟨h1.b3.cell 0, H, _, ch'.l, _, _, k1, fun p hp => ?_, fun y hy hm => ?_, h2.no⟩
    · rw [← h2.ord] at hp
      exact mem_ordC.1 hp
    · rw [e] at hm
      exact h2.yes y hy hm
  · intro W1 ho hs
    refine ⟨ch, d, ⟨?_, e1.only ho (fun h => h), e2.only ho (fun h => h), e3.only ho (fun h => h), ?_, (fun _ h => h.elim)⟩, ⟨by simp, rfl, rfl, fun y hy hm => hcf y hy (by simpa using hm), hcg, by simpa using hf⟩, by omega⟩
    · have hb : Below w.heap.size w W1 := hb3.trans ((ho.below (Nat.le_refl _) (fun _ _ h => h)).mono (by omega))
      exact (h.grow hb).less (fun k hk => by
        rcases hk with hk | hk | hk
        · exact .inl hk
        · exact .inr (by omega)
        · exact hk.elim)
    · exact Turn.of_below (hb3.trans ((ho.below (Nat.le_refl _) (fun _ _ h => h)).mono (by omega)))
  case assign =>
    intro l k hk W Kk hK
    gi_wp2
    exact hK
  case body =>
    rintro l Y k hk W ⟨ch', d', h1, h2, h3⟩
    obtain ⟨x, hx⟩ : ∃ x, xs[k] = x := ⟨_, rfl⟩
    have ok' := h1.duo.ok
    obtain ⟨y, hy, hyp⟩ : ∃ y ∈ ch'.l, (y.p : Int) = x := by
      obtain ⟨z, hz, e⟩ := hcm x (hx ▸ List.getElem_mem hk)
      have : x ∈ ordC ch.l := mem_ordC.2 ⟨z, hz, e⟩
      rw [← h2.ord] at this
      exact mem_ordC.1 this
    have HW := hide (duos_write w0 W S _ c b ch' d' (K + k) (by omega) h1.duo h2.few y hy)
    rw [hyp] at HW
    have c1 : W.cell? ⟨w.heap.size, 0, none⟩ = some (dp c) := h1.b1.cell 0
    have HXB : Hid (∀ j, (X j ∨ (w.heap.size ≤ j ∧ j < w.heap.size + 5) ∨ Y j) → j < W.heap.size) := by obtain ⟨_, _, _, _, _, _, h, _⟩ := h1.duo; exact h
    have H1 := hide h1
    have H2 := hide h2
    have HY := hide hy
    have HYP : Hid ((y.p : Int) = xs[k]) := by show _ = _; rw [hx]; exact hyp
    have HOK := hide ok'
    rw [hx]
    obtain ⟨E, hE⟩ : ∃ E, (writeQ d' y.p y.bs).1 = E := ⟨_, rfl⟩
    have HEE := hide hE
    rw [hE] at HW
    have hcn' := hide hcn
    clear h1 h2 hy hx ok' hyp hE h hf hcm hcn hcf hcg hit
    have K2 : Hid (∀ (W' : World), Turn w0 S (fun j => X j ∨ (w.heap.size ≤ j ∧ j < w.heap.size + 5) ∨ Y j) W W' → Keeps2 (w.heap.size + 3) W W') := fun W' ht => Keeps2.of_only ht (fun h => h.2 (.inr (.inl (by omega)))) (fun h => h.2 (.inr (.inl (by omega))))
    by_cases hE0 : E = 0
    · subst hE0
      gi_wp2_with (first
        | (refine ⟨trivial, ?_⟩; gi_at_call 67; refine (CallsIn.inRound l (callsIn_wide.2 HW.out)).mono ?_; rintro e w4 ⟨rfl, hd4, ht4⟩; rw [if_pos rfl] at hd4; have HD4 := hide hd4; have HT4 := hide ht4; clear HW hd4 ht4))
      rw [hs3]
      have ht4 := HT4.out
      refine ⟨K2.out _ ht4, fun j hj => Only.block ht4 j (HXB.out j (.inr (.inr hj))) (fun h => h.2 (.inr (.inr hj))), _, _, ⟨HD4.out, H1.out.b1.only ht4 (fun h => h.2 (.inr (.inl (by omega)))), H1.out.b2.only ht4 (fun h => h.2 (.inr (.inl (by omega)))), H1.out.b3.only ht4 (fun h => h.2 (.inr (.inl (by omega)))), H1.out.turn.trans (Only.mono ht4 (fun k _ h => ⟨h.1, fun hx => h.2 (.inl hx)⟩)), H1.out.ys⟩, rem_step H2.out HOK.out.nodup hk hcn'.out HY.out HYP.out HEE.out, Nat.le_trans h3 ht4.size⟩
    · gi_wp2_with (first
        | (refine ⟨trivial, ?_⟩; gi_at_call 67; refine (CallsIn.inRound l (callsIn_wide.2 HW.out)).mono ?_; rintro e w4 ⟨rfl, hd4, ht4⟩; rw [if_neg hE0] at hd4; have hB4 := H1.out.b2.only ht4 (fun h => h.2 (.inr (.inl (by omega)))); have c4 : w4.cell? ⟨w.heap.size + 1, 0, none⟩ = some (.int .i64 0) := hB4.cell 0; have f4 := hB4.frozen 0; have HB4 := hide hB4; have HD4 := hide hd4; have HT4 := hide ht4; clear HW hd4 ht4 hB4))
      rw [hs3]
      have ht4 := HT4.out
      have ho5 : Only (· = w.heap.size + 1) w4 (w4.setCell ⟨w.heap.size + 1, 0, none⟩ (.int .i64 E)) := (Only.refl (· = w.heap.size + 1) w4).setCell ⟨w.heap.size + 1, 0, none⟩ _ (fun _ => rfl)
      have hd5 := HD4.out.keep ho5 (fun k e => .inl (.inr (.inl (by omega)))) (fun k hk e => by omega)
      refine ⟨(K2.out _ ht4).trans (Keeps2.of_only ho5 (by omega) (by omega)), rfl, E, _, _, ⟨hd5.less (fun k hk => ?_), (H1.out.b1.only ht4 (fun h => h.2 (.inr (.inl (by omega))))).only ho5 (by omega), HB4.out.set 0 _, (H1.out.b3.only ht4 (fun h => h.2 (.inr (.inl (by omega))))).only ho5 (by omega), (H1.out.turn.trans (Only.mono ht4 (fun k _ h => ⟨h.1, fun hx => h.2 (.inl hx)⟩))).trans (ho5.mono (fun k _ e => ⟨.inr (by omega), fun hx => by have := hX k hx; omega⟩)), (fun _ h => h.elim)⟩, ?_, ?_⟩
      · rcases hk with hk | hk | hk
        · exact .inl hk
        · exact .inr (.inl hk)
        · exact hk.elim
      · have := rem_stop H2.out HOK.out.nodup hk HY.out HYP.out (by rw [HEE.out]; exact hE0)
        rw [HEE.out] at this
        exact this
      · have h4 := ht4.size
        have h5 := ho5.size
        omega
  case done =>
    rintro Y W ⟨ch', d', h1, h2, h3⟩ hD
    have c4 : W.cell? ⟨w.heap.size + 1, 0, none⟩ = some (.int .i64 0) := h1.b2.cell 0
    have f4 := h1.b2.frozen 0
    have H1 := hide h1
    have H2 := hide h2
    have HD := hide hD
    clear h1 h2 hD h hf hcm hcn hcf hcg hit
    gi_wp2
    have ho5 : Only (· = w.heap.size + 1) W (W.setCell ⟨w.heap.size + 1, 0, none⟩ (.int .i64 0)) := (Only.refl (· = w.heap.size + 1) W).setCell ⟨w.heap.size + 1, 0, none⟩ _ (fun _ => rfl)
    have hD5 := (ho5.block w3.heap.size (by omega) (by omega)).trans HD.out
    refine ⟨by simp, .inl ⟨_, _, rfl, run_takeDeferred hD5, ?_⟩⟩
    have ho6 : Only (· = w3.heap.size) (W.setCell ⟨w.heap.size + 1, 0, none⟩ (.int .i64 0)) ((W.setCell ⟨w.heap.size + 1, 0, none⟩ (.int .i64 0)).putObj w3.heap.size (.deferred none)) := only_put1 _ _ _ _ rfl
    have hc5 : ((W.setCell ⟨w.heap.size + 1, 0, none⟩ (.int .i64 0)).putObj w3.heap.size (.deferred none)).cell? ⟨w.heap.size + 1, 0, none⟩ = some (.int .i64 0) := ((H1.out.b2.set 0 (.int .i64 0)).only ho6 (by omega)).cell 0
    have hfl : flushC ch d = (0, ch', d') := by
      rw [HFL.out, HXS.out, H2.out.fl, List.drop_of_length_le (Nat.le_refl _)]
      rfl
    rw [hfl]
    have hd5 := (H1.out.duo.keep ho5 (fun k e => .inl (.inr (.inl (by omega)))) (fun k hk e => by omega)).keep ho6 (fun k e => .inl (.inr (.inl (by omega)))) (fun k hk e => by omega)
    refine ⟨.int .i64 0, ?_, rfl, hd5.less (fun k hk => .inl hk), (H1.out.turn.trans (ho5.mono (fun k _ e => ⟨.inr (by omega), fun hx => by have := hX k hx; omega⟩))).trans (ho6.mono (fun k _ e => ⟨.inr (by omega), fun hx => by have := hX k hx; omega⟩))⟩
    simp [results, Tryz.f30, go_sem, hc5]
  case stop =>
    rintro cc k W hk ⟨rfl, e, ch', d', h1, h2, h3⟩ hD
    have H1 := hide h1
    have HD := hide hD
    clear h1 hD h hf hcm hcn hcf hcg hit
    gi_wp2
    refine ⟨by simp, .inl ⟨_, _, rfl, run_takeDeferred HD.out, ?_⟩⟩
    have ho6 : Only (· = w3.heap.size) W (W.putObj w3.heap.size (.deferred none)) := only_put1 _ _ _ _ rfl
    have hc5 : (W.putObj w3.heap.size (.deferred none)).cell? ⟨w.heap.size + 1, 0, none⟩ = some (.int .i64 e) := (H1.out.b2.only ho6 (by omega)).cell 0
    have hfl : flushC ch d = (e, ch', d') := by rw [HFL.out, HXS.out, h2]
    rw [hfl]
    refine ⟨.int .i64 e, ?_, rfl, (H1.out.duo.keep ho6 (fun k e => .inl (.inr (.inl (by omega)))) (fun k hk e => by omega)).less (fun k hk => .inl hk), H1.out.turn.trans (ho6.mono (fun k _ e => ⟨.inr (by omega), fun hx => by have := hX k hx; omega⟩))⟩
    simp [results, Tryz.f30, go_sem, hc5]

end Go.Proofs.YtoplhehcjgldeaaGreat
