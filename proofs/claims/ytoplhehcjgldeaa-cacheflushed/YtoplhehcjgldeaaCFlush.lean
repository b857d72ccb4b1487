/- Contracts: Changed; Flush. -/
import Derived.Test.YtoplhehcjgldeaaCUn
import Derived.Test.YtoplhehcjgldeaaCPin
namespace Go.Proofs.Ytoplhehcjgldeaa
open Go.RowKit Go.Shelf Go.Sort
set_option linter.unusedVariables false
set_option maxRecDepth 100000
attribute [local go_sem] Oper.semAt_some

def chgF (l : List Hd) (p : Int) : Bool := match findC l p with
  | some h => h.ch
  | none => false
theorem chgF_mem {l : List Hd} (hn : (l.map (·.p)).Nodup) {h : Hd} (hh : h ∈ l) : chgF l h.p = h.ch := by unfold chgF; rw [findC_mem hn hh]
/-- the pages that are changed, rising -/
def changedC (l : List Hd) : List Int := (srt (ordC l)).filter (chgF l)
theorem mem_ordC {l : List Hd} {p : Int} : p ∈ ordC l ↔ ∃ h ∈ l, (h.p : Int) = p := by simp [ordC]
theorem changedC_len (l : List Hd) : (changedC l).length ≤ l.length := by
  unfold changedC
  refine Nat.le_trans (List.length_filter_le _ _) ?_
  rw [List.length_mergeSort, ordC_len]
  exact Nat.le_refl _

def flushR : List Int → Ch → Dv → Int × Ch × Dv
  | [], c, d => (0, c, d)
  | p :: r, c, d => match findC c.l p with
    | none => (0, c, d)
    | some h => if (writeQ d h.p h.bs).1 = 0 then flushR r { c with l := updC c.l h.p (fun y => { y with ch := false }) } (writeQ d h.p h.bs).2 else ((writeQ d h.p h.bs).1, c, (writeQ d h.p h.bs).2)
def flushC (c : Ch) (d : Dv) : Int × Ch × Dv := flushR (changedC c.l) c d

section
variable (w0 w : World) (S X : Nat → Prop) (c b : Nat) (ch : Ch) (d : Dv)

theorem changed_any (h : Duos w0 S X w c b ch d) :
    Calls Try.prog 13 #[dp c] w fun e w' => ∃ v, e = .returned v ∧ Ints w' w.heap.size v (changedC ch.l) ∧ Below w.heap.size w w' := by
  obtain ⟨H, G, h1, h2, h3, h4, h5, h6, h7⟩ := h
  have HC : Hid (Calls Try.prog 37 #[.func (.func 53) #[] #[.pointer (some ⟨w.heap.size, 0, none⟩)]] (w.alloc (.cells #[dp c] 27)) fun e w' => ∃ v, e = .returned v ∧ Ints w' w.heap.size v (changedC ch.l) ∧ Below w.heap.size w w') := by
    have hb : Only (fun _ => False) w (w.alloc (.cells #[dp c] 27)) := (Only.refl _ w).alloc _
    have hB := Blk.new w 27 [dp c]
    refine (collect_any _ 53 #[.pointer (some ⟨w.heap.size, 0, none⟩)] (changedC ch.l) (UnV w.heap.size c b (ordC ch.l) (chgF ch.l)) enters_un (un_iter w.heap.size c b (ordC ch.l) (chgF ch.l)) (fun k W' ho => ⟨(hB.only ho (fun h => h)).cell 0, H, ch.size, ch.l, ch.hits, ch.misses, (h1.keep hb (fun _ _ h => h)).keep ho (fun _ _ h => h), fun p hp => mem_ordC.1 hp, fun y hy hm => ?_, fun y hy hf => ?_⟩) (by have := changedC_len ch.l; have := h7.few; have := h7.hi; omega)).mono ?_
    · have := (List.mem_filter.1 (List.mem_of_mem_drop hm)).2
      rwa [chgF_mem h7.nodup hy] at this
    · rwa [chgF_mem h7.nodup hy] at hf
    · rintro e w' ⟨v, rfl, hi, hb'⟩
      exact ⟨v, rfl, hi.base (by simp), after_alloc hb'⟩
  clear h1 h2 h3 h4 h5 h6 h7
  go_enter Try.func13, Try.ntmps13
  go_wp2_with (first
    | (go_at_call 35; refine (unwritten_any w _).mono ?_; rintro e w1 ⟨rfl, hw⟩; subst w1)
    | (go_at_call 37; refine HC.out.mono ?_; rintro e w2 ⟨v2, rfl, hi2, hb2⟩; have HI2 := hide hi2; have HB2 := hide hb2; clear HC hi2 hb2))
  go_ret
  exact ⟨_, rfl, HI2.out, HB2.out⟩

theorem duos_write (k : Nat) (hk : k < 900000) (h : Duos w0 S X w c b ch d) (hf : Few k ch d) (x : Hd) (hx : x ∈ ch.l) :
    Calls Try.prog 36 #[dp c, .int .i64 x.p] w fun e w' => e = .returned (.int .i64 (writeQ d x.p x.bs).1) ∧ Duos w0 S X w' c b (if (writeQ d x.p x.bs).1 = 0 then { ch with l := updC ch.l x.p (fun y => { y with ch := false }) } else ch) (writeQ d x.p x.bs).2 ∧ Turn w0 S X w w' := by
  obtain ⟨H, G, ⟨mb, vo, D, sl, h1⟩, h2, h3, h4, h5, h6, h7⟩ := h
  refine (write_at w c b H G ch.size (ordC ch.l) ch.l ch.hits ch.misses mb vo D sl d h1 h2 h3 x hx (h7.pages x hx).1 (by have := hf.ws; omega) (by have := hf.done; omega)).mono ?_
  rintro e w' ⟨rfl, k1, k2, ho⟩
  refine ⟨rfl, duos_step h3 h4 h5 h6 (H' := H) (G' := fun k => G k ∨ w.heap.size ≤ k) ?_ k2 ho (fun _ h => .inl h) (fun _ h => h) (fun k _ hh hg => ?_) ?_, turn_step h4 ho⟩
  · by_cases he : (writeQ d x.p x.bs).1 = 0
    · rw [if_pos he] at k1 ⊢
      show CachH _ c b H ch.size (ordC (updC _ _ _)) _ _ _
      rw [ordC_updC _ _ (fun y => { y with ch := false }) (fun _ => rfl)]
      exact ⟨mb, vo, D, sl, k1⟩
    · rw [if_neg he] at k1 ⊢
      exact ⟨mb, vo, D, sl, k1⟩
  · rcases hg with hg | hg
    · exact h3 k hh hg
    · have := (h4 k (.inl hh)).2.2; omega
  · rw [writeQ_st]
    split
    · exact ok_upd h7 x.p _ (fun _ => rfl) (fun y hy => (h7.pages y hy).2)
    · exact h7
end

/-- k pages having been written -/
structure Rem (xs : List Int) (f : Int → Bool) (ch : Ch) (d : Dv) (K k : Nat) (ch' : Ch) (d' : Dv) : Prop where
  fl : flushR xs ch d = flushR (xs.drop k) ch' d'
  ord : ordC ch'.l = ordC ch.l
  sz : ch'.size = ch.size
  yes : ∀ h ∈ ch'.l, (h.p : Int) ∈ xs.drop k → h.ch = true
  no : ∀ h ∈ ch'.l, f h.p = false → h.ch = false
  few : Few (K + k) ch' d'

theorem few_write {K : Nat} {ch ch' : Ch} {d : Dv} (h : Few K ch d) (p : Nat) (zs : List Int) (h1 : ch'.hits = ch.hits) (h2 : ch'.misses = ch.misses) (h3 : ∀ y ∈ ch'.l, y.pins ≤ K) : Few (K + 1) ch' (writeQ d p zs).2 := by
  have hw : (writeQ d p zs).2.ws.length ≤ d.ws.length + 1 ∧ (writeQ d p zs).2.done ≤ d.done + 1 := by
    unfold writeQ
    split
    · exact ⟨Nat.le_succ _, Nat.le_succ _⟩
    · unfold spendD
      split
      · exact ⟨by simp, Nat.le_succ _⟩
      · exact ⟨by simp, Nat.le_refl _⟩
      · exact ⟨by simp, Nat.le_refl _⟩
  exact ⟨by rw [h1]; exact Nat.le_succ_of_le h.hits, by rw [h2]; exact Nat.le_succ_of_le h.misses, fun y hy => Nat.le_succ_of_le (h3 y hy), by have := h.ws; omega, by have := h.done; omega⟩

theorem rem_step {xs : List Int} {f : Int → Bool} {ch : Ch} {d : Dv} {K k : Nat} {ch' : Ch} {d' : Dv} (h : Rem xs f ch d K k ch' d') (hnd : (ch'.l.map (·.p)).Nodup) (hk : k < xs.length) (hxn : xs.Nodup) {x : Hd} (hx : x ∈ ch'.l) (hp : (x.p : Int) = xs[k]) (he : (writeQ d' x.p x.bs).1 = 0) :
    Rem xs f ch d K (k + 1) { ch' with l := updC ch'.l x.p (fun y => { y with ch := false }) } (writeQ d' x.p x.bs).2 := by
  have hd : xs.drop k = (x.p : Int) :: xs.drop (k + 1) := by rw [List.drop_eq_getElem_cons hk, hp]
  have hf := findC_mem hnd hx
  have hm : ∀ y ∈ updC ch'.l x.p (fun y => { y with ch := false }), ∃ z ∈ ch'.l, y.p = z.p ∧ y.pins = z.pins ∧ y.ch = if z.p = x.p then false else z.ch := by
    intro y hy
    obtain ⟨z, hz, e⟩ := mem_updC hy
    refine ⟨z, hz, ?_⟩
    by_cases hzx : z.p = x.p
    · rw [if_pos hzx] at e ⊢
      subst e
      exact ⟨rfl, rfl, rfl⟩
    · rw [if_neg hzx] at e ⊢
      subst e
      exact ⟨rfl, rfl, rfl⟩
  refine ⟨?_, (ordC_updC ch'.l x.p (fun y => { y with ch := false }) (fun _ => rfl)).trans h.ord, h.sz, fun y hy hmem => ?_, fun y hy hff => ?_, few_write h.few x.p x.bs rfl rfl (fun y hy => ?_)⟩
  · rw [h.fl, hd, flushR, hf]
    simp only
    rw [if_pos he]
  · obtain ⟨z, hz, e1, e2, e3⟩ := hm y hy
    have hne : z.p ≠ x.p := fun e => by
      have hnn : (xs.drop k).Nodup := hxn.sublist (List.drop_sublist _ _)
      rw [hd, List.nodup_cons] at hnn
      exact hnn.1 (by rw [e1, e] at hmem; exact hmem)
    rw [e3, if_neg hne]
    exact h.yes z hz (by rw [hd]; exact List.mem_cons_of_mem _ (by rw [← e1]; exact hmem))
  · obtain ⟨z, hz, e1, e2, e3⟩ := hm y hy
    rw [e3]
    split
    · rfl
    · exact h.no z hz (by rw [← e1]; exact hff)
  · obtain ⟨z, hz, e1, e2, e3⟩ := hm y hy
    rw [e2]
    exact h.few.pins z hz
theorem rem_stop {xs : List Int} {f : Int → Bool} {ch : Ch} {d : Dv} {K k : Nat} {ch' : Ch} {d' : Dv} (h : Rem xs f ch d K k ch' d') (hnd : (ch'.l.map (·.p)).Nodup) (hk : k < xs.length) {x : Hd} (hx : x ∈ ch'.l) (hp : (x.p : Int) = xs[k]) (he : (writeQ d' x.p x.bs).1 ≠ 0) :
    flushR xs ch d = ((writeQ d' x.p x.bs).1, ch', (writeQ d' x.p x.bs).2) := by
  have hd : xs.drop k = (x.p : Int) :: xs.drop (k + 1) := by rw [List.drop_eq_getElem_cons hk, hp]
  rw [h.fl, hd, flushR, findC_mem hnd hx]
  simp only
  rw [if_neg he]
theorem srt_nodup {os : List Int} (h : os.Nodup) : (srt os).Nodup := ((List.mergeSort_perm os _).nodup_iff).2 h
theorem ordC_nodup {l : List Hd} (h : (l.map (·.p)).Nodup) : (ordC l).Nodup := List.pairwise_reverse.2 ((nodup_int h).imp (fun h => Ne.symm h))
theorem changedC_nodup {l : List Hd} (h : (l.map (·.p)).Nodup) : (changedC l).Nodup := (srt_nodup (ordC_nodup h)).sublist List.filter_sublist
theorem mem_changedC {l : List Hd} {p : Int} (h : p ∈ changedC l) : ∃ x ∈ l, (x.p : Int) = p := mem_ordC.1 (List.mem_mergeSort.1 (List.mem_filter.1 h).1)

end Go.Proofs.Ytoplhehcjgldeaa
