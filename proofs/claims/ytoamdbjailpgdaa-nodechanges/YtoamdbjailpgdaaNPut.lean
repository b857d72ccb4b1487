/- What a node's page bears, and contracts: package node's putText, putChild, leafBytes, innerBytes. -/
import Derived.Test.YtoamdbjailpgdaaNCheck
import Derived.Test.YtoamdbjailpgdaaNPk
namespace Go.Proofs.Ytoamdbjailpgdaa
set_option maxRecDepth 20000
open Go.RowKit Go.Shelf
set_option linter.unusedVariables false
set_option linter.unusedSimpArgs false
set_option maxRecDepth 100000
attribute [local go_sem] Oper.semAt_some

/-- the first k pairs, with how many there are ahead -/
def lefT (ps : List (List Int × List Int)) : Nat → List Int
  | 0 => [(ps.length : Int)]
  | k + 1 => lefT ps k ++ txt (ps.getD k ([], [])).1 ++ txt (ps.getD k ([], [])).2
def innT (ks : List (List Int)) (cs : List Int) : Nat → List Int
  | 0 => [(ks.length : Int)] ++ numBytes (cs.getD 0 0).toNat 2
  | k + 1 => innT ks cs k ++ txt (ks.getD k []) ++ numBytes (cs.getD (k + 1) 0).toNat 2
def bytesN (n : Nd) : List Int := if n.lf then lefT n.ps n.ps.length else innT n.ks n.cs n.ks.length
def padN (l : List Int) : List Int := l ++ List.replicate (240 - l.length) 0

theorem txt_len (ts : List Int) : (txt ts).length = 1 + ts.length := by simp [txt]; omega
theorem lefT_len (ps : List (List Int × List Int)) : ∀ k, k ≤ ps.length → (lefT ps k).length = 1 + ((ps.map partP).take k).sum
  | 0, _ => by simp [lefT]
  | k + 1, h => by
    rw [lefT, List.length_append, List.length_append, lefT_len ps k (by omega), txt_len, txt_len, sum_take_succ _ k (by rw [List.length_map]; omega)]
    have : (ps.map partP).getD k 0 = partP (ps.getD k ([], [])) := by simp [List.getD, show k < ps.length by omega]
    rw [this, partP]; omega
theorem innT_len (ks : List (List Int)) (cs : List Int) : ∀ k, k ≤ ks.length → (innT ks cs k).length = 3 + ((ks.map partK).take k).sum
  | 0, _ => by simp [innT, numBytes_len]
  | k + 1, h => by
    rw [innT, List.length_append, List.length_append, innT_len ks cs k (by omega), txt_len, numBytes_len, sum_take_succ _ k (by rw [List.length_map]; omega)]
    have : (ks.map partK).getD k 0 = partK (ks.getD k []) := by simp [List.getD, show k < ks.length by omega]
    rw [this, partK]; omega
theorem bytesN_len {n : Nd} (h : mayN n = true) : (bytesN n).length = sizeN n := by
  unfold bytesN sizeN
  rw [if_pos h]
  cases hl : n.lf with
  | true =>
    rw [mayN_lf hl] at h
    have := (leafB_ps h).2.1
    simp only [if_true]
    rw [lefT_len _ _ (Nat.le_refl _), List.take_of_length_le (by simp), partsN, this]
    simp
  | false =>
    rw [mayN_in hl] at h
    have := (innerB_ps h).1
    simp only [Bool.false_eq_true, if_false]
    rw [innT_len _ _ _ (Nat.le_refl _), List.take_of_length_le (by simp), partsN, this]
    simp

theorem lefT_ok (ps : List (List Int × List Int)) (hn : ps.length ≤ 255) (h : ∀ p ∈ ps, ByteOk p.1 ∧ ByteOk p.2 ∧ p.1.length ≤ 255 ∧ p.2.length ≤ 255) : ∀ k, ByteOk (lefT ps k)
  | 0 => by intro z hz; simp [lefT] at hz; omega
  | k + 1 => by
    rw [lefT]
    by_cases hk : k < ps.length
    · have := h (ps.getD k ([], [])) (by simp only [List.getD, List.getElem?_eq_getElem hk]; exact List.getElem_mem hk)
      exact ((lefT_ok ps hn h k).append' (txt_ok this.1 this.2.2.1)).append' (txt_ok this.2.1 this.2.2.2)
    · have e : ps.getD k ([], []) = ([], []) := by simp [List.getD, Nat.le_of_not_lt hk]
      rw [e]
      have hz : ByteOk (txt []) := by intro z hz; simp [txt] at hz; omega
      exact ((lefT_ok ps hn h k).append' hz).append' hz
theorem innT_ok (ks : List (List Int)) (cs : List Int) (hn : ks.length ≤ 255) (h : ∀ p ∈ ks, ByteOk p ∧ p.length ≤ 255) : ∀ k, ByteOk (innT ks cs k)
  | 0 => by
    rw [innT]
    refine ByteOk.append' ?_ (numBytes_ok _ _)
    intro z hz; simp at hz; omega
  | k + 1 => by
    rw [innT]
    by_cases hk : k < ks.length
    · have := h (ks.getD k []) (by simp only [List.getD, List.getElem?_eq_getElem hk]; exact List.getElem_mem hk)
      exact ((innT_ok ks cs hn h k).append' (txt_ok this.1 this.2)).append' (numBytes_ok _ _)
    · have e : ks.getD k [] = [] := by simp [List.getD, Nat.le_of_not_lt hk]
      rw [e]
      have hz : ByteOk (txt []) := by intro z hz; simp [txt] at hz; omega
      exact ((innT_ok ks cs hn h k).append' hz).append' (numBytes_ok _ _)

/-- bytes of the call's own -/
abbrev ownsB (w : World) (base : Nat) (u : Value) (zs : List Int) : Prop := w.ownsRow base 5 1 u zs.length (zs.map (Value.int .u8))

theorem own_le' {w : World} {base base' n size : Nat} {e : TypeId} {v : Value} {xs : List Value} (h : w.ownsRow base e size v n xs) (hb : base' ≤ base) : w.ownsRow base' e size v n xs := by
  refine ⟨h.1, ?_⟩
  rcases h.2 with h' | ⟨g, cap, cur, e, h1, r⟩
  · exact .inl h'
  · exact .inr ⟨g, cap, cur, e, Nat.le_trans hb h1, r⟩

theorem putText_any (w : World) (vb vt : Value) (zs ts : List Int) (hb : Sl w vb zs) (ht : Sl w vt ts) (hz : zs.length ≤ 50000) (hl : ts.length ≤ 255) :
    Calls Try.prog 85 #[vb, vt] w fun e w' => ∃ u, e = .returned u ∧ ownsB w' w.heap.size u (zs ++ txt ts) ∧ Below w.heap.size w w' := by
  have HC := hide (packText_ok w vb vt zs ts hb ht hz hl)
  obtain ⟨a1, n1, c1, rfl⟩ := sl_form hb
  obtain ⟨a2, n2, c2, rfl⟩ := sl_form ht
  clear hb ht
  go_enter Try.func85, Try.ntmps85
  go_wp2_with (go_at_call 98; refine HC.out.mono ?_; rintro e w1 ⟨u, rfl, ho1, hb1, hz1⟩; have HO := hide ho1; have HB := hide hb1; clear HC ho1 hb1 hz1)
  go_ret
  exact ⟨_, rfl, HO.out, HB.out⟩

theorem putChild_any (w : World) (vb : Value) (zs : List Int) (c : Int) (hb : Sl w vb zs) (hz : zs.length ≤ 50000) (hc : kidB c = true) :
    Calls Try.prog 86 #[vb, .int .i64 c] w fun e w' => ∃ u, e = .returned u ∧ ownsB w' w.heap.size u (zs ++ numBytes c.toNat 2) ∧ Below w.heap.size w w' := by
  rw [kidB, Bool.and_eq_true, decide_eq_true_iff, decide_eq_true_iff] at hc
  obtain ⟨m, rfl⟩ : ∃ m : Nat, c = (m : Int) := ⟨c.toNat, by omega⟩
  rw [Int.toNat_natCast]
  have HC := hide (packU16_any w vb zs m hb hz (by omega))
  have hw16 : IntKind.u16.wrap (m : Int) = (m : Int) := by
    have : IntKind.u16.wrap (m : Int) = (m : Int) % 65536 := rfl
    rw [this]; omega
  obtain ⟨a1, n1, c1, rfl⟩ := sl_form hb
  clear hb
  go_enter Try.func86, Try.ntmps86
  go_wp2_with (go_at_call 99; refine HC.out.mono ?_; rintro e w1 ⟨u, rfl, ho1, hb1, hz1⟩; have HO := hide ho1; have HB := hide hb1; clear HC ho1 hb1 hz1)
  go_ret
  exact ⟨_, rfl, HO.out, HB.out⟩

end Go.Proofs.Ytoamdbjailpgdaa
