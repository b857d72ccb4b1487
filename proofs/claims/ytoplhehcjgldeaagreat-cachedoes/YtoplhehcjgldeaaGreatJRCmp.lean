/- Contracts: how the document's answer (incipitref01) compares two texts. -/
import Derived.Test.YtoplhehcjgldeaaGreatRows
import Derived.Test.YtoplhehcjgldeaaGreatOwn
import Derived.Test.YtoplhehcjgldeaaGreatJCHold
import Derived.Test.YtoplhehcjgldeaaGreatJCut
namespace Go.Proofs.YtoplhehcjgldeaaGreat
open Go.RowKit

theorem sl_case {w : World} {v : Value} {zs : List Int} (h : Sl w v zs) :
    (zs = [] ∧ ∃ ao cap, v = .slice ao 0 cap) ∨ (∃ b off cap, v = .slice (some ⟨b, off, none⟩) zs.length cap ∧ zs.length ≤ cap ∧ cap ≤ maxLen ∧ ∀ i, i < zs.length → w.cell? ⟨b, off + i, none⟩ = some (.int .u8 (zs.getD i 0))) := by
  obtain ⟨_, ao, cap, rfl, h1, h2, h3, h4⟩ := h
  by_cases hz : zs = []
  · subst hz; exact .inl ⟨rfl, ao, cap, rfl⟩
  · obtain ⟨b, off, rfl, hc⟩ := h4 hz
    exact .inr ⟨b, off, cap, rfl, h1, h2, hc⟩

set_option maxHeartbeats 400000 in
theorem refPrefix_any (w : World) (va vb : Value) (xs ys : List Int) (ha : Sl w va xs) (hb : Sl w vb ys) :
    Calls Tryz.prog 78 #[va, vb] w fun e w' => e = .returned (.int .i64 (pre xs ys)) ∧ Below w.heap.size w w' := by
  obtain ⟨ba, aoa, capa, rfl, hla, hma, _, hca⟩ := ha
  obtain ⟨bb, aob, capb, rfl, hlb, hmb, _, hcb⟩ := hb
  unfold maxLen at hma hmb
  have hpl := pre_le_left xs ys
  have hpr := pre_le_right xs ys
  go_enter Tryz.func78, Tryz.ntmps78
  go_wp2
  go_loopw [5] (fun i wr => ∃ k : Nat, k ≤ pre xs ys ∧ i = .int .i64 k ∧ ∃ n, wr = w.drewN n) (fun i _ => pre xs ys + 1 - (intOf i).toNat)
  case atStart => exact ⟨0, Nat.zero_le _, rfl, 0, rfl⟩
  case round =>
    obtain ⟨k, hk, rfl, nd, rfl⟩ := hrel
    by_cases h1 : k < xs.length
    · by_cases h2 : k < ys.length
      · obtain ⟨b1, o1, rfl, hc1⟩ := hca (by intro h; simp [h] at h1)
        obtain ⟨b2, o2, rfl, hc2⟩ := hcb (by intro h; simp [h] at h2)
        obtain ⟨x, hx⟩ : ∃ x, x = xs.getD k 0 := ⟨_, rfl⟩
        obtain ⟨y, hy⟩ : ∃ y, y = ys.getD k 0 := ⟨_, rfl⟩
        have c1 := hc1 k h1
        have c2 := hc2 k h2
        rw [← hx] at c1
        rw [← hy] at c2
        have HX : Hid (x = xs.getD k 0) := hx
        have HY : Hid (y = ys.getD k 0) := hy
        clear hx hy hca hcb hc1 hc2
        have i1 : (k : Int) < (xs.length : Int) := by omega
        have i2 : (k : Int) < (ys.length : Int) := by omega
        by_cases hxy : x = y
        · subst hxy
          have hs := pre_step xs ys k hk h1 h2 (HX.out.symm.trans HY.out)
          go_wp2_with fail
          go_quiet (fail)
          go_wp2
          go_roundw
          case rel => exact ⟨k + 1, hs, by go_num, _, rfl⟩
          case measure => simp [intOf]; omega
        · have hb : (x == y) = false := by simpa using hxy
          have hs := pre_stop xs ys k hk (.inr (.inr (by rw [← HX.out, ← HY.out]; exact hxy)))
          go_wp2_with fail
          go_quiet (fail)
          go_wp2
          go_ret
          exact ⟨ret_int (by rw [hs]), below_drewN (below_drewN (Below.refl _ _) _) _⟩
      · have hs := pre_stop xs ys k hk (.inr (.inl (by omega)))
        have i1 : (k : Int) < (xs.length : Int) := by omega
        have i2 : decide ((k : Int) < (ys.length : Int)) = false := by simp; omega
        go_wp2_with fail
        go_quiet (fail)
        go_wp2
        go_ret
        exact ⟨ret_int (by rw [hs]), below_drewN (below_drewN (Below.refl _ _) _) _⟩
    · have hs := pre_stop xs ys k hk (.inl (by omega))
      have i1 : decide ((k : Int) < (xs.length : Int)) = false := by simp; omega
      go_wp2_with fail
      go_quiet (fail)
      go_wp2
      go_ret
      exact ⟨ret_int (by rw [hs]), below_drewN (below_drewN (Below.refl _ _) _) _⟩


set_option maxHeartbeats 400000 in
theorem refCompare_any (w : World) (va vb : Value) (xs ys : List Int) (ha : Sl w va xs) (hb : Sl w vb ys) :
    Calls Tryz.prog 52 #[va, vb] w fun e w' => e = .returned (.int .i64 (cmp xs ys)) ∧ Below w.heap.size w w' := by
  have hpl := pre_le_left xs ys
  have hpr := pre_le_right xs ys
  have HC : Hid (cmp xs ys = _) := cmp_pre xs ys
  have HP : Hid (∀ w, Sl w va xs → Sl w vb ys → Calls Tryz.prog 78 #[va, vb] w fun e w' => e = .returned (.int .i64 (pre xs ys)) ∧ Below w.heap.size w w') := fun w h1 h2 => refPrefix_any w va vb xs ys h1 h2
  have Ha := ha
  have Hb := hb
  obtain ⟨ba, aoa, capa, rfl, hla, hma, _, hca⟩ := ha
  obtain ⟨bb, aob, capb, rfl, hlb, hmb, _, hcb⟩ := hb
  unfold maxLen at hma hmb
  obtain ⟨p, hp⟩ : ∃ p, p = pre xs ys := ⟨_, rfl⟩
  rw [← hp] at hpl hpr HC HP
  clear hp
  by_cases e1 : p = xs.length
  · by_cases e2 : p = ys.length
    · have hc : cmp xs ys = 0 := by have := HC.out; rw [if_pos e1, if_pos e2] at this; exact this
      have i1 : (p : Int) = (xs.length : Int) := by omega
      have i2 : (p : Int) = (ys.length : Int) := by omega
      clear e1 e2 hca hcb
      go_enter Tryz.func52, Tryz.ntmps52
      go_wp2_with (go_at_call 78; refine (HP.out _ Ha Hb).mono ?_; rintro e w1 ⟨rfl, hb1⟩)
      go_ret
      exact ⟨ret_int (by rw [hc]), hb1⟩
    · have hc : cmp xs ys = -1 := by have := HC.out; rw [if_pos e1, if_neg e2] at this; exact this
      have i1 : (p : Int) = (xs.length : Int) := by omega
      have i2 : ((p : Int) == (ys.length : Int)) = false := by simp; omega
      clear e1 e2 hca hcb
      go_enter Tryz.func52, Tryz.ntmps52
      go_wp2_with (go_at_call 78; refine (HP.out _ Ha Hb).mono ?_; rintro e w1 ⟨rfl, hb1⟩)
      go_ret
      exact ⟨ret_int (by rw [hc]), hb1⟩
  · have i1 : ((p : Int) == (xs.length : Int)) = false := by simp; omega
    by_cases e2 : p = ys.length
    · have hc : cmp xs ys = 1 := by have := HC.out; rw [if_neg e1, if_pos e2] at this; exact this
      subst e2
      clear e1 hca hcb
      go_enter Tryz.func52, Tryz.ntmps52
      go_wp2_with (go_at_call 78; refine (HP.out _ Ha Hb).mono ?_; rintro e w1 ⟨rfl, hb1⟩)
      go_quiet (fail)
      go_wp2
      go_ret
      exact ⟨ret_int (by rw [hc]), below_drewN hb1 _⟩
    · have hc : cmp xs ys = if ys.getD p 0 < xs.getD p 0 then 1 else -1 := by have := HC.out; rw [if_neg e1, if_neg e2] at this; exact this
      have i2 : ((p : Int) == (ys.length : Int)) = false := by simp; omega
      have j1 : (p : Int) < (xs.length : Int) := by omega
      have j2 : (p : Int) < (ys.length : Int) := by omega
      obtain ⟨b1, o1, rfl, hc1⟩ := hca (by intro h; simp [h] at j1; omega)
      obtain ⟨b2, o2, rfl, hc2⟩ := hcb (by intro h; simp [h] at j2; omega)
      have c1 := hc1 p (by omega)
      have c2 := hc2 p (by omega)
      have l1 := World.block_lt_of_cell? w _ c1
      have l2 := World.block_lt_of_cell? w _ c2
      obtain ⟨x, hx⟩ : ∃ x, x = xs.getD p 0 := ⟨_, rfl⟩
      obtain ⟨y, hy⟩ : ∃ y, y = ys.getD p 0 := ⟨_, rfl⟩
      rw [← hx] at c1 hc
      rw [← hy] at c2 hc
      have C1 := Hid.out c1
      have C2 := Hid.out c2
      clear hx hy e1 e2 hca hcb hc1 hc2 HC c1 c2
      by_cases hxy : y < x
      · rw [if_pos hxy] at hc
        go_enter Tryz.func52, Tryz.ntmps52
        go_wp2_with (go_at_call 78; refine (HP.out _ Ha Hb).mono ?_; rintro e w1 ⟨rfl, hb1⟩; have d1 := (hb1.cell l1).trans C1; have d2 := (hb1.cell l2).trans C2)
        go_quiet (fail)
        go_wp2
        go_ret
        exact ⟨ret_int (by rw [hc]), below_drewN hb1 _⟩
      · rw [if_neg hxy] at hc
        have hd : decide (y < x) = false := by simpa using hxy
        go_enter Tryz.func52, Tryz.ntmps52
        go_wp2_with (go_at_call 78; refine (HP.out _ Ha Hb).mono ?_; rintro e w1 ⟨rfl, hb1⟩; have d1 := (hb1.cell l1).trans C1; have d2 := (hb1.cell l2).trans C2)
        go_quiet (fail)
        go_wp2
        go_ret
        exact ⟨ret_int (by rw [hc]), below_drewN hb1 _⟩

theorem refSame_any (w : World) (va vb : Value) (xs ys : List Int) (ha : Sl w va xs) (hb : Sl w vb ys) :
    Calls Tryz.prog 15 #[va, vb] w fun e w' => e = .returned (.bool (decide (xs = ys))) ∧ Below w.heap.size w w' := by
  have HC := refCompare_any w va vb xs ys ha hb
  have hz := cmp_zero_iff xs ys
  obtain ⟨c, hc⟩ : ∃ c, c = cmp xs ys := ⟨_, rfl⟩
  rw [← hc] at HC hz
  clear hc
  go_enter Tryz.func15, Tryz.ntmps15
  go_wp2_with (go_at_call 52; refine HC.mono ?_; rintro e w1 ⟨rfl, hb1⟩)
  go_ret
  exact ⟨ret_bool (by rw [Bool.eq_iff_iff]; simp [hz]), hb1⟩

end Go.Proofs.YtoplhehcjgldeaaGreat
/- Contracts: cache.New; a page's bytes (incipitlaw05.page); whether two rows of numbers are the same (incipitref05.Ints). -/
namespace Go.Proofs.YtoplhehcjgldeaaGreat
open Go.RowKit
set_option linter.unusedVariables false
set_option maxRecDepth 100000

def newC (size : Nat) : Ch := ⟨size, [], 0, 0⟩
theorem newC_ok (n size : Nat) (h1 : 2 ≤ size) (h2 : size ≤ 64) : ChOk n (newC size) := ⟨h1, h2, Nat.zero_le _, List.nodup_nil, fun x hx => by cases hx⟩

section
variable (w0 w : World) (S X : Nat → Prop) (b : Nat) (G : Nat → Prop) (d : Dv)
theorem cnew_ok (h : Dev w b G d) (hG : ∀ k, G k → (S k ∨ w0.heap.size ≤ k) ∧ ¬ X k) (hX : ∀ k, X k → k < w.heap.size) (hS : Only S w0 w) (size : Nat) (h1 : 2 ≤ size) (h2 : size ≤ 64) :
    Calls Tryz.prog 7 #[dp b, .int .i64 size] w fun e w' => ∃ c, e = .returned (.tuple #[dp c, .int .i64 0]) ∧ Duos w0 S X w' c b (newC size) d ∧ Below w.heap.size w w' := by
  have HP := hide (pages_any w b G d h)
  have hp : (d.st.length : Int) ≠ 0 := by have := h.ok.pos; omega
  have i1 : ¬ (size : Int) < 2 := by omega
  have i2 : ¬ (64 : Int) < (size : Int) := by omega
  have hmm := @run_makeMap Tryz.prog
  have HD := hide h
  clear h
  go_enter Tryz.func7, Tryz.ntmps7
  go_wp2_with (go_at_call 21; refine HP.out.mono ?_; rintro e w1 ⟨rfl, hw⟩; subst w1; clear HP)
  go_ret2
  have hs0 := hS.size
  have hb : Below w.heap.size w ((w.alloc (.map #[] 0)).alloc (.cells #[dp b, .int .i64 size, .map (some w.heap.size), .slice none 0 0, .int .i64 0, .int .i64 0] 63)) := ((Below.refl _ w).alloc (Nat.le_refl _) _).alloc (by simp) _
  have hB := Blk.new (w.alloc (.map #[] 0)) 63 [dp b, .int .i64 size, .map (some w.heap.size), .slice none 0 0, .int .i64 0, .int .i64 0]
  rw [World.size_alloc] at hB
  refine ⟨w.heap.size + 1, rfl, ⟨fun k => k = w.heap.size ∨ k = w.heap.size + 1, fun k => G k ∧ k < w.heap.size, ⟨w.heap.size, .slice none 0 0, .map [], fun _ => 0, hB, Ints.nil _ _, ?_, .inr rfl, (fun k hk => by cases hk), Nat.zero_le _⟩, ?_, (fun k hk hg => by omega), fun k hk => ?_, fun k hk => ?_, hS.trans (Only.of_below (fun _ => False) hb) (fun _ _ h => h.elim), newC_ok _ _ h1 h2⟩, hb⟩
  · exact ⟨(World.ownsMap_made w Tryz.prog 3 slotElem).alloc _, (fun p => rfl), (fun x hx => by cases hx), rfl, (fun x hx => by cases hx), (fun x hx => by cases hx), List.nodup_nil, (fun x hx => by cases hx), Nat.zero_le _, .inl rfl, (fun x hx => by cases hx)⟩
  · exact (HD.out.bound).keep (Only.of_below (fun _ => False) hb) (fun _ _ h => h)
  · simp only [World.size_alloc]
    rcases hk with hk | hk
    · refine ⟨.inr (by omega), fun hx => ?_, by omega⟩
      have := hX k hx
      omega
    · exact ⟨(hG k hk.1).1, (hG k hk.1).2, by have := hk.2; omega⟩
  · simp only [World.size_alloc]
    have := hX k hk
    omega
end

def pg (z : Int) : List Int := pageS [z, z, z, z]
theorem pg_bytes {z : Int} (h0 : 0 ≤ z) (h1 : z ≤ 255) : ByteOk [z, z, z, z] := by intro y hy; simp at hy; omega
theorem pg_ok {z : Int} (h0 : 0 ≤ z) (h1 : z ≤ 255) : PageOk (pg z) := pageS_ok (pg_bytes h0 h1)
theorem page5_any (w : World) (z : Int) (h0 : 0 ≤ z) (h1 : z ≤ 255) : Calls Tryz.prog 17 #[.int .u8 z] w fun e w' => ∃ g, e = .returned (.slice (some ⟨g, 0, none⟩) 256 256) ∧ Blk w' g 5 (pc (pg z)) ∧ w.heap.size ≤ g ∧ Below w.heap.size w w' := by
  have HP : Hid (Calls Tryz.prog _ _ _ _) := page_any (w.alloc (.cells #[.int .u8 z, .int .u8 z, .int .u8 z, .int .u8 z] 5)) _ [z, z, z, z] (sl_lit w 5 [z, z, z, z] (pg_bytes h0 h1) (by simp [maxLen]))
  go_enter Tryz.func17, Tryz.ntmps17
  go_wp2_with (go_at_call 58; refine HP.out.mono ?_; rintro e w1 ⟨rfl, hp1, hb1⟩; have HQ := hide hp1; have HB := hide hb1; clear HP hp1 hb1)
  go_ret
  have k := HQ.out
  rw [World.size_alloc] at k
  exact ⟨_, rfl, k, by omega, after_alloc HB.out⟩

end Go.Proofs.YtoplhehcjgldeaaGreat
/- Contract: whether two rows of numbers are the same (incipitref05.Ints). -/
namespace Go.Proofs.YtoplhehcjgldeaaGreat
open Go.RowKit
set_option linter.unusedVariables false
set_option maxRecDepth 100000

theorem eq_of_getD {xs ys : List Int} (hl : xs.length = ys.length) (h : ∀ j, j < xs.length → xs.getD j 0 = ys.getD j 0) : xs = ys := by
  apply List.ext_getElem hl
  intro i h1 h2
  have := h i h1
  rwa [getD_lt xs h1, getD_lt ys h2] at this

theorem refInts_any (w : World) (ba bb : Nat) (va vb : Value) (xs ys : List Int) (ha : Ints w ba va xs) (hb : Ints w bb vb ys) :
    Calls Tryz.prog 19 #[va, vb] w fun e w' => e = .returned (.bool (decide (xs = ys))) ∧ Below w.heap.size w w' := by
  by_cases hl : xs.length = ys.length
  · rcases ha.form with ⟨rfl, rfl⟩ | ⟨ga, ca, sa, rfl, _, hc1, hm1, hB1, _⟩
    · have : ys = [] := List.eq_nil_of_length_eq_zero (by simpa using hl.symm)
      subst this
      obtain ⟨aob, cb, rfl⟩ := hb.shape
      clear ha hb hl
      go_enter Tryz.func19, Tryz.ntmps19
      go_wp2
      go_loopg [5] 0 (fun g i wr => i = .int .i64 0 ∧ wr = w)
      case atStart => exact ⟨rfl, rfl⟩
      case round =>
        obtain ⟨rfl, rfl⟩ := hrel
        go_wp2
        go_ret
        exact ⟨rfl, Below.refl _ _⟩
    · rcases hb.form with ⟨rfl, rfl⟩ | ⟨gb, cb, sb, rfl, _, hc2, hm2, hB2, _⟩
      · have : xs = [] := List.eq_nil_of_length_eq_zero (by simpa using hl)
        subst this
        clear ha hb hl
        go_enter Tryz.func19, Tryz.ntmps19
        go_wp2
        go_loopg [5] 0 (fun g i wr => i = .int .i64 0 ∧ wr = w)
        case atStart => exact ⟨rfl, rfl⟩
        case round =>
          obtain ⟨rfl, rfl⟩ := hrel
          go_wp2
          go_ret
          exact ⟨rfl, Below.refl _ _⟩
      · have HC1 : Hid (∀ k, k < xs.length → w.cell? ⟨ga, k, none⟩ = some (.int .i64 (xs.getD k 0))) := fun k hk => by have := iv_cell hB1 k hk; rwa [Nat.zero_add] at this
        have HC2 : Hid (∀ k, k < ys.length → w.cell? ⟨gb, k, none⟩ = some (.int .i64 (ys.getD k 0))) := fun k hk => by have := iv_cell hB2 k hk; rwa [Nat.zero_add] at this
        have HL := hide hl
        have hl' : (ys.length : Int) = xs.length := by omega
        rw [← hl] at hc2 HC2
        unfold maxLen at hm1 hm2
        rw [← hl]
        clear hB1 hB2 ha hb hl hl'
        obtain ⟨n, hn⟩ : ∃ n, xs.length = n := ⟨_, rfl⟩
        rw [hn] at HC1 HC2 hc1 hc2 ⊢
        have HN := hide hn
        clear hn
        go_enter Tryz.func19, Tryz.ntmps19
        go_wp2
        go_loopg [5] n (fun g i wr => ∃ k m : Nat, g + k = n ∧ i = .int .i64 k ∧ wr = w.drewN m ∧ ∀ j, j < k → xs.getD j 0 = ys.getD j 0)
        case atStart => exact ⟨0, 0, by omega, rfl, rfl, fun j hj => absurd hj (by omega)⟩
        case round =>
          obtain ⟨k, m, hgk, rfl, rfl, hsame⟩ := hrel
          have HS := hide hsame
          clear hsame
          by_cases hk : k < n
          · have q1 := HC1.out k hk
            have q2 := HC2.out k hk
            obtain ⟨x, hx⟩ : ∃ x, xs.getD k 0 = x := ⟨_, rfl⟩
            obtain ⟨y, hy⟩ : ∃ y, ys.getD k 0 = y := ⟨_, rfl⟩
            rw [hx] at q1
            rw [hy] at q2
            have HX := hide hx
            have HY := hide hy
            clear hx hy
            go_wp2
            by_cases hxy : x = y
            · go_quiet (fail)
              go_wp2
              go_roundg (gk - 1)
              case measure => omega
              case rel => exact ⟨k + 1, m + nq, by omega, by go_num, by simp [World.drewN], fun j hj => by
                by_cases hjk : j = k
                · subst hjk
                  rw [HX.out, HY.out]; exact hxy
                · exact HS.out j (by omega)⟩
            · go_quiet (fail)
              go_wp2
              go_ret
              refine ⟨ret_bool ?_, ((Only.refl (fun _ => False) w).drewN m).drewN nq |>.below (Nat.le_refl _) (fun _ _ h => h)⟩
              rw [decide_eq_false (fun e => hxy (by rw [← HX.out, ← HY.out, e]))]
          · go_wp2
            go_ret
            refine ⟨ret_bool ?_, ((Only.refl (fun _ => False) w).drewN m).below (Nat.le_refl _) (fun _ _ h => h)⟩
            rw [decide_eq_true (eq_of_getD HL.out (fun j hj => HS.out j (by have := HN.out; omega)))]
  · obtain ⟨aoa, ca, rfl⟩ := ha.shape
    obtain ⟨aob, cb, rfl⟩ := hb.shape
    have hli : (xs.length : Int) ≠ ys.length := by omega
    have hne : xs ≠ ys := fun e => hl (by rw [e])
    rw [decide_eq_false hne]
    clear ha hb hl hne
    go_enter Tryz.func19, Tryz.ntmps19
    go_wp2
    go_ret
    exact ⟨rfl, Below.refl _ _⟩

end Go.Proofs.YtoplhehcjgldeaaGreat
