/- The walk of the statement CacheDoes. -/
import Derived.Test.YtoplhehcjgldeaaGreatJRSame
import Derived.Test.YtoplhehcjgldeaaGreatRegionT
import Derived.OpenShut
namespace Go.Proofs.YtoplhehcjgldeaaGreat
open Go.RowKit Go.ChangeShapes Go.WideShapes
set_option linter.unusedVariables false
set_option maxRecDepth 100000

/-! ### what is read of both devices -/
def readR (d : Dv) (p : Int) : Int × List Int := if 0 ≤ p ∧ p < d.st.length then (if d.off = true then (5, []) else (0, showsD d p.toNat)) else (1, [])
theorem read_all (w : World) (b : Nat) (F : Nat → Prop) (d : Dv) (h : Dev w b F d) (p : Int) :
    Calls Tryz.prog 13 #[dp b, .int .i64 p] w fun e w' => ∃ a n cap, e = .returned (.tuple #[.slice a n cap, .int .i64 (readR d p).1]) ∧ Sl w' (.slice a n cap) (readR d p).2 ∧ Below w.heap.size w w' := by
  unfold readR
  by_cases hp : 0 ≤ p ∧ p < d.st.length
  · rw [if_pos hp]
    cases hoff : d.off with
    | true =>
      refine (read_off w b F d p h hp hoff).mono ?_
      rintro e w' ⟨rfl, rfl⟩
      exact ⟨_, _, _, rfl, Sl.nil _, Below.refl _ _⟩
    | false =>
      obtain ⟨P, rfl⟩ : ∃ P : Nat, p = (P : Int) := ⟨p.toNat, by omega⟩
      refine (read_ok w b F d P h (by omega) hoff).mono ?_
      rintro e w' ⟨rfl, hB, hb⟩
      refine ⟨_, _, _, rfl, ?_, hb⟩
      simp only [Bool.false_eq_true, if_false, Int.toNat_natCast]
      exact blk_sl hB (h.ok.shows (by omega))
  · rw [if_neg hp]
    refine (read_arg w b F d p h hp).mono ?_
    rintro e w' ⟨rfl, rfl⟩
    exact ⟨_, _, _, rfl, Sl.nil _, Below.refl _ _⟩
theorem refRead_all (w : World) (r : Nat) (G : Nat → Prop) (d : Dv) (h : Ref w r G d) (p : Int) :
    Calls Tryz.prog 14 #[dp r, .int .i64 p] w fun e w' => ∃ a n cap, e = .returned (.tuple #[.slice a n cap, .int .i64 (readR d p).1]) ∧ Sl w' (.slice a n cap) (readR d p).2 ∧ Below w.heap.size w w' := by
  unfold readR
  by_cases hp : 0 ≤ p ∧ p < d.st.length
  · rw [if_pos hp]
    cases hoff : d.off with
    | true =>
      refine (refRead_off w r G d p h hp hoff).mono ?_
      rintro e w' ⟨rfl, rfl⟩
      exact ⟨_, _, _, rfl, Sl.nil _, Below.refl _ _⟩
    | false =>
      obtain ⟨P, rfl⟩ : ∃ P : Nat, p = (P : Int) := ⟨p.toNat, by omega⟩
      refine (refRead_ok w r G d P h (by omega) hoff).mono ?_
      rintro e w' ⟨⟨ao, cap, rfl, hS, _⟩, hb⟩
      refine ⟨_, _, _, rfl, ?_, hb⟩
      simp only [Bool.false_eq_true, if_false, Int.toNat_natCast]
      exact hS
  · rw [if_neg hp]
    refine (refRead_arg w r G d p h hp).mono ?_
    rintro e w' ⟨rfl, rfl⟩
    exact ⟨_, _, _, rfl, Sl.nil _, Below.refl _ _⟩

/-! ### facts within the long region -/
def isT (St : World → Prop) (x : Bool) : Value → World → Prop := fun v w => v = .bool x ∧ St w
def isO (St : World → Prop) (r : Nat) : Value → World → Prop := fun v w => (∃ z : Int, v = .int .i64 z) ∧ St w ∧ w.cell? ⟨r, 4, none⟩ = some v
def isD (r : Nat) : Value → World → Prop := fun v w => (∃ z : Int, v = .int .i64 z) ∧ w.cell? ⟨r, 4, none⟩ = some v
def isW (St : World → Prop) (r : Nat) : Value → World → Prop := fun v w => St w ∧ ∃ (a : Option Addr) (m cap : Nat), v = .int .i64 m ∧ w.cell? ⟨r, 1, none⟩ = some (.slice a m cap)
def isR (r : Nat) : Value → World → Prop := fun v w => ∃ (a : Option Addr) (m cap : Nat), v = .slice a m cap ∧ w.cell? ⟨r, 1, none⟩ = some (.slice a m cap)
def isL (r : Nat) : Value → World → Prop := fun v w => ∃ (a : Option Addr) (m cap : Nat), v = .int .i64 m ∧ w.cell? ⟨r, 1, none⟩ = some (.slice a m cap)
theorem cell_none {w w' : World} {p : Addr} {v : Value} (ho : Only (fun _ => False) w w') (h : w.cell? p = some v) : w'.cell? p = some v := by
  have hb := ho.below (Nat.le_refl _) (fun _ _ h => h)
  exact (hb.cell (World.block_lt_of_cell? w _ h)).trans h
theorem stT {St : World → Prop} (hS : ∀ w w', Only (fun _ => False) w w' → St w → St w') : (∀ x, StS (fun _ => False) (isT St x)) ∧ (∀ r, StS (fun _ => False) (isO St r)) ∧ (∀ r, StS (fun _ => False) (isD r)) ∧ (∀ r, StS (fun _ => False) (isW St r)) ∧ (∀ r, StS (fun _ => False) (isR r)) ∧ (∀ r, StS (fun _ => False) (isL r)) := by
  refine ⟨fun x v w w' ho h => ⟨h.1, hS w w' ho h.2⟩, fun r v w w' ho h => ⟨h.1, hS w w' ho h.2.1, cell_none ho h.2.2⟩, fun r v w w' ho h => ⟨h.1, cell_none ho h.2⟩, ?_, ?_, ?_⟩
  · rintro r v w w' ho ⟨h1, a, m, cap, h2, h3⟩
    exact ⟨hS w w' ho h1, a, m, cap, h2, cell_none ho h3⟩
  · rintro r v w w' ho ⟨a, m, cap, h2, h3⟩
    exact ⟨a, m, cap, h2, cell_none ho h3⟩
  · rintro r v w w' ho ⟨a, m, cap, h2, h3⟩
    exact ⟨a, m, cap, h2, cell_none ho h3⟩

theorem dev_below {w w' : World} {b : Nat} {F : Nat → Prop} {d : Dv} (h : Dev w b F d) (hb : Below w.heap.size w w') : Dev w' b F d := h.keep (Only.of_below (fun _ => False) hb) (fun _ _ h => h)
theorem dep_no {ops : Array Oper} {S : Nat → Prop} {p : Value → World → Prop} {k M : Nat} (h : depB ops k M = true) : k ≠ M → depB ops k M = false → StS S p := fun _ h' => by rw [h] at h'; cases h'
section
variable {w0 w : World} {Q : Nat → Prop} {c b cr r n : Nat} {ch : Ch} {d : Dv}
theorem two_read (h : Two5 w0 Q w c b cr r n ch d) (p : Int) :
    Calls Tryz.prog 13 #[dp b, .int .i64 p] w fun e w' => ∃ a n cap, e = .returned (.tuple #[.slice a n cap, .int .i64 (readR d p).1]) ∧ Sl w' (.slice a n cap) (readR d p).2 ∧ Below w.heap.size w w' := by
  obtain ⟨K, h1, _⟩ := h
  obtain ⟨H, G, _, hD, _⟩ := h1
  exact read_all w b G d hD p
theorem two_refRead (h : Two5 w0 Q w c b cr r n ch d) (p : Int) :
    Calls Tryz.prog 14 #[dp r, .int .i64 p] w fun e w' => ∃ a n cap, e = .returned (.tuple #[.slice a n cap, .int .i64 (readR d p).1]) ∧ Sl w' (.slice a n cap) (readR d p).2 ∧ Below w.heap.size w w' := by
  obtain ⟨K, _, h2, _⟩ := h
  obtain ⟨G, hR, _⟩ := refC_devs h2
  exact refRead_all w r G d hR p
theorem two_ops (h : Two5 w0 Q w c b cr r n ch d) : ∃ dn : Nat, Calls Tryz.prog 11 #[dp b] w (fun e w' => e = .returned (.int .i64 dn) ∧ w' = w) ∧ w.cell? ⟨r, 4, none⟩ = some (.int .i64 dn) := by
  obtain ⟨K, h1, h2, _⟩ := h
  obtain ⟨H, G, _, hD, _⟩ := h1
  exact ⟨d.done, ops_any w b G d hD, (refC_reads h2).2.2.2.2.2⟩
theorem two_waits (h : Two5 w0 Q w c b cr r n ch d) : ∃ (a : Option Addr) (m cap : Nat), Calls Tryz.prog 12 #[dp b] w (fun e w' => e = .returned (.int .i64 m) ∧ w' = w) ∧ w.cell? ⟨r, 1, none⟩ = some (.slice a m cap) := by
  obtain ⟨K, h1, h2, _⟩ := h
  obtain ⟨H, G, _, hD, _⟩ := h1
  obtain ⟨a, cap, e⟩ := (refC_reads h2).2.2.2.2.1
  exact ⟨a, d.ws.length, cap, waits_any w b G d hD, e⟩
end

theorem two_new {W w1 w2 w3 w4 w5 : World} {b r c cr N : Nat} (hN1 : 2 ≤ N) (hN2 : N ≤ 64) (hb1 : Below W.heap.size W w1) (hb2 : Below w1.heap.size w1 w2) (hb3 : Below w2.heap.size w2 w3) (hr : Ref w3 r (fun k => w2.heap.size ≤ k) (newD 8))
    (hd : Duos W No (fun k => w2.heap.size ≤ k ∧ k < w3.heap.size) w4 c b (newC N) (newD 8)) (hb4 : Below w3.heap.size w3 w4) (hR : RefC w5 cr r (fun k => (w2.heap.size ≤ k ∧ k < w3.heap.size) ∨ w4.heap.size ≤ k) (newC N) (newD 8)) (hb5 : Below w4.heap.size w4 w5) : Two5 W No w5 c b cr r 0 (newC N) (newD 8) := by
  have s1 := hb1.size
  have s2 := hb2.size
  have s3 := hb3.size
  have s4 := hb4.size
  refine ⟨fun k => ((w2.heap.size ≤ k ∧ k < w3.heap.size) ∨ w4.heap.size ≤ k) ∧ k < w5.heap.size, (hd.grow hb5).less (fun k hk => ?_), hR.bound, fun k hk => ⟨?_, fun h => h⟩, ⟨Nat.le_refl _, Nat.le_refl _, (fun x hx => by cases hx), Nat.le_refl _, Nat.le_refl _⟩⟩
  · rcases hk with ⟨hk | hk, hl⟩ | hk
    · exact .inl hk
    · exact .inr ⟨hk, hl⟩
    · exact hk.elim
  · rcases hk.1 with h | h
    · omega
    · omega

set_option maxHeartbeats 4000000 in
theorem cacheDoes_walk (W : World) (size : Int) (v : Value) (os : List Oc) (hz : (Lit.int .i64 size).wf = true) (hs : Scr W v os) :
    Calls Tryz.prog 3 #[.int .i64 size, v] W fun e w' => e = .returned (.bool true) ∧ Below W.heap.size W w' := by
  have HN := hide (new_ok W 8 (by omega) (by omega))
  have HRN : Hid (∀ wx : World, Calls Tryz.prog 6 #[.int .i64 8] wx fun e w' => (∃ r, e = .returned (.tuple #[dp r, .int .i64 0]) ∧ Ref w' r (fun k => wx.heap.size ≤ k) (newD 8)) ∧ Below wx.heap.size wx w') := fun wx => refNew_ok wx 8 (by omega) (by omega)
  by_cases hsz : size < 2 ∨ 64 < size
  · have HC : Hid (∀ (w1 : World) (b : Nat) (G : Nat → Prop), Dev w1 b G (newD 8) → Calls Tryz.prog 7 #[dp b, .int .i64 size] w1 _) := fun w1 b G hd => cnew_bad w1 b G (newD 8) hd size hsz
    have HRC : Hid (∀ (w1 : World) (r : Nat), Calls Tryz.prog 8 #[dp r, .int .i64 size] w1 _) := fun w1 r => refCNew_bad w1 r size hsz
    clear hz hs hsz
    go_enter Tryz.func3, Tryz.ntmps3
    go_wp2_with (first
      | (go_at_call 4; refine HN.out.mono ?_; rintro e w1 ⟨b, rfl, hd1, hb1⟩; have HD1 := hide hd1; have HB1 := hide hb1; clear HN hd1 hb1)
      | (go_at_call 5; refine (live5_any w1).mono ?_; rintro e w2 ⟨rfl, hb2⟩; have HD2 := hide (dev_below HD1.out hb2); have HB2 := hide (below_then HB1.out hb2 (Nat.le_refl _)); clear HD1 HB1 hb2)
      | (go_at_call 6; refine (HRN.out w2).mono ?_; rintro e w3 ⟨⟨r, rfl, hr3⟩, hb3⟩; have HD3 := hide (dev_below HD2.out hb3); have HB3 := hide (below_then HB2.out hb3 (Nat.le_refl _)); clear HRN HD2 HB2 hr3 hb3)
      | (go_at_call 7; refine (HC.out w3 b _ HD3.out).mono ?_; rintro e wz ⟨rfl, hw⟩; subst wz; clear HC)
      | (go_at_call 8; refine (HRC.out w3 r).mono ?_; rintro e wz ⟨rfl, hw⟩; subst wz; clear HRC))
    go_ret
    exact ⟨rfl, HB3.out⟩
  · obtain ⟨N, rfl⟩ : ∃ N : Nat, size = (N : Int) := ⟨size.toNat, by omega⟩
    have hN1 : 2 ≤ N := by omega
    have hN2 : N ≤ 64 := by omega
    have HC : Hid (∀ (w1 : World) (w2 : World) (w3 : World) (b : Nat), Below W.heap.size W w1 → Below w1.heap.size w1 w2 → Below w2.heap.size w2 w3 → Dev w1 b (fun k => W.heap.size ≤ k) (newD 8) → Calls Tryz.prog 7 #[dp b, .int .i64 N] w3 fun e w' => ∃ c, e = .returned (.tuple #[dp c, .int .i64 0]) ∧ Duos W No (fun k => w2.heap.size ≤ k ∧ k < w3.heap.size) w' c b (newC N) (newD 8) ∧ Below w3.heap.size w3 w') := fun w1 w2 w3 b h1 h2 h3 hd =>
      cnew_ok W w3 No _ b (fun k => W.heap.size ≤ k ∧ k < w1.heap.size) (newD 8) (dev_below (dev_below hd.bound h2) h3) (fun k hk => ⟨.inr hk.1, fun hx => by have := h2.size; omega⟩) (fun k hk => hk.2) (Only.of_below _ (below_then (below_then h1 h2 (Nat.le_refl _)) h3 (Nat.le_refl _))) N hN1 hN2
    have HRC : Hid (∀ (w2 w3 w4 : World) (r : Nat), Ref w3 r (fun k => w2.heap.size ≤ k) (newD 8) → Below w3.heap.size w3 w4 → Calls Tryz.prog 8 #[dp r, .int .i64 N] w4 fun e w' => ∃ c, e = .returned (.tuple #[dp c, .int .i64 0]) ∧ RefC w' c r (fun k => (w2.heap.size ≤ k ∧ k < w3.heap.size) ∨ w4.heap.size ≤ k) (newC N) (newD 8) ∧ Below w4.heap.size w4 w') := fun w2 w3 w4 r hr hb => refCNew_ok w4 r _ (newD 8) (hr.bound.below hb) N hN1 hN2
    obtain ⟨ao, cap, rfl, hc1, hc2⟩ := hs.form
    have HS := hide hs
    obtain ⟨m, hm⟩ : ∃ m : Nat, min (os.length : Int) 50 = (m : Int) := ⟨(min (os.length : Int) 50).toNat, by omega⟩
    have hm1 : m ≤ os.length := by omega
    have hm2 : m ≤ 50 := by omega
    have hm3 : max (m : Int) 0 = (m : Int) := by omega
    have hza := zeroOcRun
    have HN12 : Hid (2 ≤ N ∧ N ≤ 64) := ⟨hN1, hN2⟩
    clear hz hs hsz hN1 hN2
    go_enter Tryz.func3, Tryz.ntmps3
    go_wp2_with (first
      | (go_at_call 4; refine HN.out.mono ?_; rintro e w1 ⟨b, rfl, hd1, hb1⟩; have HD1 := hide hd1; have HB1 := hide hb1; clear HN hd1 hb1)
      | (go_at_call 5; refine (live5_any w1).mono ?_; rintro e w2 ⟨rfl, hb2⟩; have HB2 := hide hb2; clear hb2)
      | (go_at_call 6; refine (HRN.out w2).mono ?_; rintro e w3 ⟨⟨r, rfl, hr3⟩, hb3⟩; have HR3 := hide hr3; have HB3 := hide hb3; clear HRN hr3 hb3)
      | (go_at_call 7; refine (HC.out w1 w2 w3 b HB1.out HB2.out HB3.out HD1.out).mono ?_; rintro e w4 ⟨c, rfl, hd4, hb4⟩; have HD4 := hide hd4; have HB4 := hide hb4; clear HC HD1 hd4 hb4)
      | (go_at_call 8; refine (HRC.out w2 w3 w4 r HR3.out HB4.out).mono ?_; rintro e w5 ⟨cr, rfl, hr5, hb5⟩; have HTW := hide (two_new HN12.out.1 HN12.out.2 HB1.out HB2.out HB3.out HR3.out HD4.out HB4.out hr5 hb5); clear HRC HR3 HB1 HB2 HB3 HD4 HB4 hr5 hb5))
    go_loopg [14, 15, 16, 17, 18, 67] m (fun g s14 s15 s16 s17 s18 i wr => ∃ (k : Nat) (ch : Ch) (d : Dv), g + k = m ∧ i = .int .i64 k ∧ Two5 W No wr c b cr r (100 * k) ch d)
    case atStart => exact ⟨0, _, _, by omega, rfl, HTW.out⟩
    case round =>
      obtain ⟨k, ch, d, hgk, rfl, htw⟩ := hrel
      have hOn : Below W.heap.size W wr := by obtain ⟨K, h1, _⟩ := htw; exact h1.only.below (Nat.le_refl _) (fun _ _ h => h)
      clear HTW
      by_cases hk : k < m
      · have hki : (k : Int) < (m : Int) := by omega
        have hs := HS.out.below hOn
        have hop := hs.op (i := k) (by omega)
        obtain ⟨g, off, hao, hgl, hr⟩ := hs.at (i := k) (by omega)
        subst hao
        obtain ⟨o, ho⟩ : ∃ o, ocAt os k = o := ⟨_, rfl⟩
        rw [ho] at hop hr
        obtain ⟨z1, z2, z3, z4⟩ := oc_facts o
        have HR := hide hr
        have HZ1 := hide z1
        have HZ2 := hide z2
        have HZ3 := hide z3
        have HZ4 := hide z4
        have hN := Blk.new wr 38 (occ o)
        have hbA : Below wr.heap.size wr (wr.alloc (.cells (occ o).toArray 38)) := (Below.refl _ wr).alloc (Nat.le_refl _) _
        have hsA : (wr.alloc (.cells (occ o).toArray 38)).heap.size = wr.heap.size + 1 := by simp
        have hA : Two5 W (· = wr.heap.size) (wr.alloc (.cells (occ o).toArray 38)) c b cr r (100 * k) ch d := two_less (two_below htw hbA) (fun j e => .inr (by rw [hsA]; have : j = wr.heap.size := e; omega))
        obtain ⟨B, hBe⟩ : ∃ B : Nat → Prop, B = fun j => W.heap.size ≤ j ∧ j ≠ wr.heap.size := ⟨_, rfl⟩
        obtain ⟨St, hSt⟩ : ∃ St : World → Prop, St = fun wz => ∃ ch d, Two5 W (· = wr.heap.size) wz c b cr r (100 * k + 100) ch d := ⟨_, rfl⟩
        have HQB : Hid (∀ wx, Only B (wr.alloc (.cells (occ o).toArray 38)) wx → Blk wx wr.heap.size 38 (occ o)) := fun wx hx => hN.only hx (fun h => by rw [hBe] at h; exact h.2 rfl)
        have HDO : Hid (∀ wx, Only (fun _ => False) (wr.alloc (.cells (occ o).toArray 38)) wx → Calls Tryz.prog 9 #[dp c, dp b, dp cr, .agg (occ o).toArray] wx fun e wy => e = .returned (.bool true) ∧ St wy ∧ Only B wx wy) := fun wx hx => by
          refine (does_any W wx _ c b cr r (100 * k) ch d o (two_only hA hx) hop (by omega)).mono ?_
          rintro e wy ⟨rfl, h1, h2⟩
          refine ⟨rfl, by rw [hSt]; exact h1, Only.mono h2 (fun j _ hj => ?_)⟩
          rw [hBe]
          exact ⟨hj.1.elim (fun h => h.elim) id, hj.2⟩
        have HSS : Hid (∀ wx wy, Only (fun _ => False) wx wy → St wx → St wy) := fun wx wy hx h => by
          rw [hSt] at h ⊢
          obtain ⟨ch, d, h⟩ := h
          exact ⟨ch, d, two_only h hx⟩
        have HSA : Hid (∀ wx, St wx → Calls Tryz.prog 10 #[dp c, dp cr, .int .i64 o.p] wx fun e wy => e = .returned (.bool true) ∧ St wy ∧ Below wx.heap.size wx wy) := fun wx h => by
          have h' := h
          rw [hSt] at h'
          obtain ⟨ch, d, h'⟩ := h'
          refine (same_any W wx _ c b cr r _ ch d h' (by omega) o.p hop.hp).mono ?_
          rintro e wy ⟨rfl, hb⟩
          exact ⟨rfl, HSS.out wx wy (Only.of_below _ hb) h, hb⟩
        have HOP : Hid (∀ wx, St wx → ∃ dn : Nat, Calls Tryz.prog 11 #[dp b] wx (fun e w' => e = .returned (.int .i64 dn) ∧ w' = wx) ∧ wx.cell? ⟨r, 4, none⟩ = some (.int .i64 dn)) := fun wx h => by
          rw [hSt] at h
          obtain ⟨ch, d, h⟩ := h
          exact two_ops h
        have HWA : Hid (∀ wx, St wx → ∃ (a : Option Addr) (m cap : Nat), Calls Tryz.prog 12 #[dp b] wx (fun e w' => e = .returned (.int .i64 m) ∧ w' = wx) ∧ wx.cell? ⟨r, 1, none⟩ = some (.slice a m cap)) := fun wx h => by
          rw [hSt] at h
          obtain ⟨ch, d, h⟩ := h
          exact two_waits h
        have HEx : Hid (∀ wx, St wx → ∃ ch d, Two5 W No wx c b cr r (100 * (k + 1)) ch d) := fun wx h => by
          rw [hSt] at h
          obtain ⟨ch, d, h⟩ := h
          exact ⟨ch, d, two_few (two_less h (fun _ h => h.elim)) (by omega)⟩
        clear hs hop ho hr z1 z2 z3 z4 hN hbA hsA hA hBe hSt htw hOn
        go_wp2_with (first
          | ((with_reducible refine wpList_load_mid rfl 38 (.tmp 69) rfl g (off + k * 4) ?_ (occ o) _ HR.out Tryz.underlying38 rfl HZ1.out ?_); exact rfl)
          | ((with_reducible refine wpList_store_new rfl 38 (.tmp 14) (.tmp 70) rfl ocZero (occ o).toArray 38 ?_ ?_ HZ3.out HZ2.out HZ4.out ?_); exact rfl; exact rfl))
        refine wp_region_dep B [isV (.pointer (some ⟨c, 0, none⟩)), isV (.pointer (some ⟨b, 0, none⟩)), isV (.pointer (some ⟨cr, 0, none⟩)), isV (.agg (occ o).toArray), isT St true, isT St false, isT St false, isV (.pointer (some ⟨c, 0, none⟩)), isV (.pointer (some ⟨cr, 0, none⟩)), isV (.pointer (some ⟨wr.heap.size, 1, none⟩)), isV (.int .i64 o.p), isT St true, isT St false, isT St false, isT St false, isV (.pointer (some ⟨b, 0, none⟩)), isO St r, isV (.pointer (some ⟨r, 0, none⟩)), isV (.pointer (some ⟨r, 0, none⟩)), isV (.pointer (some ⟨r, 4, none⟩)), isD r, isT St false, isT St false, isT St false, isV (.pointer (some ⟨b, 0, none⟩)), isW St r, isV (.pointer (some ⟨r, 0, none⟩)), isV (.pointer (some ⟨r, 0, none⟩)), isV (.pointer (some ⟨r, 1, none⟩)), isR r, isL r, isT St false] 4 128 32 (by kernel_rfl) (by kernel_rfl) (by kernel_rfl) (by kernel_rfl) rfl ?_ ?_ ?_
        · refine allStT_isV ?_
          refine allStT_isV ?_
          refine allStT_isV ?_
          refine allStT_isV ?_
          refine ⟨⟨(stT HSS.out).1 _, fun h => absurd rfl h⟩, ?_⟩
          refine ⟨⟨(stT HSS.out).1 _, dep_no (by kernel_rfl)⟩, ?_⟩
          refine ⟨⟨(stT HSS.out).1 _, dep_no (by kernel_rfl)⟩, ?_⟩
          refine allStT_isV ?_
          refine allStT_isV ?_
          refine allStT_isV ?_
          refine allStT_isV ?_
          refine ⟨⟨(stT HSS.out).1 _, dep_no (by kernel_rfl)⟩, ?_⟩
          refine ⟨⟨(stT HSS.out).1 _, dep_no (by kernel_rfl)⟩, ?_⟩
          refine ⟨⟨(stT HSS.out).1 _, dep_no (by kernel_rfl)⟩, ?_⟩
          refine ⟨⟨(stT HSS.out).1 _, dep_no (by kernel_rfl)⟩, ?_⟩
          refine allStT_isV ?_
          refine ⟨⟨(stT HSS.out).2.1 _, dep_no (by kernel_rfl)⟩, ?_⟩
          refine allStT_isV ?_
          refine allStT_isV ?_
          refine allStT_isV ?_
          refine ⟨⟨(stT HSS.out).2.2.1 _, dep_no (by kernel_rfl)⟩, ?_⟩
          refine ⟨⟨(stT HSS.out).1 _, dep_no (by kernel_rfl)⟩, ?_⟩
          refine ⟨⟨(stT HSS.out).1 _, dep_no (by kernel_rfl)⟩, ?_⟩
          refine ⟨⟨(stT HSS.out).1 _, dep_no (by kernel_rfl)⟩, ?_⟩
          refine allStT_isV ?_
          refine ⟨⟨(stT HSS.out).2.2.2.1 _, dep_no (by kernel_rfl)⟩, ?_⟩
          refine allStT_isV ?_
          refine allStT_isV ?_
          refine allStT_isV ?_
          refine ⟨⟨(stT HSS.out).2.2.2.2.1 _, dep_no (by kernel_rfl)⟩, ?_⟩
          refine ⟨⟨(stT HSS.out).2.2.2.2.2 _, dep_no (by kernel_rfl)⟩, ?_⟩
          refine ⟨⟨(stT HSS.out).1 _, dep_no (by kernel_rfl)⟩, ?_⟩
          exact trivial
        · refine ⟨?_, ?_, ?_, ?_, ?_, ?_, ?_, ?_, ?_, ?_, ?_, ?_, ?_, ?_, ?_, ?_, ?_, ?_, ?_, ?_, ?_, ?_, ?_, ?_, ?_, ?_, ?_, ?_, ?_, ?_, ?_, ?_, trivial⟩
          · intro a wx h
            have e9 : a.eval (.tmp 9) = .pointer (some ⟨c, 0, none⟩) := h.old 9 (by kernel_rfl)
            have hrel := h.rel
            clear h
            refine gives_by rfl a.eval rfl ?_
            generalize a.eval = ρ at *
            intro hf hc
            go_simp
            exact ⟨Only.refl _ _, rfl⟩
          · intro a wx h
            have e5 : a.eval (.tmp 5) = .pointer (some ⟨b, 0, none⟩) := h.old 5 (by kernel_rfl)
            have hrel := h.rel
            clear h
            refine gives_by rfl a.eval rfl ?_
            generalize a.eval = ρ at *
            intro hf hc
            go_simp
            exact ⟨Only.refl _ _, rfl⟩
          · intro a wx h
            have e11 : a.eval (.tmp 11) = .pointer (some ⟨cr, 0, none⟩) := h.old 11 (by kernel_rfl)
            have hrel := h.rel
            clear h
            refine gives_by rfl a.eval rfl ?_
            generalize a.eval = ρ at *
            intro hf hc
            go_simp
            exact ⟨Only.refl _ _, rfl⟩
          · intro a wx h
            have e14 : a.eval (.tmp 14) = .pointer (some ⟨wr.heap.size, 0, none⟩) := h.old 14 (by kernel_rfl)
            have hrel := h.rel
            clear h
            exact gives_of_run rfl (exec_load_mid 38 (.tmp 14) rfl wr.heap.size 0 e14 (occ o) _ ((HQB.out wx hrel).range 0 _ (fun j _ => by rw [Nat.zero_add])) Tryz.underlying38 rfl HZ1.out) ⟨Only.refl _ _, rfl⟩
          · intro a wx h
            obtain ⟨v71, e71, f71⟩ := h.val 0 71 (by kernel_rfl)
            obtain rfl : v71 = .pointer (some ⟨c, 0, none⟩) := f71
            obtain ⟨v72, e72, f72⟩ := h.val 1 72 (by kernel_rfl)
            obtain rfl : v72 = .pointer (some ⟨b, 0, none⟩) := f72
            obtain ⟨v73, e73, f73⟩ := h.val 2 73 (by kernel_rfl)
            obtain rfl : v73 = .pointer (some ⟨cr, 0, none⟩) := f73
            obtain ⟨v74, e74, f74⟩ := h.val 3 74 (by kernel_rfl)
            obtain rfl : v74 = .agg (occ o).toArray := f74
            have hrel := h.rel
            have hq := h.relq.mono (T := fun _ => False) (fun _ _ hh => hh.1 rfl)
            clear h
            refine gives_by rfl a.eval rfl ?_
            generalize a.eval = ρ at *
            intro hf hc
            go_simp
            refine (HDO.out wx hq).mono ?_
            rintro e wy ⟨rfl, hs, ht⟩
            exact ⟨_, rfl, ht, rfl, hs⟩
          · intro a wx h
            obtain ⟨v75, e75, f75⟩ := h.val 4 75 (by kernel_rfl)
            obtain ⟨rfl, hst⟩ := f75
            have hrel := h.rel
            clear h
            refine gives_by rfl a.eval rfl ?_
            generalize a.eval = ρ at *
            intro hf hc
            go_simp
            exact ⟨Only.refl _ _, rfl, hst⟩
          · intro a wx h
            obtain ⟨v76, e76, f76⟩ := h.val 5 76 (by kernel_rfl)
            obtain ⟨rfl, hst⟩ := f76
            have hrel := h.rel
            clear h
            refine gives_by rfl a.eval rfl ?_
            generalize a.eval = ρ at *
            intro hf hc
            go_simp
            exact ⟨Only.refl _ _, rfl, hst⟩
          · intro a wx h
            have e9 : a.eval (.tmp 9) = .pointer (some ⟨c, 0, none⟩) := h.old 9 (by kernel_rfl)
            have hg := h.guard 6 77 (by kernel_rfl) false (fun v hv => hv.1)
            have hrel := h.rel
            clear h
            refine gives_by (by simp only [Region.wanted, hg]; rfl) a.eval rfl ?_
            generalize a.eval = ρ at *
            intro hf hc
            go_simp
            exact ⟨Only.refl _ _, rfl⟩
          · intro a wx h
            have e11 : a.eval (.tmp 11) = .pointer (some ⟨cr, 0, none⟩) := h.old 11 (by kernel_rfl)
            have hg := h.guard 6 77 (by kernel_rfl) false (fun v hv => hv.1)
            have hrel := h.rel
            clear h
            refine gives_by (by simp only [Region.wanted, hg]; rfl) a.eval rfl ?_
            generalize a.eval = ρ at *
            intro hf hc
            go_simp
            exact ⟨Only.refl _ _, rfl⟩
          · intro a wx h
            have e14 : a.eval (.tmp 14) = .pointer (some ⟨wr.heap.size, 0, none⟩) := h.old 14 (by kernel_rfl)
            have hg := h.guard 6 77 (by kernel_rfl) false (fun v hv => hv.1)
            have hrel := h.rel
            clear h
            refine gives_by (by simp only [Region.wanted, hg]; rfl) a.eval rfl ?_
            generalize a.eval = ρ at *
            intro hf hc
            go_simp
            exact ⟨Only.refl _ _, rfl⟩
          · intro a wx h
            obtain ⟨v80, e80, f80⟩ := h.val 9 80 (by kernel_rfl)
            obtain rfl : v80 = .pointer (some ⟨wr.heap.size, 1, none⟩) := f80
            have hg := h.guard 6 77 (by kernel_rfl) false (fun v hv => hv.1)
            have hrel := h.rel
            clear h
            have cx : wx.cell? ⟨wr.heap.size, 1, none⟩ = some (.int .i64 o.p) := (HQB.out wx hrel).cell 1
            refine gives_by (by simp only [Region.wanted, hg]; rfl) a.eval rfl ?_
            generalize a.eval = ρ at *
            intro hf hc
            go_simp
            exact ⟨Only.refl _ _, rfl⟩
          · intro a wx h
            obtain ⟨v78, e78, f78⟩ := h.val 7 78 (by kernel_rfl)
            obtain rfl : v78 = .pointer (some ⟨c, 0, none⟩) := f78
            obtain ⟨v79, e79, f79⟩ := h.val 8 79 (by kernel_rfl)
            obtain rfl : v79 = .pointer (some ⟨cr, 0, none⟩) := f79
            obtain ⟨v81, e81, f81⟩ := h.val 10 81 (by kernel_rfl)
            obtain rfl : v81 = .int .i64 o.p := f81
            have hg := h.guard 6 77 (by kernel_rfl) false (fun v hv => hv.1)
            have hrel := h.rel
            obtain ⟨vg, eg, fg⟩ := h.val 6 77 (by kernel_rfl)
            have hst := fg.2
            clear eg fg
            clear h
            refine gives_by (by simp only [Region.wanted, hg]; rfl) a.eval rfl ?_
            generalize a.eval = ρ at *
            intro hf hc
            go_simp
            refine (HSA.out wx hst).mono ?_
            rintro e wy ⟨rfl, hs, hb⟩
            exact ⟨_, rfl, Only.of_below _ hb, rfl, hs⟩
          · intro a wx h
            obtain ⟨v82, e82, f82⟩ := h.val 11 82 (by kernel_rfl)
            obtain ⟨rfl, hst⟩ := f82
            have hg := h.guard 6 77 (by kernel_rfl) false (fun v hv => hv.1)
            have hrel := h.rel
            clear h
            refine gives_by (by simp only [Region.wanted, hg]; rfl) a.eval rfl ?_
            generalize a.eval = ρ at *
            intro hf hc
            go_simp
            exact ⟨Only.refl _ _, rfl, hst⟩
          · intro a wx h
            obtain ⟨v77, e77, f77⟩ := h.val 6 77 (by kernel_rfl)
            obtain ⟨rfl, hst⟩ := f77
            obtain ⟨v83, e83, f83⟩ := h.val 12 83 (by kernel_rfl)
            obtain ⟨rfl, hst⟩ := f83
            have hrel := h.rel
            clear h
            refine gives_by rfl a.eval rfl ?_
            generalize a.eval = ρ at *
            intro hf hc
            go_simp
            exact ⟨Only.refl _ _, rfl, hst⟩
          · intro a wx h
            obtain ⟨v84, e84, f84⟩ := h.val 13 84 (by kernel_rfl)
            obtain ⟨rfl, hst⟩ := f84
            have hrel := h.rel
            clear h
            refine gives_by rfl a.eval rfl ?_
            generalize a.eval = ρ at *
            intro hf hc
            go_simp
            exact ⟨Only.refl _ _, rfl, hst⟩
          · intro a wx h
            have e5 : a.eval (.tmp 5) = .pointer (some ⟨b, 0, none⟩) := h.old 5 (by kernel_rfl)
            have hg := h.guard 14 85 (by kernel_rfl) false (fun v hv => hv.1)
            have hrel := h.rel
            clear h
            refine gives_by (by simp only [Region.wanted, hg]; rfl) a.eval rfl ?_
            generalize a.eval = ρ at *
            intro hf hc
            go_simp
            exact ⟨Only.refl _ _, rfl⟩
          · intro a wx h
            obtain ⟨v86, e86, f86⟩ := h.val 15 86 (by kernel_rfl)
            obtain rfl : v86 = .pointer (some ⟨b, 0, none⟩) := f86
            have hg := h.guard 14 85 (by kernel_rfl) false (fun v hv => hv.1)
            have hrel := h.rel
            obtain ⟨vg, eg, fg⟩ := h.val 14 85 (by kernel_rfl)
            have hst := fg.2
            clear eg fg
            clear h
            refine gives_by (by simp only [Region.wanted, hg]; rfl) a.eval rfl ?_
            generalize a.eval = ρ at *
            intro hf hc
            go_simp
            obtain ⟨dn, hcall, hcell⟩ := HOP.out wx hst
            refine hcall.mono ?_
            rintro e wy ⟨rfl, hw⟩
            subst wy
            exact ⟨_, rfl, Only.refl _ _, ⟨_, rfl⟩, hst, hcell⟩
          · intro a wx h
            have e7 : a.eval (.tmp 7) = .pointer (some ⟨r, 0, none⟩) := h.old 7 (by kernel_rfl)
            have hg := h.guard 14 85 (by kernel_rfl) false (fun v hv => hv.1)
            have hrel := h.rel
            clear h
            refine gives_by (by simp only [Region.wanted, hg]; rfl) a.eval rfl ?_
            generalize a.eval = ρ at *
            intro hf hc
            go_simp
            exact ⟨Only.refl _ _, rfl⟩
          · intro a wx h
            obtain ⟨v88, e88, f88⟩ := h.val 17 88 (by kernel_rfl)
            obtain rfl : v88 = .pointer (some ⟨r, 0, none⟩) := f88
            have hg := h.guard 14 85 (by kernel_rfl) false (fun v hv => hv.1)
            have hrel := h.rel
            clear h
            refine gives_by (by simp only [Region.wanted, hg]; rfl) a.eval rfl ?_
            generalize a.eval = ρ at *
            intro hf hc
            go_simp
            exact ⟨Only.refl _ _, rfl⟩
          · intro a wx h
            obtain ⟨v89, e89, f89⟩ := h.val 18 89 (by kernel_rfl)
            obtain rfl : v89 = .pointer (some ⟨r, 0, none⟩) := f89
            have hg := h.guard 14 85 (by kernel_rfl) false (fun v hv => hv.1)
            have hrel := h.rel
            clear h
            refine gives_by (by simp only [Region.wanted, hg]; rfl) a.eval rfl ?_
            generalize a.eval = ρ at *
            intro hf hc
            go_simp
            exact ⟨Only.refl _ _, rfl⟩
          · intro a wx h
            obtain ⟨v90, e90, f90⟩ := h.val 19 90 (by kernel_rfl)
            obtain rfl : v90 = .pointer (some ⟨r, 4, none⟩) := f90
            have hg := h.guard 14 85 (by kernel_rfl) false (fun v hv => hv.1)
            have hrel := h.rel
            obtain ⟨vg, eg, fg⟩ := h.val 14 85 (by kernel_rfl)
            have hst := fg.2
            clear eg fg
            obtain ⟨dn, _, hcell⟩ := HOP.out wx hst
            clear h
            refine gives_by (by simp only [Region.wanted, hg]; rfl) a.eval rfl ?_
            generalize a.eval = ρ at *
            intro hf hc
            go_simp
            exact ⟨Only.refl _ _, ⟨_, rfl⟩, hcell⟩
          · intro a wx h
            obtain ⟨v87, e87, f87⟩ := h.val 16 87 (by kernel_rfl)
            obtain ⟨⟨z1, rfl⟩, hst, hc1⟩ := f87
            obtain ⟨v91, e91, f91⟩ := h.val 20 91 (by kernel_rfl)
            obtain ⟨⟨z2, rfl⟩, hc2⟩ := f91
            have hg := h.guard 14 85 (by kernel_rfl) false (fun v hv => hv.1)
            have hrel := h.rel
            obtain rfl : z1 = z2 := by have := hc1.symm.trans hc2; simpa using this
            clear h
            refine gives_by (by simp only [Region.wanted, hg]; rfl) a.eval rfl ?_
            generalize a.eval = ρ at *
            intro hf hc
            go_simp
            exact ⟨Only.refl _ _, rfl, hst⟩
          · intro a wx h
            obtain ⟨v85, e85, f85⟩ := h.val 14 85 (by kernel_rfl)
            obtain ⟨rfl, hst⟩ := f85
            obtain ⟨v92, e92, f92⟩ := h.val 21 92 (by kernel_rfl)
            obtain ⟨rfl, hst⟩ := f92
            have hrel := h.rel
            clear h
            refine gives_by rfl a.eval rfl ?_
            generalize a.eval = ρ at *
            intro hf hc
            go_simp
            exact ⟨Only.refl _ _, rfl, hst⟩
          · intro a wx h
            obtain ⟨v93, e93, f93⟩ := h.val 22 93 (by kernel_rfl)
            obtain ⟨rfl, hst⟩ := f93
            have hrel := h.rel
            clear h
            refine gives_by rfl a.eval rfl ?_
            generalize a.eval = ρ at *
            intro hf hc
            go_simp
            exact ⟨Only.refl _ _, rfl, hst⟩
          · intro a wx h
            have e5 : a.eval (.tmp 5) = .pointer (some ⟨b, 0, none⟩) := h.old 5 (by kernel_rfl)
            have hg := h.guard 23 94 (by kernel_rfl) false (fun v hv => hv.1)
            have hrel := h.rel
            clear h
            refine gives_by (by simp only [Region.wanted, hg]; rfl) a.eval rfl ?_
            generalize a.eval = ρ at *
            intro hf hc
            go_simp
            exact ⟨Only.refl _ _, rfl⟩
          · intro a wx h
            obtain ⟨v95, e95, f95⟩ := h.val 24 95 (by kernel_rfl)
            obtain rfl : v95 = .pointer (some ⟨b, 0, none⟩) := f95
            have hg := h.guard 23 94 (by kernel_rfl) false (fun v hv => hv.1)
            have hrel := h.rel
            obtain ⟨vg, eg, fg⟩ := h.val 23 94 (by kernel_rfl)
            have hst := fg.2
            clear eg fg
            clear h
            refine gives_by (by simp only [Region.wanted, hg]; rfl) a.eval rfl ?_
            generalize a.eval = ρ at *
            intro hf hc
            go_simp
            obtain ⟨a1, m1, cap1, hcall, hcell⟩ := HWA.out wx hst
            refine hcall.mono ?_
            rintro e wy ⟨rfl, hw⟩
            subst wy
            exact ⟨_, rfl, Only.refl _ _, hst, a1, m1, cap1, rfl, hcell⟩
          · intro a wx h
            have e7 : a.eval (.tmp 7) = .pointer (some ⟨r, 0, none⟩) := h.old 7 (by kernel_rfl)
            have hg := h.guard 23 94 (by kernel_rfl) false (fun v hv => hv.1)
            have hrel := h.rel
            clear h
            refine gives_by (by simp only [Region.wanted, hg]; rfl) a.eval rfl ?_
            generalize a.eval = ρ at *
            intro hf hc
            go_simp
            exact ⟨Only.refl _ _, rfl⟩
          · intro a wx h
            obtain ⟨v97, e97, f97⟩ := h.val 26 97 (by kernel_rfl)
            obtain rfl : v97 = .pointer (some ⟨r, 0, none⟩) := f97
            have hg := h.guard 23 94 (by kernel_rfl) false (fun v hv => hv.1)
            have hrel := h.rel
            clear h
            refine gives_by (by simp only [Region.wanted, hg]; rfl) a.eval rfl ?_
            generalize a.eval = ρ at *
            intro hf hc
            go_simp
            exact ⟨Only.refl _ _, rfl⟩
          · intro a wx h
            obtain ⟨v98, e98, f98⟩ := h.val 27 98 (by kernel_rfl)
            obtain rfl : v98 = .pointer (some ⟨r, 0, none⟩) := f98
            have hg := h.guard 23 94 (by kernel_rfl) false (fun v hv => hv.1)
            have hrel := h.rel
            clear h
            refine gives_by (by simp only [Region.wanted, hg]; rfl) a.eval rfl ?_
            generalize a.eval = ρ at *
            intro hf hc
            go_simp
            exact ⟨Only.refl _ _, rfl⟩
          · intro a wx h
            obtain ⟨v99, e99, f99⟩ := h.val 28 99 (by kernel_rfl)
            obtain rfl : v99 = .pointer (some ⟨r, 1, none⟩) := f99
            have hg := h.guard 23 94 (by kernel_rfl) false (fun v hv => hv.1)
            have hrel := h.rel
            obtain ⟨vg, eg, fg⟩ := h.val 23 94 (by kernel_rfl)
            have hst := fg.2
            clear eg fg
            obtain ⟨a1, m1, cap1, _, hcell⟩ := HWA.out wx hst
            clear h
            refine gives_by (by simp only [Region.wanted, hg]; rfl) a.eval rfl ?_
            generalize a.eval = ρ at *
            intro hf hc
            go_simp
            exact ⟨Only.refl _ _, a1, m1, cap1, rfl, hcell⟩
          · intro a wx h
            obtain ⟨v100, e100, f100⟩ := h.val 29 100 (by kernel_rfl)
            obtain ⟨a2, m2, cap2, rfl, hc2⟩ := f100
            have hg := h.guard 23 94 (by kernel_rfl) false (fun v hv => hv.1)
            have hrel := h.rel
            clear h
            refine gives_by (by simp only [Region.wanted, hg]; rfl) a.eval rfl ?_
            generalize a.eval = ρ at *
            intro hf hc
            go_simp
            exact ⟨Only.refl _ _, a2, m2, cap2, rfl, hc2⟩
          · intro a wx h
            obtain ⟨v96, e96, f96⟩ := h.val 25 96 (by kernel_rfl)
            obtain ⟨hst, a1, m1, cap1, rfl, hc1⟩ := f96
            obtain ⟨v101, e101, f101⟩ := h.val 30 101 (by kernel_rfl)
            obtain ⟨a2, m2, cap2, rfl, hc2⟩ := f101
            have hg := h.guard 23 94 (by kernel_rfl) false (fun v hv => hv.1)
            have hrel := h.rel
            obtain rfl : m1 = m2 := by have := hc1.symm.trans hc2; simp only [Option.some.injEq, Value.slice.injEq] at this; exact this.2.1
            clear h
            refine gives_by (by simp only [Region.wanted, hg]; rfl) a.eval rfl ?_
            generalize a.eval = ρ at *
            intro hf hc
            go_simp
            exact ⟨Only.refl _ _, rfl, hst⟩
        · intro oL hoL vals w8 ho8 hv
          simp only [List.getElem?_toArray, List.getElem?_cons_succ, List.getElem?_cons_zero, Option.some.injEq] at hoL
          subst hoL
          have hv23 : isT St false (vals 23) w8 := hv 23 94 (by decide) (by kernel_rfl)
          have hv31 : isT St false (vals 31) w8 := hv 31 102 (by decide) (by kernel_rfl)
          clear hv
          generalize hact : putAll _ vals 0 _ = act
          obtain ⟨hv23, hs8⟩ := hv23
          obtain ⟨hv31, _⟩ := hv31
          obtain ⟨ch8, d8, ht8⟩ := HEx.out w8 hs8
          have c81 : w8.cell? ⟨wr.heap.size, 1, none⟩ = some (.int .i64 o.p) := (HQB.out w8 ho8).cell 1
          have HT8 := hide ht8
          clear ht8 hs8 ho8 HQB HDO HSS HSA HOP HWA HEx
          subst hact
          simp only [List.dropLast, putAll, Act.put, List.setIfInBounds_toArray, List.set_cons_zero, List.set_cons_succ, hv23, hv31, Nat.zero_add, Nat.reduceAdd]
          refine gives_of_run (v := .bool false) (w' := w8) rfl (by go_simp) ?_
          clear hv23 hv31
          obtain ⟨E, hE⟩ : ∃ E, (readR d8 o.p).1 = E := ⟨_, rfl⟩
          have HE := hide hE
          clear hE
          go_wp2_with (first
            | (go_at_call 13; refine (two_read HT8.out o.p).mono ?_; rw [HE.out]; rintro e w9 ⟨a9, n9, cap9, rfl, hs9, hb9⟩; have c91 := cell_none (Only.of_below _ hb9) c81; have HS9 := hide hs9; have HT9 := hide (two_only HT8.out (Only.of_below _ hb9)); clear hs9 hb9 HT8 c81)
            | (go_at_call 14; refine (two_refRead HT9.out o.p).mono ?_; rw [HE.out]; rintro e w10 ⟨a10, n10, cap10, rfl, hs10, hb10⟩; have HS10 := hide hs10; have HS11 := hide (HS9.out.below hb10); have HT10 := hide (two_only HT9.out (Only.of_below _ hb10)); clear hs10 hb10 HT9 HS9 c91)
            | (go_at_call 15; refine (refSame_any w10 _ _ _ _ HS11.out HS10.out).mono ?_; rw [decide_eq_true rfl]; rintro e w11 ⟨rfl, hb11⟩; have HT11 := hide (two_only HT10.out (Only.of_below _ hb11)); clear hb11 HT10 HS10 HS11))
          go_roundg (gk - 1)
          case measure => omega
          case rel => exact ⟨k + 1, _, _, by omega, by go_num, HT11.out⟩
      · have hkm : k = m := by omega
        subst hkm
        go_wp2
        go_ret
        exact ⟨rfl, hOn⟩

end Go.Proofs.YtoplhehcjgldeaaGreat
