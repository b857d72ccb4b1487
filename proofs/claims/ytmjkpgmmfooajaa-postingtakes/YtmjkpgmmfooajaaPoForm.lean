/- Contract: package posting's form: a posting's bytes. -/
import Derived.Test.YtmjkpgmmfooajaaPoChk
import Derived.Test.YtmjkpgmmfooajaaPoVar
namespace Go.Proofs.Ytmjkpgmmfooajaa
set_option maxRecDepth 20000
open Go.RowKit
set_option linter.unusedVariables false
set_option linter.unusedSimpArgs false

/-- bytes of the call's own, from block B on -/
def Ob (w0 : World) (B : Nat) (w : World) (v : Value) (XS : List Int) : Prop := w.ownsRow B 5 1 v XS.length (XS.map (Value.int .u8)) ∧ Below B w0 w ∧ B ≤ w.heap.size
theorem Ob.nil {w0 w : World} {B : Nat} (h : Below B w0 w) (hb : B ≤ w.heap.size) : Ob w0 B w nilS [] := ⟨own_nil w B _, h, hb⟩
theorem Ob.form {w0 w : World} {B : Nat} {v : Value} {XS : List Int} (h : Ob w0 B w v XS) : ∃ ao cap, v = .slice ao XS.length cap := by
  rcases h.1.2 with ⟨rfl, h0⟩ | ⟨g, cap, cur, rfl, _⟩
  · exact ⟨none, 0, by rw [h0]⟩
  · exact ⟨_, _, rfl⟩
theorem Ob.alloc {w0 w : World} {B : Nat} {v : Value} {XS : List Int} (h : Ob w0 B w v XS) (o : Obj) : Ob w0 B (w.alloc o) v XS := ⟨h.1.alloc o, h.2.1.alloc h.2.2 o, by have := h.2.2; simp; omega⟩
theorem Ob.below {w0 w w' : World} {B : Nat} {v : Value} {XS : List Int} (h : Ob w0 B w v XS) (hb : Below w.heap.size w w') : Ob w0 B w' v XS :=
  ⟨ownsRow_only h.1 (Only.of_below (fun _ => False) hb) (fun _ _ h => h), h.2.1.trans (hb.mono h.2.2), Nat.le_trans h.2.2 hb.size⟩
/-- bytes that are read behind bytes of the call's own -/
theorem Ob.append {w0 w : World} {B : Nat} {v : Value} {XS : List Int} (h : Ob w0 B w v XS) (ao : Option Addr) (m cap : Nat) (zs : List Int) (S : Sl w (.slice ao m cap) zs) (hl : XS.length + zs.length ≤ 1000000) :
    ∃ v' w', (Builtin.append_ #[23, 23] 23 #[v, .slice ao m cap]).run Try.prog w = .ok v' w' ∧ Ob w0 B w' v' (XS ++ zs) := by
  obtain ⟨i0, hi, hz0, hz1, hz2⟩ := info_parts infoU8
  obtain ⟨v', w', hr, h1, h2, _⟩ := run_append_sl (P := Try.prog) w B 23 23 5 i0 Try.underlying23 hi hz0 hz1 hz2 v XS.length (XS.map (Value.int .u8)) h.1 ao m cap zs S hl h.2.2
  refine ⟨v', w', hr, ?_, h.2.1.grown h2 h.2.2 (fun k hk => (World.ownsRow.lt h.1 k hk).1), Nat.le_trans h.2.2 h2.size⟩
  rw [List.length_append, List.map_append]
  exact h1

/-- a short number behind bytes of the call's own: the call, then the append -/
theorem varApp (w0 : World) (B : Nat) (w : World) (v : Value) (XS : List Int) (h : Ob w0 B w v XS) (hl : XS.length ≤ 500000) (x : Nat) (hx : x < 4294967296) (y : Int) (hy : y = (x : Int)) :
    Calls Try.prog 45 #[.slice none 0 0, .int .u32 y] w fun e w1 => ∃ ao m cap v' w2, e = .returned (.slice ao m cap) ∧
      (Builtin.append_ #[23, 23] 23 #[v, .slice ao m cap]).run Try.prog w1 = .ok v' w2 ∧ Ob w0 B w2 v' (XS ++ varBytes x) := by
  subst hy
  refine (packVar_any w nilS [] x (Sl.nil w) (by simp) hx).mono ?_
  rintro e w1 ⟨u, rfl, ho, hb, _⟩
  rw [List.nil_append] at ho
  obtain ⟨ao, m, cap, rfl⟩ := sl_form (sl_of_own_len ho (varBytes_ok x))
  have hv := (varLen_le5 hx).2
  unfold varLen at hv
  obtain ⟨v', w2, hr, hO⟩ := (h.below hb).append ao m cap (varBytes x) (sl_of_own_len ho (varBytes_ok x)) (by omega)
  exact ⟨ao, m, cap, v', w2, rfl, hr, hO⟩

/-- the position ahead -/
def prevL (zs : List Int) : Nat → Int
  | 0 => 0
  | k + 1 => zs.getD k 0
theorem deltas_step (zs : List Int) (k : Nat) (h : k < zs.length) : deltas (prevL zs k) (zs.drop k) = varBytes (zs.getD k 0 - prevL zs k).toNat ++ deltas (prevL zs (k + 1)) (zs.drop (k + 1)) := by
  rw [drop_cons zs k h, deltas]; rfl
theorem rises_get : ∀ (zs : List Int) (L : Int) (k : Nat), risesB L zs = true → k < zs.length → (k = 0 → L < zs.getD 0 0) ∧ (0 < k → zs.getD (k - 1) 0 < zs.getD k 0) ∧ zs.getD k 0 ≤ 1048576 ∧ L < zs.getD k 0
  | [], _, _, _, h => by simp at h
  | x :: xs, L, 0, h, _ => by
    simp only [risesB, Bool.and_eq_true, decide_eq_true_iff] at h
    exact ⟨fun _ => by simpa using h.1.1, fun h => by omega, by simpa using h.1.2, by simpa using h.1.1⟩
  | x :: xs, L, k + 1, h, hk => by
    simp only [risesB, Bool.and_eq_true, decide_eq_true_iff] at h
    have ih := rises_get xs x k h.2 (by simpa using hk)
    have e1 : (x :: xs).getD (k + 1) 0 = xs.getD k 0 := by simp
    rw [e1]
    refine ⟨fun h => by omega, fun _ => ?_, ih.2.2.1, by omega⟩
    by_cases hk0 : k = 0
    · subst hk0
      simpa using ih.1 rfl
    · have := ih.2.1 (by omega)
      rw [show k + 1 - 1 = (k - 1) + 1 by omega]
      simpa using this
theorem pos_get {zs : List Int} (h : risesB (-1) zs = true) {k : Nat} (hk : k < zs.length) : ∃ X L : Nat, zs.getD k 0 = (X : Int) ∧ prevL zs k = (L : Int) ∧ L ≤ X ∧ X ≤ 1048576 := by
  have h1 := rises_get zs (-1) k h hk
  cases k with
  | zero => exact ⟨(zs.getD 0 0).toNat, 0, by omega, rfl, by omega, by omega⟩
  | succ k =>
    have h2 := rises_get zs (-1) k h (by omega)
    have h3 := h1.2.1 (by omega)
    rw [show k + 1 - 1 = k by omega] at h3
    exact ⟨(zs.getD (k + 1) 0).toNat, (zs.getD k 0).toNat, by omega, by show zs.getD k 0 = _; omega, by omega, by omega⟩

set_option maxHeartbeats 1000000 in
theorem form_any (w : World) (prev : Nat) (v : Value) (p : Po) (h : PoV w v p) (hm : mayB prev p = true) :
    Calls Try.prog 31 #[.int .u32 (prev : Int), v] w fun e w' => ∃ u, e = .returned u ∧ w'.ownsRow w.heap.size 5 1 u (formP prev p).length ((formP prev p).map (Value.int .u8)) ∧ Below w.heap.size w w' := by
  obtain ⟨h0, u, rfl, hu⟩ := h
  obtain ⟨m1, m2, m3, m4, m5⟩ := may_parts hm
  have hFL := (form_len hm).2.1
  have HF : Hid (formP prev p = varBytes (p.doc - prev) ++ varBytes p.pos.length ++ deltas (prevL p.pos 0) (p.pos.drop 0)) := rfl
  generalize formP prev p = F at HF hFL ⊢
  obtain ⟨d, zs⟩ := p
  simp only at h0 hu HF m1 m2 m3 m4 m5 ⊢
  obtain ⟨w1, hw1⟩ : ∃ w1, w.alloc (.cells #[.int .u32 (d : Int), u] 34) = w1 := ⟨_, rfl⟩
  have hb1 : Below w.heap.size w w1 := by rw [← hw1]; exact (Below.refl _ w).alloc (Nat.le_refl _) _
  have hs1 : w1.heap.size = w.heap.size + 1 := by rw [← hw1]; simp
  have hu1 := hu.below hb1
  have hB1 : Blk w1 w.heap.size 34 [.int .u32 (d : Int), u] := by rw [← hw1]; exact Blk.new w _ _
  obtain ⟨ao, cap, rfl, hc1, hc2, hc3⟩ := hu1
  unfold maxLen at hc2
  obtain ⟨pb, po, rfl, hcc⟩ := hc3 (by intro e; rw [e] at m3; simp at m3)
  have HCC : Hid (∀ k, k < zs.length → ∀ W, Below w1.heap.size w1 W → W.cell? ⟨pb, po + k, none⟩ = some (.int .i64 (zs.getD k 0))) := fun k hk W hb => (hb.cell (p := ⟨pb, po + k, none⟩) (World.block_lt_of_cell? w1 _ (hcc k hk))).trans (hcc k hk)
  have HBX : Hid (∀ W, Below w1.heap.size w1 W → W.cell? ⟨w.heap.size, 0, none⟩ = some (.int .u32 (d : Int)) ∧ W.cell? ⟨w.heap.size, 1, none⟩ = some (.slice (some ⟨pb, po, none⟩) zs.length cap)) := fun W hb => by
    have := hB1.below hb hB1.lt
    exact ⟨this.cell 0, this.cell 1⟩
  obtain ⟨c0, c1⟩ := HBX.out w1 (Below.refl _ _)
  have HPG : Hid (∀ k, k < zs.length → ∃ X L : Nat, zs.getD k 0 = (X : Int) ∧ prevL zs k = (L : Int) ∧ L ≤ X ∧ X ≤ 1048576) := fun k hk => pos_get m5 hk
  have HDS : Hid (∀ k, k < zs.length → deltas (prevL zs k) (zs.drop k) = varBytes (zs.getD k 0 - prevL zs k).toNat ++ deltas (prevL zs (k + 1)) (zs.drop (k + 1))) := fun k hk => deltas_step zs k hk
  have HVA := hide (varApp w1 w1.heap.size)
  have HB1 := hide hb1
  have HS1 := hide hs1
  obtain ⟨n, hn⟩ : ∃ n, zs.length = n := ⟨_, rfl⟩
  rw [hn] at m3 m4 hc1 HF HCC HBX HPG HDS c1 hw1 ⊢
  have HN := hide hn
  have HV : Hid (∀ y : Int, y = ((d - prev : Nat) : Int) → Calls Try.prog 45 #[.slice none 0 0, .int .u32 y] w1 fun e w2 => ∃ a m c, e = .returned (.slice a m c) ∧ Ob w1 w1.heap.size w2 (.slice a m c) (varBytes (d - prev))) := fun y hy => by
    subst hy
    refine (packVar_any w1 nilS [] (d - prev) (Sl.nil w1) (by simp) (by omega)).mono ?_
    rintro e w2 ⟨u, rfl, ho, hb, _⟩
    rw [List.nil_append] at ho
    obtain ⟨a, m, c, rfl⟩ := sl_form (sl_of_own_len ho (varBytes_ok _))
    exact ⟨a, m, c, rfl, ho, hb, hb.size⟩
  have HL1 : Hid ((varBytes (d - prev)).length ≤ 5) := (varLen_le5 (v := d - prev) (by omega)).2
  have HL2 : Hid ((varBytes n).length ≤ 5) := (varLen_le5 (v := n) (by omega)).2
  have HOWN : Hid (∀ (w' : World) (u : Value) (xs : List Int), w'.ownsRow w1.heap.size 5 1 u xs.length (xs.map (Value.int .u8)) → w'.ownsRow w.heap.size 5 1 u xs.length (xs.map (Value.int .u8))) := fun w' u xs h => ownsRow_le' h (by omega)
  clear hb1 hu hB1 hcc hn hs1 hm m5 hc3
  have e1 : (n : Int) ≤ 2000 := by omega
  go_enter Try.func31, Try.ntmps31
  go_wp2_with (first
    | (go_at_call 45; refine (HV.out _ (by omega)).mono ?_; rintro e w2 ⟨a, m, c, rfl, hO⟩; have HO := hide hO; obtain ⟨d0, d1⟩ := HBX.out w2 hO.2.1; have HVB := hide (fun y hy => HVA.out w2 _ _ hO (by have := HL1.out; omega) n (by omega) y hy); clear HV hO hw1 c0 c1)
    | (go_at_call 45; refine (HVB.out _ (by omega)).mono ?_; rintro e w3 ⟨a3, m3', c3, v4, w4, rfl, hr, hO4⟩; have HR := hide hr; have HO4 := hide hO4; have hO4F := hO4.form; obtain ⟨d2, d3⟩ := HBX.out w4 hO4.2.1; clear HVB hr hO4 HO)
    | (at_builtin; (with_reducible refine wpList_append_run _ rfl (.tmp 14) (.tmp 19) 23 rfl _ _ ?_ ?_ _ _ HR.out ?_); exact rfl; exact rfl; clear HR d0 d1))
  clear d2 d3
  have HV4 := hide hO4F
  clear hO4F
  go_loopg [5, 6, 24] n (fun g bv lv i wr => ∃ (k : Nat) (L : Nat) (XS : List Int) (a : Option Addr) (c : Nat), g + k = n ∧ lv = .int .i64 (L : Int) ∧ i = .int .i64 (k : Int) ∧ prevL zs k = (L : Int) ∧ bv = .slice a XS.length c ∧ Ob w1 w1.heap.size wr bv XS ∧ F = XS ++ deltas (prevL zs k) (zs.drop k))
  case atStart =>
    obtain ⟨a, c, hv⟩ := HV4.out
    exact ⟨0, 0, _, a, c, by omega, rfl, rfl, rfl, hv, HO4.out, HF.out⟩
  case round =>
    obtain ⟨k, L, XS, a, c, hg, rfl, rfl, hL, rfl, hO, hFF⟩ := hrel
    have HO := hide hO
    have HFF := hide hFF
    clear hO hFF HV4 HO4 HF
    by_cases hk : k < n
    · obtain ⟨X, L', hX, hL', hLX, hX2⟩ := HPG.out k hk
      obtain rfl : L = L' := by omega
      have q := HCC.out k hk wr HO.out.2.1
      have hds := HDS.out k hk
      rw [hX] at q hds
      rw [hL, show (((X : Int) - (L : Int))).toNat = X - L by omega] at hds
      have hE : F = (XS ++ varBytes (X - L)) ++ deltas (prevL zs (k + 1)) (zs.drop (k + 1)) := by rw [HFF.out, hL, hds, List.append_assoc]
      have hXL : XS.length ≤ 10010 := by have := HFF.out; have := congrArg List.length this; rw [List.length_append] at this; omega
      have HX := hide hX
      have HE := hide hE
      have HVB := hide (fun y hy => HVA.out wr _ _ HO.out (by omega) (X - L) (by omega) y hy)
      clear hX hE hds hL hL' HFF
      go_wp2_with (first
        | (go_at_call 45; refine (HVB.out _ (by omega)).mono ?_; rintro e w3 ⟨a3, m3', c3, v4, w4, rfl, hr, hO4⟩; have HR := hide hr; have HO4 := hide hO4; have HV4 := hide hO4.form; clear HVB hr hO4)
        | (at_builtin; (with_reducible refine wpList_append_run _ rfl (.tmp 28) (.tmp 33) 23 rfl _ _ ?_ ?_ _ _ HR.out ?_); exact rfl; exact rfl; clear HR))
      go_roundg (gk - 1)
      case measure => omega
      case rel =>
        obtain ⟨a4, c4, hv⟩ := HV4.out
        exact ⟨k + 1, X, _, a4, c4, by omega, rfl, by go_num, HX.out, hv, HO4.out, HE.out⟩
    · go_wp2
      go_ret
      have hz : zs.drop k = [] := List.drop_eq_nil_of_le (by have := HN.out; omega)
      have hF : F = XS := by rw [HFF.out, hz, deltas, List.append_nil]
      rw [hF]
      exact ⟨_, rfl, HOWN.out _ _ _ HO.out.1, HB1.out.trans (HO.out.2.1.mono (by have := HS1.out; omega))⟩

end Go.Proofs.Ytmjkpgmmfooajaa
