/- Contract: what is read of a page's bytes (head.read). -/
import Derived.Test.YtmeiahmolmneeaaDoorHRow
namespace Go.Proofs.YtmeiahmolmneeaaDoor
set_option maxRecDepth 20000
open Go.RowKit
set_option linter.unusedVariables false

theorem read_k (w : World) (v : Value) (zs : List Int) (h : Sl w v zs) (hl : zs.length ≤ 100000) :
    Calls Tryd.prog 58 #[v] w fun e w' => ∃ b, e = .returned (.pointer (some ⟨b, 0, none⟩)) ∧ w.heap.size ≤ b ∧ RdK w' b w'.heap.size zs 0 ∧ Below w.heap.size w w' := by
  refine (read_any w v zs h hl).mono ?_
  rintro e w' ⟨b, u, rfl, hb, hr, hf, hbel⟩
  exact ⟨b, rfl, hb, ⟨u, hr, hr.lt, fun k hk => (hf k hk).2⟩, hbel⟩

def isQ16 (X : Nat) (Q : World → Prop) : Value → World → Prop := fun v w => v = .int .u16 X ∧ Q w
def isN1 (B : Nat) (x : Int) : Value → World → Prop := fun v w => ∃ g, v = .slice (some ⟨g, 0, none⟩) 1 1 ∧ B ≤ g ∧ Blk w g 3 [.int .i64 x]
def isInts (B : Nat) (xs : List Int) : Value → World → Prop := fun v w => ∃ a n c, v = .slice a n c ∧ w.ownsRow B 3 1 (.slice a n c) xs.length (xs.map (Value.int .i64))

/-- how far a head is read: the result's block, the head's, its maps, the reader -/
structure Rs (w : World) (b lim H : Nat) (e : Nat) (p : Int) (a : Option Addr) (n c : Nat) (xs zs : List Int) (er : Int) (wr : World) : Prop where
  st : Hs w wr
  hb : w.heap.size < b
  hl : b < lim
  hH : lim ≤ H
  blk : Blk wr H 26 [.int .u64 e, .int .i64 p, .slice a n c, .slice none 0 0]
  own : wr.ownsRow lim 3 1 (.slice a n c) xs.length (xs.map (Value.int .i64))
  rd : RdK wr b lim zs er

theorem own_ne {w : World} {base H n c m : Nat} {a : Option Addr} {xs cs : List Value} {t : TypeId} (h : w.ownsRow base 3 1 (.slice a n c) m xs) (hB : Blk w H t cs) (ht : t ≠ 3) : ∀ k, (Value.slice a n c).ownBlock = some k → k ≠ H := by
  rcases h.2 with ⟨h1, _⟩ | ⟨g, cap, cur, h1, h2, h3, _⟩
  · intro k hk; rw [h1] at hk; cases hk
  · intro k hk hkH
    rw [h1] at hk
    cases hk
    subst hkH
    have := hB.symm.trans h3
    simp at this
    exact ht this.2
theorem own_lt {w : World} {base n c m : Nat} {a : Option Addr} {xs : List Value} (h : w.ownsRow base 3 1 (.slice a n c) m xs) : ∀ k, (Value.slice a n c).ownBlock = some k → base ≤ k ∧ k < w.heap.size := fun k hk => h.lt k hk

/-- behind one more number: the block of the maps may be another one -/
theorem Rs.next {w wr w3 : World} {b lim H e : Nat} {p : Int} {a a' : Option Addr} {n c n' c' : Nat} {xs xs' zs zs' : List Int} {er er' : Int} (h : Rs w b lim H e p a n c xs zs er wr)
    (ho : Only (fun k => k = b ∨ (Value.slice a n c).ownBlock = some k) wr w3) (hown : w3.ownsRow lim 3 1 (.slice a' n' c') xs'.length (xs'.map (Value.int .i64))) (hr : RdK w3 b lim zs' er') :
    Rs w b lim H e p a' n' c' xs' zs' er' (w3.setCell ⟨H, 2, none⟩ (.slice a' n' c')) := by
  have hne := own_ne h.own h.blk (by decide)
  have hlt := own_lt h.own
  have hlim := h.hl
  have hbb := h.hb
  have hHH := h.hH
  have hB3 : Blk w3 H 26 [.int .u64 e, .int .i64 p, .slice a n c, .slice none 0 0] := h.blk.only ho (fun hk => by
    rcases hk with hk | hk
    · omega
    · exact hne H hk rfl)
  have hne3 := own_ne hown hB3 (by decide)
  have h3 : Hs w w3 := h.st.only ho (fun k hk => by
    rcases hk with hk | hk
    · omega
    · have := (hlt k hk).1; omega)
  have oS : Only (fun k => k = H) w3 (w3.setCell ⟨H, 2, none⟩ (.slice a' n' c')) := (Only.refl _ w3).setCell ⟨H, 2, none⟩ _ (fun _ => rfl)
  refine ⟨h3.only oS (fun k hk => by omega), h.hb, h.hl, h.hH, ?_, ?_, ?_⟩
  · have := hB3.set 2 (.slice a' n' c')
    exact this
  · exact ownsRow_only hown oS (fun k hk hh => hne3 k hk hh)
  · exact hr.only oS (fun k hk => by omega)

theorem Rs.cells {w wr : World} {b lim H e : Nat} {p : Int} {a : Option Addr} {n c : Nat} {xs zs : List Int} {er : Int} (h : Rs w b lim H e p a n c xs zs er wr) (wx : World) (ho : Only (fun k => k = b ∨ (Value.slice a n c).ownBlock = some k) wr wx) :
    Blk wx H 26 [.int .u64 e, .int .i64 p, .slice a n c, .slice none 0 0] := h.blk.only ho (fun hk => by
  have hlim := h.hl
  have hHH := h.hH
  rcases hk with hk | hk
  · omega
  · exact own_ne h.own h.blk (by decide) H hk rfl)

theorem takesS_step (n : Nat) (zs : List Int) (er : Int) (xs ys zs' : List Int) (er' : Int) (T : List Int × List Int × Int) (h : T = (xs ++ (takesS (n + 1) zs er).1, (takesS (n + 1) zs er).2)) :
    T = ((xs ++ [((numOf (takeS zs er 2).1 : Nat) : Int)]) ++ (takesS n (takeS zs er 2).2.1 (takeS zs er 2).2.2).1, (takesS n (takeS zs er 2).2.1 (takeS zs er 2).2.2).2) := by
  rw [h, takesS, List.append_assoc]
  rfl

/-- behind the text: the head that was read -/
theorem Rs.done {w wr w3 : World} {b lim H e : Nat} {p : Int} {a : Option Addr} {n c : Nat} {xs zs us : List Int} {er : Int} {u : Value} (h : Rs w b lim H e p a n c xs zs er wr) (he : e < 18446744073709551616) (hg : wr.grownBy w3 (some b))
    (hu : w3.ownsRow wr.heap.size 5 1 u us.length (us.map (Value.int .u8))) (hok : ByteOk us) :
    Blk (laidH (w3.setCell ⟨H, 3, none⟩ u) w.heap.size (.int .u64 e) (.int .i64 p) (.slice a n c) u) w.heap.size 26 [.int .u64 e, .int .i64 p, .slice a n c, u] ∧
      HdO (laidH (w3.setCell ⟨H, 3, none⟩ u) w.heap.size (.int .u64 e) (.int .i64 p) (.slice a n c) u) (w.heap.size + 1) (.agg #[.int .u64 e, .int .i64 p, .slice a n c, u]) ⟨e, p, xs, us⟩ ∧
      Below w.heap.size w (laidH (w3.setCell ⟨H, 3, none⟩ u) w.heap.size (.int .u64 e) (.int .i64 p) (.slice a n c) u) := by
  have hlim := h.hl
  have hbb := h.hb
  have hHH := h.hH
  have hH3 := (h.blk.only (only_grown hg) (fun hk => by omega))
  have h3 : Hs w w3 := h.st.grown hg h.hb
  have oS : Only (fun k => k = H) w3 (w3.setCell ⟨H, 3, none⟩ u) := (Only.refl _ w3).setCell ⟨H, 3, none⟩ _ (fun _ => rfl)
  have h4 := h3.only oS (fun k hk => by omega)
  obtain ⟨s1, s2, s3⟩ := h4.store (.int .u64 e) (.int .i64 p) (.slice a n c) u
  refine ⟨s1, ?_, s2⟩
  have oL := laidH_only (w3.setCell ⟨H, 3, none⟩ u) w.heap.size (.int .u64 e) (.int .i64 p) (.slice a n c) u
  have own3 := ownsRow_only h.own (only_grown hg) (fun k hk hh => by have := (own_lt h.own k hk).1; omega)
  have own4 := ownsRow_only (ownsRow_only own3 oS (fun k hk hh => own_ne own3 hH3 (by decide) k hk hh)) oL (fun k hk hh => by have := (own_lt h.own k hk).1; omega)
  have hHlt := h.blk.lt
  have u4 := ownsRow_only (ownsRow_only hu oS (fun k hk hh => by have := (hu.lt k hk).1; omega)) oL (fun k hk hh => by have := (hu.lt k hk).1; omega)
  have hI := is_of_own own4
  have hS := sl_of_own_len u4 hok
  obtain ⟨a', c', hn', _⟩ := hI
  obtain ⟨ua, uc, rfl⟩ := sl_form' hS
  simp only [Value.slice.injEq] at hn'
  obtain ⟨rfl, rfl, rfl⟩ := hn'
  refine ⟨a, c, ua, uc, rfl, is_of_own own4, hS, he, fun k hk => ?_⟩
  have hsz := h.st.2.lt
  rcases hk with hk | hk
  · have := (own_lt h.own k hk).1; omega
  · have := (hu.lt k hk).1; omega

theorem textS_ok (zs : List Int) (er most : Int) (h : ByteOk zs) : ByteOk (textS zs er most).1 := by
  have h0 : ByteOk ([] : List Int) := by intro z hz; cases hz
  unfold textS
  split
  · exact h0
  · split
    · exact h0
    · exact (h.take _).drop _

theorem numOf_takeS (zs : List Int) (er : Int) (n : Nat) (h : ByteOk zs) : numOf (takeS zs er n).1 < 256 ^ n := numOf_lt _ n (takeS_ok zs er n h).1 (takeS_len zs er n)

set_option maxHeartbeats 4000000 in
theorem hread_any (w : World) (e : Nat) (v : Value) (zs : List Int) (h : Sl w v zs) (hl : zs.length ≤ 50000) (he : e < 18446744073709551616) :
    Calls Tryd.prog 38 #[.int .u64 e, v] w fun r w' => ∃ u, r = .returned u ∧ HdO w' (w.heap.size + 1) u (readS e zs) ∧ Below w.heap.size w w' := by
  have HN := hide (Hs.new w)
  have HR0 := hide (read_k _ v zs (h.below HN.out.1) (by omega))
  have hok := h.bytes
  obtain ⟨ao, cap, rfl⟩ := sl_form' h
  have hza := zeroHeadRun
  have HRS : Hid (readS e zs = ⟨e, (numOf (takeS zs 0 2).1 : Nat), (mapsS zs).1, (textS (mapsS zs).2.1 (mapsS zs).2.2 32).1⟩) := rfl
  have HMS : Hid (mapsS zs = takesS (numOf (takeS (takeS zs 0 2).2.1 (takeS zs 0 2).2.2 1).1) (takeS (takeS zs 0 2).2.1 (takeS zs 0 2).2.2 1).2.1 (takeS (takeS zs 0 2).2.1 (takeS zs 0 2).2.2 1).2.2) := rfl
  have ht1 := takeS_ok zs 0 2 hok
  have hp1 : numOf (takeS zs 0 2).1 < 256 ^ 2 := numOf_takeS zs 0 2 hok
  obtain ⟨P, hP⟩ : ∃ P, P = numOf (takeS zs 0 2).1 := ⟨_, rfl⟩
  have HU1 : Hid (∀ wx b lim, RdK wx b lim zs 0 → Calls Tryd.prog 59 #[.pointer (some ⟨b, 0, none⟩)] wx fun e w' => e = .returned (.int .u16 (P : Int)) ∧ wx.grownBy w' (some b) ∧ RdK w' b lim (takeS zs 0 2).2.1 (takeS zs 0 2).2.2) := by
    intro wx b lim hr
    rw [hP]
    exact u16_k hr
  rw [← hP] at HRS hp1
  obtain ⟨z1, hz1⟩ : ∃ z, z = (takeS zs 0 2).2.1 := ⟨_, rfl⟩
  obtain ⟨e1, he1⟩ : ∃ z, z = (takeS zs 0 2).2.2 := ⟨_, rfl⟩
  rw [← hz1, ← he1] at HU1 HMS
  rw [← hz1] at ht1
  have ht2 := takeS_ok z1 e1 1 ht1.2
  have hn1 : numOf (takeS z1 e1 1).1 < 256 ^ 1 := numOf_takeS z1 e1 1 ht1.2
  obtain ⟨N, hN⟩ : ∃ N, N = numOf (takeS z1 e1 1).1 := ⟨_, rfl⟩
  have HU2 : Hid (∀ wx b lim, RdK wx b lim z1 e1 → Calls Tryd.prog 60 #[.pointer (some ⟨b, 0, none⟩)] wx fun e w' => e = .returned (.int .u8 (N : Int)) ∧ wx.grownBy w' (some b) ∧ RdK w' b lim (takeS z1 e1 1).2.1 (takeS z1 e1 1).2.2) := by
    intro wx b lim hr
    rw [hN]
    exact u8_k hr
  rw [← hN] at HMS hn1
  obtain ⟨z2, hz2⟩ : ∃ z, z = (takeS z1 e1 1).2.1 := ⟨_, rfl⟩
  obtain ⟨e2, he2⟩ : ∃ z, z = (takeS z1 e1 1).2.2 := ⟨_, rfl⟩
  rw [← hz2, ← he2] at HU2 HMS
  rw [← hz2] at ht2
  have hok2 := ht2.2
  have hp16 : P < 65536 := by simpa using hp1
  have hn8 : N < 256 := by simpa using hn1
  clear h hP hz1 he1 hN hz2 he2 ht1 ht2 hp1 hn1 hok
  go_enter Tryd.func38, Tryd.ntmps38
  go_wp2_with (first
    | (go_at_call 58; refine HR0.out.mono ?_; rintro e3 w2 ⟨b, rfl, hb2, rd2, bel2⟩; have hs2 := HN.out.below bel2; have hbb : w.heap.size < b := (by have := HN.out.2.lt; omega); have HU1' := hide (HU1.out w2 b w2.heap.size rd2); have HS2 := hide hs2; have hlm : b < w2.heap.size := (by obtain ⟨_, _, h, _⟩ := rd2; exact h); clear HR0 HU1 HN hb2 rd2 bel2 hs2)
    | (go_at_call 59; refine HU1'.out.mono ?_; rintro e3 w3 ⟨rfl, g3, rd3⟩; have hs3 := HS2.out.grown g3 hbb; have hsz3 := g3.size; have rd4 := rd3.below ((Below.refl _ w3).alloc (Nat.le_refl _) (.cells #[.int .u64 e, .int .i64 (P : Int), .slice none 0 0, .slice none 0 0] 26)); have HU2' := hide (HU2.out _ b _ rd4); have HR4 : Hid (Rs w b w2.heap.size w3.heap.size e (P : Int) none 0 0 [] z1 e1 (w3.alloc (.cells #[.int .u64 e, .int .i64 (P : Int), .slice none 0 0, .slice none 0 0] 26))) := ⟨hs3.alloc _, hbb, hlm, hsz3, Blk.new w3 _ _, own_nil _ _ _, rd4⟩; clear HU1' HU2 HS2 g3 rd3 hs3 rd4)
    | (go_at_call 60; refine HU2'.out.mono ?_; rintro e3 w5 ⟨rfl, g5, rd5⟩; have HR5 : Hid (Rs w b w2.heap.size w3.heap.size e (P : Int) none 0 0 [] z2 e2 w5) := ⟨HR4.out.st.grown g5 hbb, hbb, hlm, hsz3, HR4.out.blk.only (only_grown g5) (fun hk => (by omega)), own_nil _ _ _, rd5⟩; clear HU2' HR4 g5 rd5))
  obtain ⟨L, hL⟩ : ∃ L, L = w2.heap.size := ⟨_, rfl⟩
  obtain ⟨H, hH⟩ : ∃ H, H = w3.heap.size := ⟨_, rfl⟩
  rw [← hL, ← hH] at HR5
  rw [← hL] at hlm hsz3
  rw [← hH] at hsz3
  simp only [← hH]
  clear hL hH
  go_loopg [16] N (fun g i wr => ∃ (j : Nat) (a : Option Addr) (n c : Nat) (xs zr : List Int) (er : Int), g + j = N ∧ i = .int .u8 j ∧ xs.length = j ∧ ByteOk zr ∧ Rs w b L H e (P : Int) a n c xs zr er wr ∧ mapsS zs = (xs ++ (takesS g zr er).1, (takesS g zr er).2))
  case atStart => exact ⟨0, none, 0, 0, [], z2, e2, by omega, rfl, rfl, hok2, HR5.out, HMS.out⟩
  case round =>
    obtain ⟨j, a, n, c, xs, zr, er, hj, rfl, hxl, hokr, hrs, hms⟩ := hrel
    have HRS2 := hide hrs
    have HMS2 := hide hms
    have HXL := hide hxl
    obtain ⟨⟨c0, c1, c2, c3⟩, f0, f1, f2, f3⟩ := head_cells hrs.blk
    clear HR5 HMS hrs hms hxl
    cases gk with
    | zero =>
      obtain rfl : j = N := by omega
      have hm := HMS2.out
      rw [show takesS 0 zr er = ([], zr, er) from rfl, List.append_nil] at hm
      simp only at hm
      have HRE : Hid (readS e zs = ⟨e, (P : Int), xs, (textS zr er 32).1⟩) := by
        show readS e zs = _
        rw [HRS.out, hm]
      obtain ⟨u0, rd0, _⟩ := HRS2.out.rd
      have HTX := hide (readerText_any wr b u0 zr er 32 rd0)
      have HOK := hide (textS_ok zr er 32 hokr)
      clear hm HMS2 HRS rd0
      go_wp2_with (go_at_call 61; refine HTX.out.mono ?_; rintro e3 w6 ⟨u6, rfl, ou6, g6, _⟩; obtain ⟨a6, c6, rfl⟩ := own_slice ou6; have hH6 := HRS2.out.blk.only (only_grown g6) (fun hk => (by have := HRS2.out.hl; have := HRS2.out.hH; omega)); have hR6 := HRS2.out.st.grown g6 HRS2.out.hb; have hRS := hR6.only (S := fun k => k = H) ((Only.refl _ w6).setCell ⟨H, 3, none⟩ (.slice a6 (textS zr er 32).1.length c6) (fun _ => rfl)) (fun k hk => (by have := HRS2.out.hl; have := HRS2.out.hH; have := HRS2.out.hb; omega)); have hHS := hH6.set 3 (.slice a6 (textS zr er 32).1.length c6); clear c0 c1 c2 c3 f0 f1 f2 f3; obtain ⟨⟨c0, c1, c2, c3⟩, f0, f1, f2, f3⟩ := head_cells hH6; obtain ⟨⟨d0, d1, d2, d3⟩, k0, k1, k2, k3⟩ := head_cells hRS.2; obtain ⟨⟨q0, q1, q2, q3⟩, _⟩ := head_cells (b := H) hHS; have HD := hide (HRS2.out.done he g6 ou6 HOK.out); clear HTX ou6 g6 hH6 hR6 hRS hHS)
      (try simp only [Exit.inBlock, Exit.then])
      refine bodyPost_ret (ret_head0 rfl _ _ w.heap.size _ _ _ _ rfl HD.out.1) rfl ?_
      rw [HRE.out]
      exact ⟨_, rfl, HD.out.2.1, HD.out.2.2⟩
    | succ g =>
      have hjN : (j : Int) < (N : Int) := by omega
      have hX := numOf_takeS zr er 2 hokr
      have hX : numOf (takeS zr er 2).1 < 256 ^ 2 := hX
      have hokn := (takeS_ok zr er 2 hokr).2
      have hms := takesS_step g zr er xs [] [] 0 _ HMS2.out
      have HRN : Hid (∀ w3 a' n' c', Only (fun k => k = b ∨ (Value.slice a n c).ownBlock = some k) wr w3 → w3.ownsRow L 3 1 (.slice a' n' c') (xs ++ [((numOf (takeS zr er 2).1 : Nat) : Int)]).length ((xs ++ [((numOf (takeS zr er 2).1 : Nat) : Int)]).map (Value.int .i64)) → RdK w3 b L (takeS zr er 2).2.1 (takeS zr er 2).2.2 → Rs w b L H e (P : Int) a' n' c' (xs ++ [((numOf (takeS zr er 2).1 : Nat) : Int)]) (takeS zr er 2).2.1 (takeS zr er 2).2.2 (w3.setCell ⟨H, 2, none⟩ (.slice a' n' c'))) := fun w3 a' n' c' h1 h2 h3 => HRS2.out.next h1 h2 h3
      have HU3 : Hid (∀ wx, Only (fun k => (Value.slice a n c).ownBlock = some k) wr wx → Calls Tryd.prog 59 #[.pointer (some ⟨b, 0, none⟩)] wx fun e w' => e = .returned (.int .u16 ((numOf (takeS zr er 2).1 : Nat) : Int)) ∧ RdK w' b L (takeS zr er 2).2.1 (takeS zr er 2).2.2 ∧ Only (fun k => k = b) wx w') := by
        intro wx ho
        refine (u16_k (HRS2.out.rd.only ho (fun k hk => (own_lt HRS2.out.own k hk).1))).mono ?_
        rintro r w' ⟨rfl, hg, hr⟩
        exact ⟨rfl, hr, only_grown hg⟩
      obtain ⟨X, hXX⟩ : ∃ X, X = numOf (takeS zr er 2).1 := ⟨_, rfl⟩
      obtain ⟨zn, hzn⟩ : ∃ z, z = (takeS zr er 2).2.1 := ⟨_, rfl⟩
      obtain ⟨en, hen⟩ : ∃ z, z = (takeS zr er 2).2.2 := ⟨_, rfl⟩
      rw [← hXX] at HRN HU3 hms hX
      rw [← hzn, ← hen] at HRN HU3 hms
      rw [← hzn] at hokn
      have hX16 : X < 65536 := by simpa using hX
      have HMN := hide hms
      have HCX : Hid (∀ wx, Only (fun k => k = b ∨ (Value.slice a n c).ownBlock = some k) wr wx → Blk wx H 26 [.int .u64 e, .int .i64 (P : Int), .slice a n c, .slice none 0 0]) := HRS2.out.cells
      have HAP : Hid (∀ wx gx, Only (fun k => k = b) wr wx → Blk wx gx 3 [.int .i64 (X : Int)] → ∃ v' w', (Builtin.append_ #[23, 23] 23 #[.slice a n c, .slice (some ⟨gx, 0, none⟩) 1 1]).run Tryd.prog wx = .ok v' w' ∧ isInts L (xs ++ [(X : Int)]) v' w' ∧ Only (fun k => (Value.slice a n c).ownBlock = some k) wx w') := by
        intro wx gx ho hg
        have hb1 := HRS2.out.hl
        have hb2 := HRS2.out.hH
        have hb3 := HRS2.out.blk.lt
        have hsz := ho.size
        have o2 := ownsRow_only HRS2.out.own ho (fun k hk hh => by have := (own_lt HRS2.out.own k hk).1; omega)
        obtain ⟨v', w', r1, r2, r3⟩ := run_append_int wx L a n c xs o2 gx (X : Int) hg (by have := HXL.out; omega) (by omega)
        obtain ⟨a', c', rfl⟩ := own_slice r2
        exact ⟨_, w', r1, ⟨a', _, c', rfl, r2⟩, only_grown' r3⟩
      have hlb : b < L := HRS2.out.hl
      have hgl : ∀ k, (Value.slice a n c).ownBlock = some k → L ≤ k ∧ k < wr.heap.size := own_lt HRS2.out.own
      have hbw : b < wr.heap.size := by have := HRS2.out.hH; have := HRS2.out.blk.lt; omega
      have HGL := hide hgl
      have HWX : Hid (IntKind.i64.wrap (X : Int) = (X : Int)) := by show IntKind.i64.wrap (X : Int) = (X : Int); exact IntWalk.i64_in _ (by omega)
      clear hms hX hXX hzn hen HMS2 HRS2 hgl c0 c1 c2 c3
      go_wp2
      refine wp_region_many (two 3 6 (fun k => k = b) (fun k => (Value.slice a n c).ownBlock = some k)) [isV (.pointer (some ⟨H, 2, none⟩)), isV (.slice a n c), isV (.pointer (some ⟨b, 0, none⟩)), isQ16 X (fun wz => RdK wz b L zn en), isV (.int .i64 (X : Int)), isN1 wr.heap.size (X : Int), isInts L (xs ++ [(X : Int)]), isV (.pointer (some ⟨H, 2, none⟩))] 31 8 (by kernel_rfl) (by kernel_rfl) (by kernel_rfl) (by kernel_rfl) rfl ?_ ?_ ?_
      · repeat (first | exact trivial | refine allStM_isV ?_ | refine ⟨two_st (by decide) (fun h => absurd rfl h) (fun _ v w1 w2 ho ⟨h1, h2⟩ => ⟨h1, h2.only ho (fun k hk => (HGL.out k hk).1)⟩) (fun v w1 w2 ho ⟨h1, h2⟩ => ⟨h1, h2.only ho (fun k hk => hk.elim)⟩), ?_⟩ | refine ⟨two_st (by decide) (fun _ v w1 w2 ho ⟨g, h1, h2, h3⟩ => ⟨g, h1, h2, h3.only ho (fun hk => by omega)⟩) (fun _ v w1 w2 ho ⟨g, h1, h2, h3⟩ => ⟨g, h1, h2, h3.only ho (fun hk => by have := (HGL.out g hk).2; omega)⟩) (fun v w1 w2 ho ⟨g, h1, h2, h3⟩ => ⟨g, h1, h2, h3.only ho (fun hk => hk.elim)⟩), ?_⟩ | refine ⟨two_st (by decide) (fun _ v w1 w2 ho ⟨x, y, z, h1, h2⟩ => ⟨x, y, z, h1, ownsRow_only h2 ho (fun k hk hh => by have := (own_lt h2 k hk).1; omega)⟩) (fun h => absurd rfl h) (fun v w1 w2 ho ⟨x, y, z, h1, h2⟩ => ⟨x, y, z, h1, ownsRow_only h2 ho (fun k hk hh => hh.elim)⟩), ?_⟩)
      · refine ⟨?_, ?_, ?_, ?_, ?_, ?_, ?_, ?_, trivial⟩
        · intro act wx h
          have e6 : act.eval (.tmp 6) = .pointer (some ⟨H, 0, none⟩) := h.old 6 (by kernel_rfl)
          have hrel := two_all h.rel
          clear h
          refine gives_by rfl act.eval rfl ?_
          generalize act.eval = ρ at *
          intro hf hc
          go_simp
          exact ⟨Only.refl _ _, rfl⟩
        · intro act wx h
          obtain ⟨v18, e18, f18⟩ := h.val 0 18 (by kernel_rfl)
          obtain rfl : v18 = .pointer (some ⟨H, 2, none⟩) := f18
          have hrel := two_all h.rel
          clear h
          obtain ⟨⟨x0, x1, x2, x3⟩, _⟩ := head_cells (HCX.out wx hrel)
          refine gives_by rfl act.eval rfl ?_
          generalize act.eval = ρ at *
          intro hf hc
          go_simp
          exact ⟨Only.refl _ _, rfl⟩
        · intro act wx h
          have e5 : act.eval (.tmp 5) = .pointer (some ⟨b, 0, none⟩) := h.old 5 (by kernel_rfl)
          have hrel := two_all h.rel
          clear h
          refine gives_by rfl act.eval rfl ?_
          generalize act.eval = ρ at *
          intro hf hc
          go_simp
          exact ⟨Only.refl _ _, rfl⟩
        · intro act wx h
          obtain ⟨v20, e20, f20⟩ := h.val 2 20 (by kernel_rfl)
          obtain rfl : v20 = .pointer (some ⟨b, 0, none⟩) := f20
          have hrel := two_1 h.relq
          clear h
          refine gives_by rfl act.eval rfl ?_
          generalize act.eval = ρ at *
          intro hf hc
          go_simp
          refine (HU3.out wx hrel).mono ?_
          rintro e wy ⟨rfl, hd, ho⟩
          exact ⟨_, rfl, of_1 ho, rfl, hd⟩
        · intro act wx h
          obtain ⟨v21, e21, f21⟩ := h.val 3 21 (by kernel_rfl)
          obtain ⟨rfl, _⟩ := f21
          have hrel := two_all h.rel
          clear h
          refine gives_by rfl act.eval rfl ?_
          generalize act.eval = ρ at *
          intro hf hc
          go_simp
          rw [HWX.out]
          exact ⟨Only.refl _ _, rfl⟩
        · intro act wx h
          obtain ⟨v22, e22, f22⟩ := h.val 4 22 (by kernel_rfl)
          obtain rfl : v22 = .int .i64 (X : Int) := f22
          have hrel := two_all h.rel
          clear h
          refine gives_by rfl act.eval rfl ?_
          generalize act.eval = ρ at *
          intro hf hc
          go_simp
          exact ⟨(Only.refl _ wx).alloc _, wx.heap.size, rfl, hrel.size, Blk.new wx _ [.int .i64 (X : Int)]⟩
        · intro act wx h
          obtain ⟨v19, e19, f19⟩ := h.val 1 19 (by kernel_rfl)
          obtain rfl : v19 = .slice a n c := f19
          obtain ⟨v23, e23, f23⟩ := h.val 5 23 (by kernel_rfl)
          obtain ⟨g23, rfl, hg23, hk23⟩ := f23
          have hrel := two_2 h.relq
          clear h
          obtain ⟨v', w', r9, o9, b9⟩ := HAP.out wx g23 hrel hk23
          exact gives_of_run rfl (exec_append (.tmp 19) (.tmp 23) 23 rfl _ _ e19 e23 v' r9) ⟨of_2 b9, o9⟩
        · intro act wx h
          have e6 : act.eval (.tmp 6) = .pointer (some ⟨H, 0, none⟩) := h.old 6 (by kernel_rfl)
          have hrel := two_all h.rel
          clear h
          refine gives_by rfl act.eval rfl ?_
          generalize act.eval = ρ at *
          intro hf hc
          go_simp
          exact ⟨Only.refl _ _, rfl⟩
      · intro oL hoL vals w3 ho3 hv
        simp only [List.getElem?_toArray, List.getElem?_cons_succ, List.getElem?_cons_zero, Option.some.injEq] at hoL
        subst hoL
        generalize hact : putAll _ vals 0 _ = act
        obtain ⟨a', n', c', hv6, O6⟩ : isInts L (xs ++ [(X : Int)]) (vals 6) w3 := hv 6 24 (by decide) (by kernel_rfl)
        obtain ⟨_, hrd⟩ : isQ16 X (fun wz => RdK wz b L zn en) (vals 3) w3 := hv 3 21 (by decide) (by kernel_rfl)
        have hv7 : vals 7 = .pointer (some ⟨H, 2, none⟩) := hv 7 25 (by decide) (by kernel_rfl)
        clear hv
        have ho3 := two_all ho3
        have HRR := hide (HRN.out w3 a' n' c' ho3 O6 hrd)
        obtain ⟨⟨c0, c1, c2, c3⟩, f0, f1, f2, f3⟩ := head_cells (HCX.out w3 ho3)
        clear O6 hrd ho3 HRN HCX HAP HU3
        subst hact
        simp only [List.dropLast, putAll, Act.put, List.setIfInBounds_toArray, List.set_cons_zero, List.set_cons_succ, hv6, hv7, Nat.zero_add, Nat.reduceAdd]
        refine gives_by rfl _ rfl ?_
        intro hf hc
        go_simp
        simp only [gUpon]
        go_wp2
        go_roundg g
        case measure => omega
        case rel => exact ⟨j + 1, a', n', c', xs ++ [(X : Int)], zn, en, by omega, by go_num, by rw [List.length_append, HXL.out]; rfl, hokn, HRR.out, HMN.out⟩

end Go.Proofs.YtmeiahmolmneeaaDoor
