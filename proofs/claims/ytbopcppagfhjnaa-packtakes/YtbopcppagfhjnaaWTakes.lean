/- The walk of the statement PackTakes: whatever is taken of any bytes, each answer, what is left, and the errors are the document's. -/
import Derived.Test.YtbopcppagfhjnaaTakes
import Derived.Deep.RegionHeld3
namespace Go.Proofs.Ytbopcppagfhjnaa
open Go.RowKit

/-- a slice of takes that is read: what is done, and with which number -/
def SlT (w : World) (v : Value) (ps : List (Int × Int)) : Prop :=
  ∃ ao cap, v = .slice ao ps.length cap ∧ ps.length ≤ cap ∧ cap ≤ maxLen ∧
    (ps ≠ [] → ∃ b off, ao = some ⟨b, off, none⟩ ∧ b < w.heap.size ∧ ∀ i, i < ps.length → w.cell? ⟨b, off + i * 2, none⟩ = some (.int .i64 (ps.getD i (0, 0)).1) ∧ w.cell? ⟨b, off + i * 2 + 1, none⟩ = some (.int .i64 (ps.getD i (0, 0)).2))

theorem own_get' {w : World} {base : Nat} {e : TypeId} {g n cap k : Nat} {L : List Int} (h : w.ownsRow base e 1 (.slice (some ⟨g, 0, none⟩) n cap) n (L.map (Value.int .u8))) (hk : k < L.length) : w.cell? ⟨g, k, none⟩ = some (.int .u8 (L.getD k 0)) := by
  have h1 := h.1
  rw [h.cellAt k (by simp at h1; omega), getD_lt L hk]
  simp [hk]

theorem own_below' {w w' : World} {base : Nat} {e : TypeId} {v : Value} {n : Nat} {xs : List Value} (h : w.ownsRow base e 1 v n xs) (hb : Below w.heap.size w w') : w'.ownsRow base e 1 v n xs := by
  refine ⟨h.1, ?_⟩
  rcases h.2 with hn | ⟨g, cap, cur, rfl, hbg, hg, r⟩
  · exact .inl hn
  · exact .inr ⟨g, cap, cur, rfl, hbg, by rw [hb.block g (Array.getElem?_eq_some_iff.1 hg).1]; exact hg, r⟩

/-- both readers behind stores into a block that they do not lead to -/
theorem rd_grown {w w' : World} {b g : Nat} {u : Value} {zs : List Int} {er : Int} (h : Rd w b u zs er) (hg : w.grownBy w' (some g)) (hb : b ≠ g) (hu : ∀ k, u.ownBlock = some k → k ≠ g) : Rd w' b u zs er :=
  ⟨by rw [hg.block b h.lt (by simpa using hb)]; exact h.1, h.2.1.keep (fun k hk hlt => hg.block k hlt (by simpa using hu k hk)), fun k hk => ⟨(h.2.2 k hk).1, Nat.lt_of_lt_of_le (h.2.2 k hk).2 hg.size⟩⟩
theorem rr_grown {w w' : World} {b g : Nat} {u : Value} {zs : List Int} {er : Int} (h : RR w b u zs er) (hg : w.grownBy w' (some g)) (hb : b ≠ g) (hu : ∀ k, u.ownBlock = some k → k ≠ g) : RR w' b u zs er :=
  ⟨by rw [hg.block b h.lt (by simpa using hb)]; exact h.1, h.2.1.keep (fun k hk hlt => hg.block k hlt (by simpa using hu k hk)), fun k hk => ⟨(h.2.2 k hk).1, Nat.lt_of_lt_of_le (h.2.2 k hk).2 hg.size⟩⟩

theorem sl_form' {w : World} {v : Value} {zs : List Int} (h : Sl w v zs) : ∃ ao cap, v = .slice ao zs.length cap := by
  obtain ⟨_, ao, cap, rfl, _⟩ := h
  exact ⟨ao, cap, rfl⟩

def endS (zs : List Int) (er : Int) : Int := if er ≠ 0 then er else if zs = [] then 0 else 12
theorem end_s (w : World) (b : Nat) (u : Value) (zs : List Int) (er : Int) (h : Rd w b u zs er) :
    Calls Try.prog 26 #[.pointer (some ⟨b, 0, none⟩)] w fun e w' => e = .returned (.int .i64 (endS zs er)) ∧ w' = w := end_any w b u zs er h
theorem rend_s (w : World) (b : Nat) (u : Value) (zs : List Int) (er : Int) (h : RR w b u zs er) :
    Calls Try.prog 27 #[.pointer (some ⟨b, 0, none⟩)] w fun e w' => e = .returned (.int .i64 (endS zs er)) ∧ w' = w := rend_any w b u zs er h

theorem wpAnyH_mono {P : Program} {md : Region.Mode} {ops : Array Oper} {Q : Exit → Act → World → Prop} {S S' : World → Prop} (h : ∀ w, S' w → S w) :
    ∀ (fuel : Nat) (listed : Array Bool) (a : Act) (w : World), wpAnyH P md ops Q S' fuel listed a w → wpAnyH P md ops Q S fuel listed a w
  | 0, _, _, _, hh => hh
  | fuel + 1, _, _, _, hh => ⟨hh.1, fun i hi => wpOp_mono (fun a' w' h' => ⟨h w' h'.1, wpAnyH_mono h fuel _ a' w' h'.2⟩) (hh.2 i hi)⟩

set_option linter.unusedSimpArgs false in
set_option maxRecDepth 20000 in
set_option maxHeartbeats 6000000 in
theorem packTakes_walk (w : World) (va vs : Value) (xs : List Int) (ps : List (Int × Int)) (ha : Sl w va xs) (hs : SlT w vs ps) :
    Calls Try.prog 4 #[va, vs] w fun e w' => e = .returned (.bool true) ∧ Below w.heap.size w w' := by
  have HA := hide ha
  obtain ⟨_, aoa, capa, rfl, _⟩ := ha
  obtain ⟨ao, cap, rfl, hs1, hs2, hs4⟩ := hs
  have H4 := hide hs4
  unfold maxLen at hs2
  clear hs4
  by_cases b1 : 2000 < xs.length
  · have i1 : (2000 : Int) < (xs.length : Int) := by omega
    go_enter Try.func4, Try.ntmps4
    go_wp2_with (first
      | (go_at_call 9; refine (live_any w).mono ?_; rintro e w1 ⟨rfl, hb1⟩)
      | (go_at_call 9; refine (live_any w1).mono ?_; rintro e w2 ⟨rfl, hb2⟩))
    go_ret
    exact ⟨rfl, below_then hb1 hb2 (Nat.le_refl _)⟩
  · have i1 : decide ((2000 : Int) < (xs.length : Int)) = false := decide_eq_false (by omega)
    have hx2 : xs.length ≤ 2000 := by omega
    have L1 := hide (live_any w)
    go_enter Try.func4, Try.ntmps4
    go_wp2_with (first
      | (go_at_call 9; refine L1.out.mono ?_; rintro e w1 ⟨rfl, hb1⟩; clear L1)
      | (go_at_call 10; refine (refJoin_any w1 _ _ [] xs (Sl.nil w1) (HA.out.below hb1) (by simp; omega)).mono ?_; rintro e w2 ⟨u, rfl, ho, hnn, hb2, hz2⟩; rw [List.nil_append] at ho; obtain ⟨g, cg, rfl, hgB⟩ := own_form ho hnn; have hcg := own_cap ho; have hglt := hide (ho.lt g rfl).2; have hB2 := below_then hb1 hb2 (Nat.le_refl _); have SO := hide (sl_of_own_len ho HA.out.bytes); have HO := hide ho; have hBw1 := hb1.size; clear ho hnn hb2 hz2 hb1)
      | (go_at_call 21; refine (read_any w2 _ xs SO.out (by omega)).mono ?_; rintro e w3 ⟨rb, ru, rfl, hrb, hrd, hrf, hb3⟩; have hB3 := below_then hB2 hb3 (Nat.le_refl _); have HO3 := hide (own_below' HO.out hb3); have HRD := hide hrd; have HRF := hide hrf; have hz3 := hide hb3.size; have hrl := hide hrd.lt; clear HO hb3 hB2 SO hrd hrf)
      | (go_at_call 22; refine (rread_any w3 _ xs (HA.out.below hB3) (by omega)).mono ?_; rintro e w4 ⟨qb, qu, rfl, hqb, hrr, hqf, hb4⟩; have hB4 := below_then hB3 hb4 (Nat.le_refl _); have HO4 := hide (own_below' HO3.out hb4); have HRD4 := hide (HRD.out.keep hb4); have HRR := hide hrr; have HQF := hide hqf; clear HO3 hb4 hB3 HRD hrr hqf))
    have hgl := hglt.out
    have hrg : rb ≠ g := by omega
    have hqg : qb ≠ g := by have := hz3.out; omega
    have hrq : rb ≠ qb := by have := hrl.out; omega
    go_loopw [29] (fun i wr => ∃ (k : Nat) (L : List Int), k ≤ xs.length ∧ L.length = xs.length ∧ i = .int .i64 k ∧ wr.ownsRow w1.heap.size 5 1 (.slice (some ⟨g, 0, none⟩) xs.length cg) xs.length (L.map (Value.int .u8)) ∧ w4.grownBy wr (some g))
      (fun i _ => xs.length - (intOf i).toNat)
    case atStart => exact ⟨0, xs, Nat.zero_le _, rfl, rfl, HO4.out, grownBy_refl _ _⟩
    case round =>
      obtain ⟨k, L, hk, hL, rfl, hown, hgr⟩ := hrel
      by_cases hlt : k < xs.length
      · have c1 := own_get' hown (k := k) (by omega)
        have f1 := hown.frozenAt k
        obtain ⟨x, hx⟩ : ∃ x, x = L.getD k 0 := ⟨_, rfl⟩
        rw [← hx] at c1
        obtain ⟨y, hy⟩ : ∃ y, y = bits .xor .u8 x 255 := ⟨_, rfl⟩
        have hst := (hown.stored k (.int .u8 y)).1
        rw [← List.map_set] at hst
        have HST := hide hst
        have HGR := hide hgr
        have hys := hy.symm
        clear hst hown hx hy
        go_wp2
        go_roundw
        case rel => exact ⟨k + 1, L.set k y, by omega, by simp; omega, by go_num, HST.out, grown_set HGR.out k _⟩
        case measure => simp [intOf]; omega
      · have hk' : k = xs.length := by omega
        subst hk'
        have hBR := below_of_grown hB4 hgr (Nat.le_trans hBw1 hgB) hB4.size
        have HBT : Hid (Both wr rb qb xs 0) := ⟨hrq, ⟨_, rd_grown HRD4.out hgr hrg (fun k hk => by have := (HRF.out k hk).1; omega)⟩, _, rr_grown HRR.out hgr hqg (fun k hk => by have := (HQF.out k hk).1; have := hz3.out; omega)⟩
        have hrb0 : w.heap.size ≤ rb := by omega
        have hqb0 : w.heap.size ≤ qb := by have := hz3.out; omega
        clear hown hgr hB4 HO4 HRD4 HRR HRF HQF hglt HA hrl
        obtain ⟨m, hm⟩ : ∃ m, m = min ps.length 40 := ⟨_, rfl⟩
        have hmin : min (ps.length : Int) 40 = (m : Int) := by omega
        have hmp : m ≤ ps.length := by omega
        have hm40 : m ≤ 40 := by omega
        clear hm
        go_wp2
        go_loopw [45] (fun i wq => ∃ (k : Nat), k ≤ m ∧ i = .int .i64 k ∧ (∃ zs er, zs.length ≤ 50000 ∧ Both wq rb qb zs er) ∧ Below w.heap.size w wq)
          (fun i _ => m - (intOf i).toNat)
        case atStart => exact ⟨0, Nat.zero_le _, rfl, ⟨xs, 0, by omega, HBT.out⟩, hBR⟩
        case round =>
          obtain ⟨k, hk, rfl, ⟨zs, er, hzl, hbt⟩, hbq⟩ := hrel
          by_cases hkm : k < m
          · obtain ⟨pb, po, rfl, hpb, hpc⟩ := H4.out (by intro h; simp [h] at hmp; omega)
            have hcc := hpc k (by omega)
            obtain ⟨d, hd⟩ : ∃ d, d = (ps.getD k (0, 0)).1 := ⟨_, rfl⟩
            obtain ⟨nn, hn⟩ : ∃ nn, nn = (ps.getD k (0, 0)).2 := ⟨_, rfl⟩
            rw [← hd, ← hn] at hcc
            have p1 := (hbq.cell (p := ⟨pb, po + k * 2, none⟩) hpb).trans hcc.1
            have p2 := (hbq.cell (p := ⟨pb, po + k * 2 + 1, none⟩) hpb).trans hcc.2
            have HBB := hide hbt
            clear hpc hcc hd hn HBT hBR hbt
            go_wp2
            obtain ⟨W, hW⟩ : ∃ W, W = wr.alloc (.cells #[.int .i64 d, .int .i64 nn] 45) := ⟨_, rfl⟩
            obtain ⟨H, hH⟩ : ∃ H, H = wr.heap.size := ⟨_, rfl⟩
            have hbW : Below wr.heap.size wr W := hW ▸ (Below.refl _ wr).alloc (Nat.le_refl _) _
            have HBW := hide (both_keep HBB.out hbW)
            have hBW2 := hide (below_then hbq hbW (Nat.le_refl _))
            have cd : W.cell? ⟨H, 0, none⟩ = some (.int .i64 d) := by rw [hW, hH]; simp
            have cn : W.cell? ⟨H, 1, none⟩ = some (.int .i64 nn) := by rw [hW, hH]; simp
            rw [← hW, ← hH]
            clear hW hH hbW HBB hbq p1 p2
            refine wp_region_noPanic ?_
            refine wp_region_held_drew (S := fun _ => True) (by kernel_rfl) trivial (fun hHeld => ?_)
            refine wpAnyH_take (i := 0) (v := ?_) rfl (by kernel_rfl) (by kernel_rfl) (by kernel_rfl) (fun _ _ _ h => h) (Or.inl ⟨by rfl, ?_⟩) (by assumption) ?_
            rotate_left
            · intro ww hSw
              (try dsimp only at hSw)
              (try go_split_ands)
              go_simp
              all_goals (with_reducible rfl)
            (try simp only [Act.put, List.setIfInBounds_toArray, List.set_cons_zero, List.set_cons_succ])
            refine wpAnyH_take (i := 1) (v := ?_) rfl (by kernel_rfl) (by kernel_rfl) (by kernel_rfl) (fun _ _ _ h => h) (Or.inl ⟨by rfl, ?_⟩) (by assumption) ?_
            rotate_left
            · intro ww hSw
              (try dsimp only at hSw)
              (try go_split_ands)
              go_simp
              all_goals (with_reducible rfl)
            (try simp only [Act.put, List.setIfInBounds_toArray, List.set_cons_zero, List.set_cons_succ])
            refine wpAnyH_ready (rs := [2]) (by kernel_rfl) (by simp) (AllReadyH.cons rfl (fun K hK => ?_) AllReadyH.nil)
            go_simp
            refine hK.out _ _ trivial (fun hHeld => ?_)
            clear hK K
            (try simp only [Act.put, List.setIfInBounds_toArray, List.set_cons_zero, List.set_cons_succ])
            refine wpAnyH_ready (rs := [3]) (by kernel_rfl) (by simp) (AllReadyH.cons rfl (fun K hK => ?_) AllReadyH.nil)
            go_simp
            refine (takes_any w.heap.size _ rb qb zs er d nn (both_keep HBW.out (Below.refl _ _).drew) hzl hrb0 hqb0 (by exact hBW2.out.size)).mono ?_
            rintro e w5 ⟨rfl, hb5, zs', er', hl', hne', ⟨v1, R1⟩, v2, R2⟩
            have Q1 := hide R1
            have Q2 := hide R2
            obtain ⟨c0, c1, _⟩ := R2.cells
            obtain ⟨a2, cp2, rfl⟩ := sl_form' R2.2.1
            clear R1 R2
            go_wp2_with fail
            refine hK.out _ _ trivial (fun hHeld => ?_)
            clear hK K
            (try simp only [Act.put, List.setIfInBounds_toArray, List.set_cons_zero, List.set_cons_succ])
            have hHeld2 : (fun w' : World => w'.cell? ⟨qb, 0, none⟩ = some (.slice a2 zs'.length cp2) ∧ w'.cell? ⟨qb, 1, none⟩ = some (.int .i64 er')) w5 := ⟨c0, c1⟩
            refine wpAnyH_mono (S' := fun w' => w'.cell? ⟨qb, 0, none⟩ = some (.slice a2 zs'.length cp2) ∧ w'.cell? ⟨qb, 1, none⟩ = some (.int .i64 er')) (fun _ _ => trivial) _ _ _ _ ?_
            refine wpAnyH_take (i := 4) (v := ?_) rfl (by kernel_rfl) (by kernel_rfl) (by kernel_rfl) (fun _ _ _ h => h) (Or.inl ⟨by rfl, ?_⟩) (by assumption) ?_
            rotate_left
            · intro ww hSw
              (try dsimp only at hSw)
              (try go_split_ands)
              go_simp
              all_goals (with_reducible rfl)
            (try simp only [Act.put, List.setIfInBounds_toArray, List.set_cons_zero, List.set_cons_succ])
            refine wpAnyH_take (i := 5) (v := ?_) rfl (by kernel_rfl) (by kernel_rfl) (by kernel_rfl) (fun _ _ _ h => h) (Or.inl ⟨by rfl, ?_⟩) (by assumption) ?_
            rotate_left
            · intro ww hSw
              (try dsimp only at hSw)
              (try go_split_ands)
              go_simp
              all_goals (with_reducible rfl)
            (try simp only [Act.put, List.setIfInBounds_toArray, List.set_cons_zero, List.set_cons_succ])
            refine wpAnyH_take (i := 6) (v := ?_) rfl (by kernel_rfl) (by kernel_rfl) (by kernel_rfl) (fun _ _ _ h => h) (Or.inl ⟨by rfl, ?_⟩) (by assumption) ?_
            rotate_left
            · intro ww hSw
              (try dsimp only at hSw)
              (try go_split_ands)
              go_simp
              all_goals (with_reducible rfl)
            (try simp only [Act.put, List.setIfInBounds_toArray, List.set_cons_zero, List.set_cons_succ])
            refine wpAnyH_take (i := 8) (v := ?_) rfl (by kernel_rfl) (by kernel_rfl) (by kernel_rfl) (fun _ _ _ h => h) (Or.inl ⟨by rfl, ?_⟩) (by assumption) ?_
            rotate_left
            · intro ww hSw
              (try dsimp only at hSw)
              (try go_split_ands)
              go_simp
              all_goals (with_reducible rfl)
            (try simp only [Act.put, List.setIfInBounds_toArray, List.set_cons_zero, List.set_cons_succ])
            refine wpAnyH_take (i := 9) (v := ?_) rfl (by kernel_rfl) (by kernel_rfl) (by kernel_rfl) (fun _ _ _ h => h) (Or.inl ⟨by rfl, ?_⟩) (by assumption) ?_
            rotate_left
            · intro ww hSw
              (try dsimp only at hSw)
              (try go_split_ands)
              go_simp
              all_goals (with_reducible rfl)
            (try simp only [Act.put, List.setIfInBounds_toArray, List.set_cons_zero, List.set_cons_succ])
            refine wpAnyH_take (i := 10) (v := ?_) rfl (by kernel_rfl) (by kernel_rfl) (by kernel_rfl) (fun _ _ _ h => h) (Or.inl ⟨by rfl, ?_⟩) (by assumption) ?_
            rotate_left
            · intro ww hSw
              (try dsimp only at hSw)
              (try go_split_ands)
              go_simp
              all_goals (with_reducible rfl)
            (try simp only [Act.put, List.setIfInBounds_toArray, List.set_cons_zero, List.set_cons_succ])
            refine wpAnyH_take (i := 11) (v := ?_) rfl (by kernel_rfl) (by kernel_rfl) (by kernel_rfl) (fun _ _ _ h => h) (Or.inl ⟨by rfl, ?_⟩) (by assumption) ?_
            rotate_left
            · intro ww hSw
              (try dsimp only at hSw)
              (try go_split_ands)
              go_simp
              all_goals (with_reducible rfl)
            (try simp only [Act.put, List.setIfInBounds_toArray, List.set_cons_zero, List.set_cons_succ])
            refine wpAnyH_take (i := 12) (v := ?_) rfl (by kernel_rfl) (by kernel_rfl) (by kernel_rfl) (fun _ _ _ h => h) (Or.inl ⟨by rfl, ?_⟩) (by assumption) ?_
            rotate_left
            · intro ww hSw
              (try dsimp only at hSw)
              (try go_split_ands)
              go_simp
              all_goals (with_reducible rfl)
            (try simp only [Act.put, List.setIfInBounds_toArray, List.set_cons_zero, List.set_cons_succ])
            refine wpAnyH_ready (rs := [7]) (by kernel_rfl) (by simp) (AllReadyH.cons rfl (fun K hK => ?_) AllReadyH.nil)
            go_simp
            refine (left_any w5 rb v1 zs' er' Q1.out).mono ?_
            rintro e w6 ⟨rfl, hw⟩
            subst w6
            go_wp2_with fail
            refine hK.out _ _ hHeld2 (fun hHeld => ?_)
            clear hK K hHeld
            (try simp only [Act.put, List.setIfInBounds_toArray, List.set_cons_zero, List.set_cons_succ])
            refine wpAnyH_take (i := 13) (v := ?_) rfl (by kernel_rfl) (by kernel_rfl) (by kernel_rfl) (fun _ _ _ h => h) (Or.inl ⟨by rfl, ?_⟩) (by assumption) ?_
            rotate_left
            · intro ww hSw
              (try dsimp only at hSw)
              (try go_split_ands)
              go_simp
              all_goals (with_reducible rfl)
            (try simp only [Act.put, List.setIfInBounds_toArray, List.set_cons_zero, List.set_cons_succ])
            refine wpAnyH_take (i := 14) (v := ?_) rfl (by kernel_rfl) (by kernel_rfl) (by kernel_rfl) (fun _ _ _ h => h) (Or.inl ⟨by rfl, ?_⟩) (by assumption) ?_
            rotate_left
            · intro ww hSw
              (try dsimp only at hSw)
              (try go_split_ands)
              go_simp
              all_goals (with_reducible rfl)
            (try simp only [Act.put, List.setIfInBounds_toArray, List.set_cons_zero, List.set_cons_succ])
            refine wpAnyH_take (i := 15) (v := ?_) rfl (by kernel_rfl) (by kernel_rfl) (by kernel_rfl) (fun _ _ _ h => h) (Or.inl ⟨by rfl, ?_⟩) (by assumption) ?_
            rotate_left
            · intro ww hSw
              (try dsimp only at hSw)
              (try go_split_ands)
              go_simp
              all_goals (with_reducible rfl)
            (try simp only [Act.put, List.setIfInBounds_toArray, List.set_cons_zero, List.set_cons_succ])
            refine wpAnyH_take (i := 16) (v := ?_) rfl (by kernel_rfl) (by kernel_rfl) (by kernel_rfl) (fun _ _ _ h => h) (Or.inl ⟨by rfl, ?_⟩) (by assumption) ?_
            rotate_left
            · intro ww hSw
              (try dsimp only at hSw)
              (try go_split_ands)
              go_simp
              all_goals (with_reducible rfl)
            (try simp only [Act.put, List.setIfInBounds_toArray, List.set_cons_zero, List.set_cons_succ])
            refine wpAnyH_take (i := 18) (v := ?_) rfl (by kernel_rfl) (by kernel_rfl) (by kernel_rfl) (fun _ _ _ h => h) (Or.inl ⟨by rfl, ?_⟩) (by assumption) ?_
            rotate_left
            · intro ww hSw
              (try dsimp only at hSw)
              (try go_split_ands)
              go_simp
              all_goals (with_reducible rfl)
            (try simp only [Act.put, List.setIfInBounds_toArray, List.set_cons_zero, List.set_cons_succ])
            refine wpAnyH_take (i := 19) (v := ?_) rfl (by kernel_rfl) (by kernel_rfl) (by kernel_rfl) (fun _ _ _ h => h) (Or.inl ⟨by rfl, ?_⟩) (by assumption) ?_
            rotate_left
            · intro ww hSw
              (try dsimp only at hSw)
              (try go_split_ands)
              go_simp
              all_goals (with_reducible rfl)
            (try simp only [Act.put, List.setIfInBounds_toArray, List.set_cons_zero, List.set_cons_succ])
            refine wpAnyH_take (i := 20) (v := ?_) rfl (by kernel_rfl) (by kernel_rfl) (by kernel_rfl) (fun _ _ _ h => h) (Or.inl ⟨by rfl, ?_⟩) (by assumption) ?_
            rotate_left
            · intro ww hSw
              (try dsimp only at hSw)
              (try go_split_ands)
              go_simp
              all_goals (with_reducible rfl)
            (try simp only [Act.put, List.setIfInBounds_toArray, List.set_cons_zero, List.set_cons_succ])
            refine wpAnyH_take (i := 21) (v := ?_) rfl (by kernel_rfl) (by kernel_rfl) (by kernel_rfl) (fun _ _ _ h => h) (Or.inl ⟨by rfl, ?_⟩) (by assumption) ?_
            rotate_left
            · intro ww hSw
              (try dsimp only at hSw)
              (try go_split_ands)
              go_simp
              all_goals (with_reducible rfl)
            (try simp only [Act.put, List.setIfInBounds_toArray, List.set_cons_zero, List.set_cons_succ])
            refine wpAnyH_ready (rs := [17]) (by kernel_rfl) (by simp) (AllReadyH.cons rfl (fun K hK => ?_) AllReadyH.nil)
            go_simp
            refine (err_any w5 rb v1 zs' er' Q1.out).mono ?_
            rintro e w6 ⟨rfl, hw⟩
            subst w6
            go_wp2_with fail
            refine hK.out _ _ hHeld2 (fun hHeld => ?_)
            clear hK K hHeld
            (try simp only [Act.put, List.setIfInBounds_toArray, List.set_cons_zero, List.set_cons_succ])
            refine wpAnyH_take (i := 22) (v := ?_) rfl (by kernel_rfl) (by kernel_rfl) (by kernel_rfl) (fun _ _ _ h => h) (Or.inl ⟨by rfl, ?_⟩) (by assumption) ?_
            rotate_left
            · intro ww hSw
              (try dsimp only at hSw)
              (try go_split_ands)
              go_simp
              all_goals (with_reducible rfl)
            (try simp only [Act.put, List.setIfInBounds_toArray, List.set_cons_zero, List.set_cons_succ])
            refine wpAnyH_take (i := 23) (v := ?_) rfl (by kernel_rfl) (by kernel_rfl) (by kernel_rfl) (fun _ _ _ h => h) (Or.inl ⟨by rfl, ?_⟩) (by assumption) ?_
            rotate_left
            · intro ww hSw
              (try dsimp only at hSw)
              (try go_split_ands)
              go_simp
              all_goals (with_reducible rfl)
            (try simp only [Act.put, List.setIfInBounds_toArray, List.set_cons_zero, List.set_cons_succ])
            refine wpAnyH_take (i := 24) (v := ?_) rfl (by kernel_rfl) (by kernel_rfl) (by kernel_rfl) (fun _ _ _ h => h) (Or.inl ⟨by rfl, ?_⟩) (by assumption) ?_
            rotate_left
            · intro ww hSw
              (try dsimp only at hSw)
              (try go_split_ands)
              go_simp
              all_goals (with_reducible rfl)
            (try simp only [Act.put, List.setIfInBounds_toArray, List.set_cons_zero, List.set_cons_succ])
            refine wpAnyH_take (i := 25) (v := ?_) rfl (by kernel_rfl) (by kernel_rfl) (by kernel_rfl) (fun _ _ _ h => h) (Or.inl ⟨by rfl, ?_⟩) (by assumption) ?_
            rotate_left
            · intro ww hSw
              (try dsimp only at hSw)
              (try go_split_ands)
              go_simp
              all_goals (with_reducible rfl)
            (try simp only [Act.put, List.setIfInBounds_toArray, List.set_cons_zero, List.set_cons_succ])
            refine wpAnyH_take (i := 27) (v := ?_) rfl (by kernel_rfl) (by kernel_rfl) (by kernel_rfl) (fun _ _ _ h => h) (Or.inl ⟨by rfl, ?_⟩) (by assumption) ?_
            rotate_left
            · intro ww hSw
              (try dsimp only at hSw)
              (try go_split_ands)
              go_simp
              all_goals (with_reducible rfl)
            (try simp only [Act.put, List.setIfInBounds_toArray, List.set_cons_zero, List.set_cons_succ])
            refine wpAnyH_ready (rs := [26]) (by kernel_rfl) (by simp) (AllReadyH.cons rfl (fun K hK => ?_) AllReadyH.nil)
            go_simp
            refine (end_s w5 rb v1 zs' er' Q1.out).mono ?_
            rintro e w6 ⟨rfl, hw⟩
            subst w6
            go_wp2_with fail
            refine hK.out _ _ hHeld2 (fun hHeld => ?_)
            clear hK K hHeld
            (try simp only [Act.put, List.setIfInBounds_toArray, List.set_cons_zero, List.set_cons_succ])
            refine wpAnyH_ready (rs := [28]) (by kernel_rfl) (by simp) (AllReadyH.cons rfl (fun K hK => ?_) AllReadyH.nil)
            go_simp
            refine (rend_s w5 qb _ zs' er' Q2.out).mono ?_
            rintro e w6 ⟨rfl, hw⟩
            subst w6
            go_wp2_with fail
            refine hK.out _ _ hHeld2 (fun hHeld => ?_)
            clear hK K hHeld
            (try simp only [Act.put, List.setIfInBounds_toArray, List.set_cons_zero, List.set_cons_succ])
            refine wpAnyH_take (i := 29) (v := ?_) rfl (by kernel_rfl) (by kernel_rfl) (by kernel_rfl) (fun _ _ _ h => h) (Or.inl ⟨by rfl, ?_⟩) (by assumption) ?_
            rotate_left
            · intro ww hSw
              (try dsimp only at hSw)
              (try go_split_ands)
              go_simp
              all_goals (with_reducible rfl)
            (try simp only [Act.put, List.setIfInBounds_toArray, List.set_cons_zero, List.set_cons_succ])
            refine wpAnyH_take (i := 30) (v := ?_) rfl (by kernel_rfl) (by kernel_rfl) (by kernel_rfl) (fun _ _ _ h => h) (Or.inl ⟨by rfl, ?_⟩) (by assumption) ?_
            rotate_left
            · intro ww hSw
              (try dsimp only at hSw)
              (try go_split_ands)
              go_simp
              all_goals (with_reducible rfl)
            (try simp only [Act.put, List.setIfInBounds_toArray, List.set_cons_zero, List.set_cons_succ])
            refine wpAnyH_done (by kernel_rfl) ?_ _
            refine NoPanic.normal ?_
            go_wp2
            go_roundw
            case rel => exact ⟨k + 1, by omega, by go_num, ⟨zs', er', by omega, hne', ⟨v1, Q1.out⟩, _, Q2.out⟩, hBW2.out.drew.trans hb5⟩
            case measure => simp [intOf]; omega
          · go_wp2
            go_ret
            exact ⟨rfl, hbq⟩
end Go.Proofs.Ytbopcppagfhjnaa
