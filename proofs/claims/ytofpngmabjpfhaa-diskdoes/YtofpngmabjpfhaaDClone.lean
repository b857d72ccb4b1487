/- Contract: a device with the same, that goes its own way (Clone). -/
import Derived.Test.YtofpngmabjpfhaaDLoad
import Derived.Lib.BytesEntry
namespace Go.Proofs.Ytofpngmabjpfhaa
open Go.RowKit
set_option linter.unusedVariables false

/-- 'append' of a whole row to an empty one of the call's own -/
theorem run_clone_row {P : Program} (w : World) (t e : TypeId) (i : TypeInfo) (z : Value) (size bytes : Nat) (ht : P.underlying t = some (.slice e)) (hi : P.info? e = some i) (hz : i.zero = some z) (hsize : i.size = size) (hby : i.bytes = bytes) (hzs : z.cells.size = size) (hsz : 0 < size)
    (g n cap : Nat) (xs : List Value) (hown : w.ownsRow 0 e size (.slice (some ⟨g, 0, none⟩) n cap) n xs) (h1 : ∀ u ∈ xs, u.oneCell' = true) (hbytes : n * bytes ≤ 140737488355328) (hn : n ≤ maxLen) :
    ∃ u w', (Builtin.append_ #[t, t] t #[.slice (some ⟨w.heap.size, 0, none⟩) 0 0, .slice (some ⟨g, 0, none⟩) n cap]).run P (w.alloc (.cells #[] e)) = .ok u w' ∧ w'.ownsRow w.heap.size e size u n xs ∧ Below w.heap.size w w' := by
  have h0 : (w.alloc (.cells #[] e)).ownsRow w.heap.size e size (.slice (some ⟨w.heap.size, 0, none⟩) 0 0) 0 [] := World.ownsRow_made w #[] 0 (Nat.le_refl _) (Nat.zero_le _) (by simp)
  obtain ⟨_, _, _, hxl, sp, hB, _⟩ := own_blk hown
  obtain ⟨u, w', hr, ho, hg, _, _⟩ := run_append_own_at (P := P) (w.alloc (.cells #[] e)) w.heap.size t t e i z size bytes ht hi hz hsize hby hzs hsz _ 0 [] h0 ⟨g, 0, none⟩ n cap xs hxl
    (fun j v hv => by
      rw [Addr.add_mid, Nat.zero_add, (hB.alloc _).cell, List.getElem?_append_left (List.getElem?_eq_some_iff.1 hv).1]; exact hv) h1 (by rw [Nat.zero_add]; exact hn) (by rw [Nat.zero_add]; exact hbytes) (by simp)
  rw [Nat.zero_add, List.nil_append] at ho
  exact ⟨u, w', hr, ho, ((Below.refl _ w).alloc (Nat.le_refl _) _).grown hg (by simp) (fun k hk => by cases hk; exact Nat.le_refl _)⟩

theorem ownsRow_base {w : World} {base base' size n : Nat} {e : TypeId} {v : Value} {xs : List Value} (h : w.ownsRow base e size v n xs) (hb : base' ≤ base) : w.ownsRow base' e size v n xs :=
  ⟨h.1, h.2.elim .inl (fun ⟨g, cap, cur, hv, hg, r⟩ => .inr ⟨g, cap, cur, hv, Nat.le_trans hb hg, r⟩)⟩

theorem flatS_one (st : List (List Int)) : ∀ v ∈ flatS st, v.oneCell' = true := by
  intro v hv
  obtain ⟨l, hl, hv⟩ := List.mem_flatten.1 hv
  obtain ⟨r, _, rfl⟩ := List.mem_map.1 hl
  exact pc_one r v hv
theorem flatW_one (ws : List (Nat × List Int)) : ∀ v ∈ flatW ws, v.oneCell' = true := by
  intro v hv
  obtain ⟨l, hl, hv⟩ := List.mem_flatten.1 hv
  obtain ⟨r, _, rfl⟩ := List.mem_map.1 hl
  exact wc_one r v hv
theorem pageCells : (Value.agg pageZero).cells.size = 256 := pageZero_size

theorem eqlS (w : World) (a : Addr) (n cap : Nat) : (binOp .eql 57 (.slice (some a) n cap) (.slice none 0 0)).run Try.prog w = .ok (.bool false) w := by kernel_rfl
theorem eqlW (w : World) (a : Addr) (n cap : Nat) : (binOp .eql 58 (.slice (some a) n cap) (.slice none 0 0)).run Try.prog w = .ok (.bool false) w := by kernel_rfl
theorem eqlW0 (w : World) : (binOp .eql 58 (.slice none 0 0) (.slice none 0 0)).run Try.prog w = .ok (.bool true) w := by kernel_rfl
theorem eqlM (w : World) (m : Nat) : (binOp .eql 59 (.map (some m)) (.map none)).run Try.prog w = .ok (.bool false) w := by kernel_rfl

theorem cloneS_any (w : World) (g n cap : Nat) (xs : List Value) (hown : w.ownsRow 0 73 256 (.slice (some ⟨g, 0, none⟩) n cap) n xs) (h1 : ∀ u ∈ xs, u.oneCell' = true) (hn : n ≤ 1000000) :
    Calls Try.prog 40 #[.slice (some ⟨g, 0, none⟩) n cap] w fun e w' => ∃ u, e = .returned u ∧ w'.ownsRow w.heap.size 73 256 u n xs ∧ Below w.heap.size w w' := by
  obtain ⟨i0, hi, hz0, hz1, hz2⟩ := info_parts infoPage
  obtain ⟨u, w1, hr, ho, hb⟩ := run_clone_row w 57 73 i0 _ 256 256 Try.underlying57 hi hz0 hz1 hz2 pageCells (by decide) g n cap xs hown h1 (by omega) (by unfold maxLen; omega)
  have HR := hide hr
  have HO := hide ho
  clear hr ho hown
  have hq := eqlS
  go_enter Try.func40, Try.ntmps40
  go_wp2_with (at_builtin; refine wpList_append_run _ rfl (.tmp 5) (.tmp 6) 57 rfl _ _ rfl rfl _ _ HR.out ?_)
  go_ret
  exact ⟨_, rfl, HO.out, hb⟩
theorem cloneW_nil (w : World) : Calls Try.prog 41 #[.slice none 0 0] w fun e w' => e = .returned (.slice none 0 0) ∧ w' = w := by
  have hq := eqlW0
  go_enter Try.func41, Try.ntmps41
  go_wp2
  go_ret
  exact ⟨rfl, rfl⟩
theorem cloneW_any (w : World) (v : Value) (n : Nat) (xs : List Value) (hown : w.ownsRow 0 76 257 v n xs) (h1 : ∀ u ∈ xs, u.oneCell' = true) (hn : n ≤ 1000000) :
    Calls Try.prog 41 #[v] w fun e w' => ∃ u, e = .returned u ∧ w'.ownsRow w.heap.size 76 257 u n xs ∧ Below w.heap.size w w' := by
  rcases own_form hown with ⟨rfl, rfl⟩ | ⟨g, cap, rfl⟩
  · refine (cloneW_nil w).mono ?_
    rintro e w' ⟨rfl, rfl⟩
    refine ⟨_, rfl, ?_, Below.refl _ _⟩
    have : xs = [] := List.eq_nil_of_length_eq_zero (by have := hown.1; omega)
    rw [this]
    exact World.ownsRow_nil _ _ _ _
  · obtain ⟨i0, hi, hz0, hz1, hz2⟩ := info_parts infoWrite
    obtain ⟨u, w1, hr, ho, hb⟩ := run_clone_row w 58 76 i0 _ 257 264 Try.underlying58 hi hz0 hz1 hz2 writeCells (by decide) g n cap xs hown h1 (by omega) (by unfold maxLen; omega)
    have HR := hide hr
    have HO := hide ho
    clear hr ho hown
    have hq := eqlW
    go_enter Try.func41, Try.ntmps41
    go_wp2_with (at_builtin; refine wpList_append_run _ rfl (.tmp 5) (.tmp 6) 58 rfl _ _ rfl rfl _ _ HR.out ?_)
    go_ret
    exact ⟨_, rfl, HO.out, hb⟩

theorem run_mapsClone {P : Program} (w : World) (t : TypeId) (mb : Nat) (es : Array MapEntry) (clock : Nat) (hm : w.heap[mb]? = some (.map es clock)) :
    (Extern.MapsClone.clone #[.iface t (.map (some mb))]).run P w = .ok (.iface t (.map (some w.heap.size))) (w.alloc (.map es clock)) := by
  rw [show Extern.MapsClone.clone #[.iface t (.map (some mb))] = (do
    let .map entries clock ← getObj mb | stuck "maps.clone: a map expected"
    pure (.iface t (.map (some (← newObj (.map entries clock)))))) from rfl]
  simp [MapKept.run_getObj_map hm, Result.andThen]
theorem assertM (w : World) (m : Nat) : (Instr.typeAssert (.iface 59 (.map (some m))) 20 59 false).run Try.prog w = .ok (.map (some m)) w := by kernel_rfl
theorem cloneM_any (w : World) (mb n : Nat) (D : DataW Unit) (h : w.ownsMap Try.prog 3 (plainElem Try.prog 3) mb n D) :
    Calls Try.prog 42 #[.map (some mb)] w fun e w' => e = .returned (.map (some w.heap.size)) ∧ w'.ownsMap Try.prog 3 (plainElem Try.prog 3) w.heap.size n D ∧ Below w.heap.size w w' := by
  obtain ⟨es, clock, hb, hf, hs, hD⟩ := h
  have HR := hide (run_mapsClone (P := Try.prog) w 59 mb es clock hb)
  have hq := eqlM
  have ha := assertM
  go_enter Try.func42, Try.ntmps42
  go_wp2
  rw [run_callFunc_extern Try.func53 (by kernel_rfl) (by kernel_rfl) (by kernel_rfl) (e := Extern.MapsClone.clone) (by kernel_rfl), HR.out]
  simp only [Result.andThen]
  rw [Oper.upon_value]
  go_wp2
  go_ret
  exact ⟨rfl, ⟨es, clock, heap_alloc_new w _, hf, hs, hD⟩, (Below.refl _ w).alloc (Nat.le_refl _) _⟩

theorem sizeDisk : (Try.prog.info? 61).map (·.size) = some 7 := by kernel_rfl
def diskZero : Array Value := #[.slice none 0 0, .slice none 0 0, .map none, .bool false, .bool false, .int .i64 0, .int .i64 0]
theorem diskZero_size : diskZero.size = 7 := rfl
theorem zeroDiskRun (w : World) : (zeroValue 61).run Try.prog w = .ok (.agg diskZero) w := by kernel_rfl

set_option maxHeartbeats 1000000 in
theorem clone_any (w : World) (b : Nat) (F : Nat → Prop) (d : Dv) (h : Dev w b F d) (hwl : d.ws.length ≤ 1000000) :
    Calls Try.prog 14 #[dp b] w fun e w' => ∃ c, e = .returned (dp c) ∧ Dev w' c (fun k => w.heap.size ≤ k) d ∧ Below w.heap.size w w' := by
  have HM := hide (made_dev w b F d h)
  obtain ⟨sb, cap, mb, vw, lf, D, h⟩ := h
  obtain ⟨aw, cw, rfl⟩ := own_form' h.ws
  have hbl := Blk.lt h.blk
  have hfew := h.ok.few
  have HX := hide h
  have hza := zeroDiskRun
  obtain ⟨cs, hcs⟩ : ∃ cs : List Value, cs = [.slice (some ⟨sb, 0, none⟩) d.st.length cap, .slice aw d.ws.length cw, .map (some mb), .bool (!d.off), .bool d.left.isSome, .int .i64 lf, .int .i64 d.done] := ⟨_, rfl⟩
  have hB : Blk w b 61 cs := by rw [hcs]; exact h.blk
  have hl : cs.length = 7 := by rw [hcs]; rfl
  have HR := hide (hB.range 0 cs (fun j _ => by rw [Nat.zero_add]))
  have HZ1 : Hid ((Try.prog.info? 61).map (·.size) = some cs.length) := by show _ = _; rw [hl]; exact sizeDisk
  have HZ2 : Hid ((Try.prog.info? 61).map (·.size) = some cs.toArray.size) := HZ1
  have HZ3 : Hid (diskZero.size = cs.toArray.size) := diskZero_size.trans (by rw [List.size_toArray, hl])
  have HZ4 : Hid (cs.toArray.all (·.oneCell') = true) := by
    apply all_oneCell_toArray
    intro v hv
    rw [hcs] at hv
    simp only [List.mem_cons, List.mem_nil_iff, or_false] at hv
    rcases hv with rfl | rfl | rfl | rfl | rfl | rfl | rfl <;> rfl
  have HCS := hide hcs
  have HN := hide (Blk.new w 61 cs)
  -- the three parts, one behind the other
  have K1 : Hid (∀ w1, Below w.heap.size w w1 → Calls Try.prog 40 #[.slice (some ⟨sb, 0, none⟩) d.st.length cap] w1 fun e w' => ∃ u, e = .returned u ∧ w'.ownsRow w1.heap.size 73 256 u d.st.length (flatS d.st) ∧ Below w1.heap.size w1 w') := fun w1 hb =>
    cloneS_any w1 sb d.st.length cap _ (ownsRow_only h.st (Only.of_below (fun _ => False) hb) (fun _ _ h => h)) (flatS_one _) (by omega)
  have K2 : Hid (∀ w1, Below w.heap.size w w1 → Calls Try.prog 41 #[.slice aw d.ws.length cw] w1 fun e w' => ∃ u, e = .returned u ∧ w'.ownsRow w1.heap.size 76 257 u d.ws.length (flatW d.ws) ∧ Below w1.heap.size w1 w') := fun w1 hb =>
    cloneW_any w1 _ d.ws.length _ (ownsRow_only h.ws (Only.of_below (fun _ => False) hb) (fun _ _ h => h)) (flatW_one _) hwl
  have K3 : Hid (∀ w1, Below w.heap.size w w1 → Calls Try.prog 42 #[.map (some mb)] w1 fun e w' => e = .returned (.map (some w1.heap.size)) ∧ w'.ownsMap Try.prog 3 (plainElem Try.prog 3) w1.heap.size d.ws.length D ∧ Below w1.heap.size w1 w') := fun w1 hb =>
    cloneM_any w1 mb d.ws.length D (ownsMap_only h.map (Only.of_below (fun _ => False) hb) (fun h => h))
  have KC : Hid (∀ w1, Below w.heap.size w w1 → w1.cell? ⟨b, 0, none⟩ = some (.slice (some ⟨sb, 0, none⟩) d.st.length cap) ∧ w1.cell? ⟨b, 1, none⟩ = some (.slice aw d.ws.length cw) ∧ w1.cell? ⟨b, 2, none⟩ = some (.map (some mb))) := fun w1 hb =>
    ⟨(hb.cell (p := ⟨b, 0, none⟩) hbl).trans h.blk.c0, (hb.cell (p := ⟨b, 1, none⟩) hbl).trans h.blk.c1, (hb.cell (p := ⟨b, 2, none⟩) hbl).trans h.blk.c2⟩
  have HB0 : Hid (Below w.heap.size w (w.alloc (.cells cs.toArray 61))) := (Below.refl _ w).alloc (Nat.le_refl _) _
  have k0 := (KC.out _ HB0.out).1
  clear h hB hl hcs
  go_enter Try.func14, Try.ntmps14
  go_wp2_with (first
    | (go_at_call 39; refine HM.out.mono ?_; rintro e w1 ⟨rfl, hw⟩; subst w1; clear HM)
    | ((with_reducible refine wpList_load_mid rfl 61 (.tmp 8) rfl b 0 ?_ cs _ HR.out Try.underlying61 rfl HZ1.out ?_); exact rfl)
    | ((with_reducible refine wpList_store_new rfl 61 (.tmp 3) (.tmp 9) rfl diskZero cs.toArray 61 ?_ ?_ HZ3.out HZ2.out HZ4.out ?_); exact rfl; exact rfl)
    | (go_at_call 40; refine (K1.out _ HB0.out).mono ?_; rintro e w2 ⟨u, rfl, ho2, hb2⟩; obtain ⟨au, cu, rfl⟩ := own_form' ho2; have HB2 : Hid (Below w.heap.size w w2) := HB0.out.trans (hb2.mono (by simp)); have hB2 := HN.out.below hb2 (by simp); have q0 := Blk.cell hB2 0; have f0 := Blk.frozen hB2 0; rw [HCS.out] at q0; have k1 := (KC.out _ HB2.out).2.1; have HBB2 := hide hB2; have HO2 := hide ho2; clear K1 hb2 hB2 ho2)
    | (go_at_call 41; have hb2' := (HB2.out.setCell (p := ⟨w.heap.size, 0, none⟩) (Nat.le_refl _) (.slice au d.st.length cu)); refine (K2.out _ hb2').mono ?_; rintro e w3 ⟨u2, rfl, ho3, hb3⟩; obtain ⟨au2, cu2, rfl⟩ := own_form' ho3; have HB3 : Hid (Below w.heap.size w w3) := hb2'.trans (hb3.mono hb2'.size); have hB3 := (Blk.set HBB2.out 0 (.slice au d.st.length cu)).below hb3 (by have := HBB2.out.lt; simpa using this); have q1 := Blk.cell hB3 1; have f1 := Blk.frozen hB3 1; rw [HCS.out] at q1; have k2 := (KC.out _ HB3.out).2.2; have HBB3 := hide hB3; have HO3 := hide ho3; have Hb3 := hide hb3; clear K2 hb3 hB3 ho3 hb2')
    | (go_at_call 42; have hb3' := (HB3.out.setCell (p := ⟨w.heap.size, 1, none⟩) (Nat.le_refl _) (.slice au2 d.ws.length cu2)); refine (K3.out _ hb3').mono ?_; rintro e w4 ⟨rfl, ho4, hb4⟩; have HB4 : Hid (Below w.heap.size w w4) := hb3'.trans (hb4.mono hb3'.size); have hB4 := (Blk.set HBB3.out 1 (.slice au2 d.ws.length cu2)).below hb4 (by have := HBB3.out.lt; simpa using this); have q2 := Blk.cell hB4 2; have f2 := Blk.frozen hB4 2; rw [HCS.out] at q2; have HBB4 := hide hB4; have HO4 := hide ho4; have Hb4 := hide hb4; clear K3 hb4 hB4 ho4 hb3'))
  go_ret
  have hX := HX.out
  have a1 : Only (fun k => k = w.heap.size) w4 (w4.setCell ⟨w.heap.size, 2, none⟩ (.map (some w3.heap.size))) := (Only.refl (fun k => k = w.heap.size) w4).setCell ⟨w.heap.size, 2, none⟩ _ (fun _ => rfl)
  have a2 : Only (fun k => k = w.heap.size) w3 (w4.setCell ⟨w.heap.size, 2, none⟩ (.map (some w3.heap.size))) := (((Only.refl (fun k => k = w.heap.size) w3).setCell ⟨w.heap.size, 1, none⟩ (.slice au2 d.ws.length cu2) (fun _ => rfl)).trans (Only.of_below (fun k => k = w.heap.size) Hb4.out) (fun _ _ h => h)).trans a1 (fun _ _ h => h)
  have a3 : Only (fun k => k = w.heap.size) w2 (w4.setCell ⟨w.heap.size, 2, none⟩ (.map (some w3.heap.size))) := (((Only.refl (fun k => k = w.heap.size) w2).setCell ⟨w.heap.size, 0, none⟩ (.slice au d.st.length cu) (fun _ => rfl)).trans (Only.of_below (fun k => k = w.heap.size) Hb3.out) (fun _ _ h => h)).trans a2 (fun _ _ h => h)
  have s2 := HB2.out.size
  have s3 := Hb3.out.size
  have s4 := Hb4.out.size
  have hlt2 := HBB2.out.lt
  have hlt3 := HBB3.out.lt
  have hlt4 := HBB4.out.lt
  simp only [World.size_setCell] at s3 s4
  have hos := ownsRow_only HO2.out a3 (fun k hk e => by have := (HO2.out.lt k hk).1; simp at this; omega)
  have how := ownsRow_only HO3.out a2 (fun k hk e => by have := (HO3.out.lt k hk).1; simp at this; omega)
  have hom := ownsMap_only HO4.out a1 (fun e => by simp at e; omega)
  have hst := hX.ok.pos
  have hbk := Blk.set HBB4.out 2 (.map (some w3.heap.size))
  rw [HCS.out] at hbk
  rcases own_form HO2.out with ⟨_, h0⟩ | ⟨g, cg, hg⟩
  · omega
  obtain ⟨rfl, rfl⟩ : au = some ⟨g, 0, none⟩ ∧ cu = cg := by simpa using hg
  have hgb := (HO2.out.lt g rfl).1
  refine ⟨w.heap.size, rfl, ⟨g, cu, w3.heap.size, .slice au2 d.ws.length cu2, lf, D, hX.ok, hbk, hX.lf, ownsRow_base hos (Nat.zero_le _), ownsRow_base how (Nat.zero_le _), ?_, hX.shown, Nat.le_refl _, ?_, ?_, fun k hk => ?_⟩, HB4.out.setCell (p := ⟨w.heap.size, 2, none⟩) (Nat.le_refl _) _⟩
  · simpa using hom
  · simp at hgb; show w.heap.size ≤ g; omega
  · show w.heap.size ≤ w3.heap.size; omega
  · have := (HO3.out.lt k hk).1
    simp at this
    show w.heap.size ≤ k
    omega

end Go.Proofs.Ytofpngmabjpfhaa
