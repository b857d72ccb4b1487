/- Contracts: what is held anew, what is written: hold, write. -/
import Derived.Test.YtoplhehcjgldeaaGreatJCPart
namespace Go.Proofs.YtoplhehcjgldeaaGreat
open Go.RowKit
set_option linter.unusedVariables false
set_option maxRecDepth 100000

theorem write_q (w : World) (b : Nat) (G : Nat → Prop) (d : Dv) (p : Nat) (v : Value) (zs : List Int) (h : Dev w b G d) (hp : p < d.st.length) (hS : Sl w v zs) (hzl : zs.length = 256) (hwl : d.ws.length < 1000000) (hdl : d.done < 1000000000) :
    Calls Tryz.prog 82 #[dp b, .int .i64 p, v] w fun e w' => e = .returned (.int .i64 (writeQ d p zs).1) ∧ Dev w' b (fun k => G k ∨ w.heap.size ≤ k) (writeQ d p zs).2 ∧ Only G w w' := by
  unfold writeQ
  by_cases h2 : d.off = true
  · rw [if_pos h2]
    refine (write_off w b G d p v zs h hS ⟨by omega, by omega⟩ hzl h2).mono ?_
    rintro e w' ⟨rfl, rfl⟩
    exact ⟨rfl, h.mono (fun _ _ h => .inl h), Only.refl _ _⟩
  · rw [if_neg h2]
    exact write_ok w b G d p v zs h hp (by simpa using h2) hS hzl hwl hdl

def isWc (e : Int) (b : Nat) (G : Nat → Prop) (d : Dv) : Value → World → Prop := fun v w => v = .int .i64 e ∧ Dev w b G d
theorem stS_isWc (e : Int) (b : Nat) (G : Nat → Prop) (d : Dv) : StS (fun _ => False) (isWc e b G d) := by
  intro v w w' ho h
  exact ⟨h.1, h.2.keep ho (fun _ _ h => h)⟩

theorem sl_range {w : World} {g o cap : Nat} {zs : List Int} (h : w.rangeAt g o (pc zs)) (hb : ByteOk zs) (hl : zs.length ≤ cap) (hm : cap ≤ maxLen) : Sl w (.slice (some ⟨g, o, none⟩) zs.length cap) zs :=
  ⟨hb, some ⟨g, o, none⟩, cap, rfl, hl, hm, (fun h => by cases h), fun _ => ⟨g, o, rfl, fun i hi => h i _ (by unfold pc; rw [List.getElem?_map, List.getElem?_eq_getElem hi, getD_lt zs hi]; rfl)⟩⟩
theorem slot_sl {w : World} {g : Nat} {x : Hd} (h : Blk w g 94 (sc x)) (hx : PageOk x.bs) : Sl w (.slice (some ⟨g, 0, none⟩) 256 256) x.bs := by
  have := sl_range (cap := 256) (h.range 0 (pc x.bs) (fun j hj => by rw [Nat.zero_add]; unfold sc; rw [List.getElem?_append_left hj])) hx.2 (by rw [hx.1]; omega) (by unfold maxLen; omega)
  rwa [hx.1] at this

def slotZero : Array Value := (sc ⟨0, zeroPage, false, 0⟩).toArray
theorem buildSlot (w : World) : (Instr.build 94 #[]).run Tryz.prog w = .ok (.agg slotZero) w := by kernel_rfl
theorem wpList_build0 {P : Program} {ops : Array Oper} {rest : List Oper} {op : Oper} {a : Act} {w : World} {Q : Exit → Act → World → Prop} (hgd : op.guard = none) (t : TypeId) (ho : op.op = .build t #[])
    (u : Value) (hr : (Instr.build t #[]).run P w = .ok u w) (h : wpList P ops Q rest (a.put op.dst u) w) : wpList P ops Q (op :: rest) a w := by
  refine wpList_plain hgd fun _ hK => ?_
  unfold Oper.wp execOp
  simp only [ho, List.map_toArray, List.map_nil, Sem.run_bind, hr, Result.andThen_ok, Sem.run_pure]
  exact hK _ _ h

theorem updC_new (z : Hd) (l : List Hd) (f : Hd → Hd) (hn : findC l z.p = none) : updC (z :: l) z.p f = f z :: l := by
  unfold updC
  rw [List.map_cons, if_pos rfl]
  congr 1
  have e : l.map (fun x => if x.p = z.p then f x else x) = l.map id := List.map_congr_left (fun x hx => if_neg (fun e => findC_none hn x hx (by omega)))
  rw [e]
  simp

section
variable {w w' : World} {c b : Nat} {H : Nat → Prop} {size : Nat} {os : List Int} {l : List Hd} {hits misses : Nat} {mb : Nat} {vo : Value} {D : DataW Unit} {sl : Nat → Nat}
/-- the map takes a page in: its slot is new, and empty -/
theorem CachAt.put (h : CachAt w c b H size os l hits misses mb vo D sl) (p : Nat) (hp : p < 1000000) (hl : l.length < 1000) (hn : findC l p = none) (hm : w'.ownsMap Tryz.prog 3 slotElem mb (l.length + 1) (D.put (.int .i64 p) (.lit (.int .i64 w.heap.size)))) (ho : Only (· = mb) (w.alloc (.cells slotZero 94)) w') :
    CachAt w' c b (fun k => H k ∨ w.heap.size ≤ k) size os (⟨p, zeroPage, false, 0⟩ :: l) hits misses mb vo (D.put (.int .i64 p) (.lit (.int .i64 w.heap.size))) (fun q => if q = p then w.heap.size else sl q) := by
  have h2 := h.slots
  have hA : Only (· = mb) w w' := ((Only.refl (· = mb) w).alloc _).trans ho (fun _ _ h => h)
  have hne : ∀ y ∈ l, y.p ≠ p := fun y hy e => findC_none hn y hy (by omega)
  have hsz : Maps.size (D.put (.int .i64 p) (.lit (.int .i64 w.heap.size))) = l.length + 1 := by
    rw [Maps.size_put (h2.map.tidy keyedInt), h2.has, hn, h2.len]; rfl
  have hmb := h2.map.lt
  refine ⟨Blk.only h.blk hA (fun e => h.mb_ne e.symm), h.order.only hA (fun k hk => (h.order_ne k hk).2.1), ⟨hm, fun q => ?_, fun y hy => ?_, hsz, fun y hy => ?_, fun y hy z hz e => ?_, ?_, fun y hy => ?_, by simp; omega, .inl h2.fm, fun y hy => ?_⟩, .inl h.fc, fun k hk => .inl (h.fo k hk), h.few⟩
  · by_cases hq : q = p
    · subst hq
      rw [Maps.has_put_same h2.map.isMap (keyLit _)]
      simp [findC]
    · rw [Maps.has_put_other (by intro e; simp at e; omega), h2.has]
      unfold findC
      rw [List.find?_cons]
      have : decide ((((⟨p, zeroPage, false, 0⟩ : Hd).p : Nat) : Int) = q) = false := by simp; omega
      rw [this]
  · rcases List.mem_cons.1 hy with rfl | hy
    · rw [Maps.atKey_put_same h2.map.isMap (keyLit _)]
      simp
    · rw [Maps.atKey_put_other (by intro e; simp at e; exact hne y hy (by omega)), if_neg (hne y hy)]
      exact h2.att y hy
  · rcases List.mem_cons.1 hy with rfl | hy
    · rw [if_pos rfl]
      exact (Blk.new w 94 (sc ⟨0, zeroPage, false, 0⟩)).only ho (by omega)
    · rw [if_neg (hne y hy)]
      exact (h2.slot y hy).only hA (fun e => h2.sl_ne hy e)
  · rcases List.mem_cons.1 hy with rfl | hy <;> rcases List.mem_cons.1 hz with rfl | hz
    · rfl
    · rw [if_pos rfl, if_neg (hne z hz)] at e
      have := (h2.slot z hz).lt
      omega
    · rw [if_pos rfl, if_neg (hne y hy)] at e
      have := (h2.slot y hy).lt
      omega
    · rw [if_neg (hne z hz), if_neg (hne y hy)] at e
      exact h2.inj y hy z hz e
  · rw [List.map_cons, List.nodup_cons]
    refine ⟨fun hm => ?_, h2.nodup⟩
    obtain ⟨y, hy, e⟩ := List.mem_map.1 hm
    exact hne y hy e
  · rcases List.mem_cons.1 hy with rfl | hy
    · exact ⟨hp, zeroPage_ok⟩
    · exact h2.ok y hy
  · rcases List.mem_cons.1 hy with rfl | hy
    · rw [if_pos rfl]; exact .inr (Nat.le_refl _)
    · rw [if_neg (hne y hy)]; exact .inl (h2.fs y hy)
end

section
variable (w : World) (c b : Nat) (H : Nat → Prop) (size : Nat) (os : List Int) (l : List Hd) (hits misses : Nat) (mb : Nat) (vo : Value) (D : DataW Unit) (sl : Nat → Nat)

theorem copy_slot (h : CachAt w c b H size os l hits misses mb vo D sl) (x : Hd) (hx : x ∈ l) (v : Value) (zs : List Int) (hS : Sl w v zs) (hz : zs.length = 256) :
    (Builtin.copy_ #[46, 46] 3 #[.slice (some ⟨sl x.p, 0, none⟩) 256 256, v]).run Tryz.prog w = .ok (.int .i64 256) (w.setCells (sl x.p) 0 (pc zs)) ∧ CachAt (w.setCells (sl x.p) 0 (pc zs)) c b H size os (updC l x.p (fun y => { y with bs := zs })) hits misses mb vo D sl ∧ Only H w (w.setCells (sl x.p) 0 (pc zs)) := by
  have hB := h.slots.slot x hx
  have hok := (h.slots.ok x hx).2
  obtain ⟨ao, cap, rfl⟩ := sl_form' hS
  have hr := run_copy_there (P := Tryz.prog) w 46 3 5 Tryz.underlying46 sizeU8 (sl x.p) 0 256 256 ao zs.length cap zs hS (by omega) (hB.there 0 zs.length (by rw [sc_len hok]; omega))
  have e1 : ((zs.length : Nat) : Int) = 256 := by omega
  rw [e1] at hr
  have ho : Only (· = sl x.p) w (w.setCells (sl x.p) 0 (pc zs)) := Only.setCells _ _ _ _ (Only.refl _ _) (fun _ => rfl)
  refine ⟨hr, h.reslot x.p _ (fun _ => rfl) hx rfl ho ?_ ⟨hz, hS.1⟩, ho.mono (fun k _ e => by rw [e]; exact h.slots.fs x hx)⟩
  have := Blk.setMany (pc zs) 0 w hB (by rw [sc_len hok, pc_len]; omega)
  rw [sc_splice hok zs hz] at this
  exact this

theorem hold_old (h : CachAt w c b H size os l hits misses mb vo D sl) (x : Hd) (hx : x ∈ l) (v : Value) (zs : List Int) (hS : Sl w v zs) (hz : zs.length = 256) :
    Calls Tryz.prog 56 #[dp c, .int .i64 x.p, v] w fun e w' => e = .returned (.tuple #[]) ∧ CachAt w' c b H size os (updC l x.p (fun y => { y with bs := zs })) hits misses mb vo D sl ∧ Only H w w' := by
  have c2 := h.blk.c2
  have HA := hide (chas_yes w c b H size os l hits misses mb vo D sl h x hx)
  have hlk := h.slots.look hx
  obtain ⟨hr, h1, h2⟩ := copy_slot w c b H size os l hits misses mb vo D sl h x hx v zs hS hz
  have HR := hide hr
  have HC := hide h1
  have HO := hide h2
  clear hr h1 h2 h hx hS hz
  go_enter Tryz.func56, Tryz.ntmps56
  go_wp2_with (first
    | (go_at_call 46; refine HA.out.mono ?_; rintro e w1 ⟨rfl, hw⟩; subst w1; clear HA)
    | ((with_reducible refine wpList_copy_run rfl (.tmp 25) (.tmp 26) 46 46 rfl _ _ ?_ ?_ _ _ HR.out ?_); exact rfl; exact rfl; clear HR))
  go_end0
  exact ⟨rfl, HC.out, HO.out⟩

theorem hold_new (h : CachAt w c b H size os l hits misses mb vo D sl) (p : Nat) (hp : p < 1000000) (hl : l.length < 1000) (hn : findC l p = none) (v : Value) (zs : List Int) (hS : Sl w v zs) (hz : zs.length = 256) (hv : ∀ k, v.ownBlock = some k → ¬ H k) :
    Calls Tryz.prog 56 #[dp c, .int .i64 p, v] w fun e w' => e = .returned (.tuple #[]) ∧ CachH w' c b (fun k => H k ∨ w.heap.size ≤ k) size os (⟨p, zs, false, 0⟩ :: l) hits misses ∧ Only H w w' := by
  have c2 := h.blk.c2
  have HA := hide (chas_no w c b H size os l hits misses mb vo D sl h p (wf_nat (by omega)) hn)
  have HK := hide (keyOfInt p (wf_nat (by omega)))
  have HM := hide (h.slots.map.alloc (.cells slotZero 94))
  have hc2' := (h.blk.c2)
  have HP : Hid (∀ w1, w1.ownsMap Tryz.prog 3 slotElem mb (l.length + 1) (D.put (.int .i64 p) (.lit (.int .i64 w.heap.size))) → (w.alloc (.cells slotZero 94)).mapTurned w1 mb → ∃ w2, w1.cell? ⟨c, 2, none⟩ = some (.map (some mb)) ∧ (Instr.lookup 61 (.map (some mb)) (.int .i64 p) false).run Tryz.prog w1 = .ok (dp w.heap.size) w1 ∧
      (Builtin.copy_ #[46, 46] 3 #[.slice (some ⟨w.heap.size, 0, none⟩) 256 256, v]).run Tryz.prog w1 = .ok (.int .i64 256) w2 ∧ CachH w2 c b (fun k => H k ∨ w.heap.size ≤ k) size os (⟨p, zs, false, 0⟩ :: l) hits misses ∧ Only H w w2) := by
    intro w1 hm ht
    have ho := only_turned ht
    have h1 := h.put p hp hl hn hm ho
    have hA : Only H w w1 := ((Only.refl H w).alloc _).trans ho (fun k _ e => by rw [e]; exact h.slots.fm)
    have hlk := h1.slots.look (x := ⟨p, zeroPage, false, 0⟩) (List.mem_cons_self ..)
    have hS1 : Sl w1 v zs := hS.only hA hv
    obtain ⟨hr, h2, h3⟩ := copy_slot w1 c b _ size os _ hits misses mb vo _ _ h1 ⟨p, zeroPage, false, 0⟩ (List.mem_cons_self ..) v zs hS1 hz
    simp only [if_true] at hlk hr h2 h3
    rw [updC_new _ _ _ hn] at h2
    refine ⟨_, h1.blk.c2, hlk, hr, ⟨_, _, _, _, h2⟩, hA.trans h3 (fun k hk e => e.elim id (fun e => by omega))⟩
  have HL : Hid (l.length < maxLen) := by show _ < _; unfold maxLen; omega
  clear h hn hz hS hc2'
  go_enter Tryz.func56, Tryz.ntmps56
  go_wp2_with (first
    | (go_at_call 46; refine HA.out.mono ?_; rintro e w1 ⟨rfl, hw⟩; subst w1; clear HA)
    | ((with_reducible refine wpList_build0 rfl 94 rfl _ (buildSlot w) ?_))
    | (at_mapUpdate; refine wpList_mapUpdate_in _ rfl _ _ _ 61 rfl 3 95 keyedInt Tryz.underlying61 slotElem mb _ D rfl HM.out HL.out _ _ _ rfl rfl HK.out _ _ (slotElem_mk _) ?_; intro w1 hm1 ht1; obtain ⟨w2, c21, hlk, hr, hc, ho⟩ := HP.out w1 hm1 ht1; have HR := hide hr; have HC := hide hc; have HO := hide ho; clear HP HM HK HL hm1 ht1 hr hc ho)
    | ((with_reducible refine wpList_copy_run rfl (.tmp 25) (.tmp 26) 46 46 rfl _ _ ?_ ?_ _ _ HR.out ?_); exact rfl; exact rfl; clear HR))
  go_end0
  exact ⟨rfl, HC.out, HO.out⟩
end

section
variable (w : World) (c b : Nat) (H G : Nat → Prop) (size : Nat) (os : List Int) (l : List Hd) (hits misses : Nat) (mb : Nat) (vo : Value) (D : DataW Unit) (sl : Nat → Nat) (d : Dv)
set_option maxHeartbeats 1000000 in
theorem write_at (h : CachAt w c b H size os l hits misses mb vo D sl) (hd : Dev w b G d) (hap : ∀ k, H k → G k → False) (x : Hd) (hx : x ∈ l) (hpn : x.p < d.st.length) (hwl : d.ws.length < 1000000) (hdl : d.done < 1000000000) :
    Calls Tryz.prog 67 #[dp c, .int .i64 x.p] w fun e w' => e = .returned (.int .i64 (writeQ d x.p x.bs).1) ∧ CachAt w' c b H size os (if (writeQ d x.p x.bs).1 = 0 then updC l x.p (fun y => { y with ch := false }) else l) hits misses mb vo D sl ∧ Dev w' b (fun k => G k ∨ w.heap.size ≤ k) (writeQ d x.p x.bs).2 ∧ Only (fun k => H k ∨ G k) w w' := by
  have c2 := h.blk.c2
  have hlk := h.slots.look hx
  have hok := (h.slots.ok x hx).2
  have HC0 : Hid (∀ wx, Only G w wx → wx.cell? ⟨c, 0, none⟩ = some (dp b)) := fun wx ho => (h.keep ho (fun k => hap k)).blk.c0
  have HWQ : Hid (∀ wx, Only (fun _ => False) w wx → Calls Tryz.prog 82 #[dp b, .int .i64 x.p, .slice (some ⟨sl x.p, 0, none⟩) 256 256] wx fun e w' => e = .returned (.int .i64 (writeQ d x.p x.bs).1) ∧ Dev w' b (fun k => G k ∨ w.heap.size ≤ k) (writeQ d x.p x.bs).2 ∧ Only G wx w') := by
    intro wx ho
    refine (write_q wx b G d x.p _ x.bs (hd.keep ho (fun _ _ h => h)) hpn (slot_sl ((h.slots.slot x hx).only ho (fun h => h)) hok) hok.1 hwl hdl).mono ?_
    rintro e w' ⟨rfl, h1, h2⟩
    exact ⟨rfl, h1.mono (fun k _ hk => hk.imp_right (fun hk => Nat.le_trans ho.size hk)), h2⟩
  have HH := hide h
  have HX := hide hx
  have HAP := hide hap
  have HOK := hide hok
  obtain ⟨E, hE⟩ : ∃ E, (writeQ d x.p x.bs).1 = E := ⟨_, rfl⟩
  obtain ⟨d', hd'⟩ : ∃ d', (writeQ d x.p x.bs).2 = d' := ⟨_, rfl⟩
  rw [hE, hd'] at HWQ ⊢
  clear h hx hd hap hok hE hd' hwl hdl hpn
  go_enter Tryz.func67, Tryz.ntmps67
  go_wp2
  refine wp_region_only G [isV (.pointer (some ⟨c, 0, none⟩)), isV (.pointer (some ⟨c, 0, none⟩)), isV (.pointer (some ⟨c, 0, none⟩)), isV (dp b), isV (.int .i64 x.p), isV (.pointer (some ⟨sl x.p, 0, none⟩)), isV (.pointer (some ⟨sl x.p, 0, none⟩)), isV (.pointer (some ⟨sl x.p, 0, none⟩)), isV (.slice (some ⟨sl x.p, 0, none⟩) 256 256), isWc E b (fun k => G k ∨ w.heap.size ≤ k) d'] 9 29 10 (by kernel_rfl) (by kernel_rfl) (by kernel_rfl) (by kernel_rfl) rfl ?_ ?_ ?_
  · repeat (first | exact trivial | refine allStL_isV ?_ | refine ⟨stS_isWc _ _ _ _, fun h => absurd rfl h, ?_⟩)
  · refine ⟨?_, ?_, ?_, ?_, ?_, ?_, ?_, ?_, ?_, ?_, trivial⟩
    · intro a wx h
      have e0 : a.eval (.tmp 0) = .pointer (some ⟨c, 0, none⟩) := h.old 0 (by kernel_rfl)
      have hrel := h.rel
      clear h
      refine gives_by rfl a.eval rfl ?_
      generalize a.eval = ρ at *
      intro hf hc
      go_simp
      exact ⟨relM_quiet (by decide) (Only.refl _ _), rfl⟩
    · intro a wx h
      obtain ⟨v13, e13, f13⟩ := h.val 0 13 (by kernel_rfl)
      obtain rfl : v13 = .pointer (some ⟨c, 0, none⟩) := f13
      have hrel := h.rel
      clear h
      refine gives_by rfl a.eval rfl ?_
      generalize a.eval = ρ at *
      intro hf hc
      go_simp
      exact ⟨relM_quiet (by decide) (Only.refl _ _), rfl⟩
    · intro a wx h
      obtain ⟨v14, e14, f14⟩ := h.val 1 14 (by kernel_rfl)
      obtain rfl : v14 = .pointer (some ⟨c, 0, none⟩) := f14
      have hrel := h.rel
      clear h
      refine gives_by rfl a.eval rfl ?_
      generalize a.eval = ρ at *
      intro hf hc
      go_simp
      exact ⟨relM_quiet (by decide) (Only.refl _ _), rfl⟩
    · intro a wx h
      obtain ⟨v15, e15, f15⟩ := h.val 2 15 (by kernel_rfl)
      obtain rfl : v15 = .pointer (some ⟨c, 0, none⟩) := f15
      have hrel := h.rel
      clear h
      have c0x := HC0.out wx hrel
      refine gives_by rfl a.eval rfl ?_
      generalize a.eval = ρ at *
      intro hf hc
      go_simp
      exact ⟨relM_quiet (by decide) (Only.refl _ _), rfl⟩
    · intro a wx h
      have e1 : a.eval (.tmp 1) = .int .i64 x.p := h.old 1 (by kernel_rfl)
      have hrel := h.rel
      clear h
      refine gives_by rfl a.eval rfl ?_
      generalize a.eval = ρ at *
      intro hf hc
      go_simp
      exact ⟨relM_quiet (by decide) (Only.refl _ _), rfl⟩
    · intro a wx h
      have e5 : a.eval (.tmp 5) = .pointer (some ⟨sl x.p, 0, none⟩) := h.old 5 (by kernel_rfl)
      have hrel := h.rel
      clear h
      refine gives_by rfl a.eval rfl ?_
      generalize a.eval = ρ at *
      intro hf hc
      go_simp
      exact ⟨relM_quiet (by decide) (Only.refl _ _), rfl⟩
    · intro a wx h
      obtain ⟨v18, e18, f18⟩ := h.val 5 18 (by kernel_rfl)
      obtain rfl : v18 = .pointer (some ⟨sl x.p, 0, none⟩) := f18
      have hrel := h.rel
      clear h
      refine gives_by rfl a.eval rfl ?_
      generalize a.eval = ρ at *
      intro hf hc
      go_simp
      exact ⟨relM_quiet (by decide) (Only.refl _ _), rfl⟩
    · intro a wx h
      obtain ⟨v19, e19, f19⟩ := h.val 6 19 (by kernel_rfl)
      obtain rfl : v19 = .pointer (some ⟨sl x.p, 0, none⟩) := f19
      have hrel := h.rel
      clear h
      refine gives_by rfl a.eval rfl ?_
      generalize a.eval = ρ at *
      intro hf hc
      go_simp
      exact ⟨relM_quiet (by decide) (Only.refl _ _), rfl⟩
    · intro a wx h
      obtain ⟨v20, e20, f20⟩ := h.val 7 20 (by kernel_rfl)
      obtain rfl : v20 = .pointer (some ⟨sl x.p, 0, none⟩) := f20
      have hrel := h.rel
      clear h
      refine gives_by rfl a.eval rfl ?_
      generalize a.eval = ρ at *
      intro hf hc
      go_simp
      exact ⟨relM_quiet (by decide) (Only.refl _ _), rfl⟩
    · intro a wx h
      obtain ⟨v16, e16, f16⟩ := h.val 3 16 (by kernel_rfl)
      obtain rfl : v16 = dp b := f16
      obtain ⟨v17, e17, f17⟩ := h.val 4 17 (by kernel_rfl)
      obtain rfl : v17 = .int .i64 x.p := f17
      obtain ⟨v21, e21, f21⟩ := h.val 8 21 (by kernel_rfl)
      obtain rfl : v21 = .slice (some ⟨sl x.p, 0, none⟩) 256 256 := f21
      have hrel := h.rel
      have hq := h.relq rfl
      clear h
      refine gives_by rfl a.eval rfl ?_
      generalize a.eval = ρ at *
      intro hf hc
      go_simp
      refine (HWQ.out wx hq).mono ?_
      rintro e wy ⟨rfl, hd, ho⟩
      exact ⟨_, rfl, relM_turn ho, rfl, hd⟩
  · intro oL hoL vals w3 ho3 hv
    simp only [List.getElem?_toArray, List.getElem?_cons_succ, List.getElem?_cons_zero, Option.some.injEq] at hoL
    subst hoL
    have hv9 : isWc E b (fun k => G k ∨ w.heap.size ≤ k) d' (vals 9) w3 := hv 9 22 (by decide) (by kernel_rfl)
    have hv5 := hv 5 18 (by decide) (by kernel_rfl)
    clear hv hv5
    generalize hact : putAll _ vals 0 _ = act
    obtain ⟨hv9, hd9⟩ := hv9
    have HD9 := hide hd9
    have hC3 := HH.out.keep ho3 (fun k => HAP.out k)
    have hB3 := hC3.slots.slot x HX.out
    have c256 : w3.cell? ⟨sl x.p, 256, none⟩ = some (.bool x.ch) := (hB3.cell 256).trans (sc_ch HOK.out)
    have f256 := hB3.frozen 256
    have HC3 := hide hC3
    have HB3 := hide hB3
    have HO3 := hide ho3
    clear hd9 ho3 hC3 hB3 HC0 HWQ c2 hlk
    subst hact
    simp only [List.dropLast, putAll, Act.put, List.setIfInBounds_toArray, List.set_cons_zero, List.set_cons_succ, hv9, Nat.zero_add, Nat.reduceAdd]
    refine gives_of_run rfl (exec_assign (.tmp 22) rfl (.int .i64 E) rfl) ?_
    clear hv9
    by_cases hE : E = 0
    · subst hE
      go_wp2
      go_ret
      have ho4 : Only (· = sl x.p) w3 (w3.setCell ⟨sl x.p, 256, none⟩ (.bool false)) := (Only.refl (· = sl x.p) w3).setCell ⟨sl x.p, 256, none⟩ _ (fun _ => rfl)
      have hB4 := HB3.out.set 256 (.bool false)
      rw [sc_set_ch HOK.out] at hB4
      refine ⟨rfl, HC3.out.reslot x.p (fun y => { y with ch := false }) (fun _ => rfl) HX.out rfl ho4 hB4 HOK.out, HD9.out.keep ho4 (fun k hk e => ?_), (HO3.out.mono (fun k _ h => .inr h)).trans ho4 (fun k _ e => by rw [e]; exact .inl (HH.out.slots.fs x HX.out))⟩
      subst e
      have hfs := HH.out.slots.fs x HX.out
      have hlt := (HH.out.slots.slot x HX.out).lt
      rcases hk with hk | hk
      · exact HAP.out _ hfs hk
      · omega
    · go_wp2
      go_ret
      exact ⟨rfl, HC3.out, HD9.out, HO3.out.mono (fun k _ h => .inr h)⟩
end

end Go.Proofs.YtoplhehcjgldeaaGreat
