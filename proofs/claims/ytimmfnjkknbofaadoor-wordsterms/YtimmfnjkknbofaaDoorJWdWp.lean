/- A text's words, rune by rune (pure): what one more rune does to the rows of letters. -/
import Derived.Test.YtimmfnjkknbofaaDoorWdP
import Derived.Test.YtimmfnjkknbofaaDoorJFMarks
import Derived.Test.YtimmfnjkknbofaaDoorDBase
import Derived.Laws.Cover4
namespace Go.Proofs.YtimmfnjkknbofaaDoor
set_option maxRecDepth 20000
open Go.RowKit
set_option linter.unusedVariables false

theorem wdsG_snoc {r : Nat} (hr : letN r = true) : ∀ (p cur : List Nat), (p = [] → cur ≠ []) → (∀ c, p.getLast? = some c → letN c = true) → ∃ I x, wdsG cur p = I ++ [x] ∧ wdsG cur (p ++ [r]) = I ++ [x ++ [r]]
  | [], cur, h, _ => by
    have hc := h rfl
    refine ⟨[], cur, ?_, ?_⟩
    · show (if cur = [] then _ else _) = _
      rw [if_neg hc]; rfl
    · rw [List.nil_append, wdsG_on cur [] hr]
      show (if cur ++ [r] = [] then _ else _) = _
      rw [if_neg (by simp)]; rfl
  | q :: p, cur, _, hl => by
    by_cases hp : p = []
    · subst hp
      have hq : letN q = true := hl q rfl
      obtain ⟨I, x, h1, h2⟩ := wdsG_snoc hr [] (cur ++ [q]) (fun _ => by simp) (fun c hc => by cases hc)
      refine ⟨I, x, ?_, ?_⟩
      · rw [wdsG_on cur [] hq]; exact h1
      · rw [List.cons_append, wdsG_on cur _ hq]; exact h2
    · have hl2 : ∀ c, p.getLast? = some c → letN c = true := fun c hc => hl c (by rw [List.getLast?_cons, hc]; rfl)
      cases hq : letN q with
      | true =>
        obtain ⟨I, x, h1, h2⟩ := wdsG_snoc hr p (cur ++ [q]) (fun e => absurd e hp) hl2
        refine ⟨I, x, ?_, ?_⟩
        · rw [wdsG_on cur p hq]; exact h1
        · rw [List.cons_append, wdsG_on cur _ hq]; exact h2
      | false =>
        obtain ⟨I, x, h1, h2⟩ := wdsG_snoc hr p [] (fun e => absurd e hp) hl2
        by_cases hc : cur = []
        · subst hc
          have e1 : wdsG [] (q :: p) = wdsG [] p := wds_no p hq
          have e2 : wdsG [] (q :: (p ++ [r])) = wdsG [] (p ++ [r]) := wds_no _ hq
          exact ⟨I, x, e1.trans h1, by rw [List.cons_append, e2]; exact h2⟩
        · refine ⟨cur :: I, x, ?_, ?_⟩
          · rw [wdsG_off hc p hq]; show cur :: wdsG [] p = _; rw [h1]; rfl
          · rw [List.cons_append, wdsG_off hc _ hq]; show cur :: wdsG [] (p ++ [r]) = _; rw [h2]; rfl
/-- a rune that is no letter -/
theorem wds_stay (l : List Nat) (i : Nat) (hi : i < l.length) (h : letN l[i] = false) : wds (l.take (i + 1)) = wds (l.take i) := by
  rw [List.take_succ_eq_append_getElem hi, wds_app h, wds_nil, List.append_nil]
/-- a letter that begins a word -/
theorem wds_begin (l : List Nat) (i : Nat) (hi : i < l.length) (h : letN l[i] = true) (hp : ∀ j (e : i = j + 1), letN (l[j]'(by omega)) = false) : wds (l.take (i + 1)) = wds (l.take i) ++ [[l[i]]] := by
  have h1 : wds [l[i]] = [[l[i]]] := wds_one (by simp) (fun x hx => by rw [List.mem_singleton.1 hx]; exact h)
  cases i with
  | zero =>
    rw [List.take_zero, wds_nil, List.nil_append, List.take_succ_eq_append_getElem hi, List.take_zero, List.nil_append]
    exact h1
  | succ j =>
    have hj := hp j rfl
    rw [List.take_succ_eq_append_getElem hi, List.take_succ_eq_append_getElem (show j < l.length by omega), List.append_assoc]
    show wds (l.take j ++ l[j] :: [l[j + 1]]) = wds (l.take j ++ l[j] :: []) ++ _
    rw [wds_app hj, wds_app hj, wds_nil, List.append_nil, h1]
/-- a letter that goes on -/
theorem wds_go (l : List Nat) (i : Nat) (hi : i + 1 < l.length) (h : letN l[i + 1] = true) (hp : letN l[i] = true) : ∃ I x, wds (l.take (i + 1)) = I ++ [x] ∧ wds (l.take (i + 2)) = I ++ [x ++ [l[i + 1]]] := by
  have := wdsG_snoc h (l.take (i + 1)) [] (fun e => by
    have := congrArg List.length e
    rw [List.length_take, List.length_nil] at this
    omega) (fun c hc => by
    rw [List.getLast?_eq_getElem?, List.length_take, List.getElem?_take] at hc
    have e : min (i + 1) l.length - 1 = i := by omega
    rw [e, if_pos (by omega), List.getElem?_eq_getElem (by omega)] at hc
    rw [← Option.some.inj hc]
    exact hp)
  rwa [← List.take_succ_eq_append_getElem hi] at this

theorem wdsG_each : ∀ (l cur : List Nat), ∀ x ∈ wdsG cur l, x.length ≤ cur.length + l.length
  | [], cur, x, hx => by
    change x ∈ (if cur = [] then _ else _ : List (List Nat)) at hx
    split at hx
    · cases hx
    · rw [List.mem_singleton.1 hx]; simp
  | r :: l, cur, x, hx => by
    cases hr : letN r with
    | true =>
      rw [wdsG_on cur l hr] at hx
      have := wdsG_each l (cur ++ [r]) x hx
      simp at this ⊢
      omega
    | false =>
      by_cases he : cur = []
      · subst he
        rw [show wdsG [] (r :: l) = wdsG [] l from wds_no l hr] at hx
        have := wdsG_each l [] x hx
        simp at this ⊢
        omega
      · rw [wdsG_off he l hr] at hx
        rcases List.mem_cons.1 hx with rfl | h
        · omega
        · have := wdsG_each l [] x h
          simp at this ⊢
          omega
theorem wds_each (l : List Nat) : ∀ x ∈ wds l, x.length ≤ l.length := fun x hx => by
  have := wdsG_each l [] x hx
  simpa using this

end Go.Proofs.YtimmfnjkknbofaaDoor
/- Runes in memory ([]rune), owned: read, one more put behind, as a text; contract: the document's runes (incipitref14.runes). -/
namespace Go.Proofs.YtimmfnjkknbofaaDoor
set_option maxRecDepth 20000
open Go.RowKit
set_option linter.unusedVariables false
set_option linter.unusedSimpArgs false
set_option maxRecDepth 100000

def rv (l : List Nat) : List Value := l.map fun r : Nat => Value.int .i32 (r : Int)
theorem rv_len (l : List Nat) : (rv l).length = l.length := by simp [rv]
theorem rv_snoc (l : List Nat) (r : Nat) : rv (l ++ [r]) = rv l ++ [.int .i32 (r : Int)] := by simp [rv]
theorem infoI32 : (Tryd.prog.info? 21).map (fun i => (i.zero, i.size, i.bytes)) = some (some (.int .i32 0), 1, 4) := by kernel_rfl
/-- a []rune that is owned -/
def RnO (w : World) (base : Nat) (v : Value) (l : List Nat) : Prop := w.ownsRow base 21 1 v l.length (rv l)
theorem RnO.only {S : Nat → Prop} {w w' : World} {base : Nat} {v : Value} {l : List Nat} (h : RnO w base v l) (ho : Only S w w') (hn : ∀ k, v.ownBlock = some k → ¬ S k) : RnO w' base v l := ownsRow_only h ho hn
theorem RnO.below {w w' : World} {base : Nat} {v : Value} {l : List Nat} (h : RnO w base v l) (hb : Below w.heap.size w w') : RnO w' base v l := ownsRow_only h (Only.of_below (fun _ => False) hb) (fun _ _ h => h)
theorem RnO.shape {w : World} {base : Nat} {v : Value} {l : List Nat} (h : RnO w base v l) : ∃ ao cap, v = .slice ao l.length cap := own_form' h
theorem RnO.lt {w : World} {base : Nat} {v : Value} {l : List Nat} (h : RnO w base v l) (k : Nat) (hk : v.ownBlock = some k) : base ≤ k ∧ k < w.heap.size := World.ownsRow.lt h k hk
theorem RnO.nil (w : World) (base : Nat) : RnO w base (.slice none 0 0) [] := World.ownsRow_nil _ _ _ _
theorem RnO.base {w : World} {base base' : Nat} {v : Value} {l : List Nat} (h : RnO w base v l) (hb : base' ≤ base) : RnO w base' v l := by
  refine ⟨h.1, ?_⟩
  rcases h.2 with h' | ⟨g, cap, cur, e, h1, r⟩
  · exact .inl h'
  · exact .inr ⟨g, cap, cur, e, Nat.le_trans hb h1, r⟩
theorem RnO.at {w : World} {base : Nat} {ao : Option Addr} {n cap : Nat} {l : List Nat} (h : RnO w base (.slice ao n cap) l) (i : Nat) (hi : i < l.length) : ∃ g, ao = some ⟨g, 0, none⟩ ∧ base ≤ g ∧ g < w.heap.size ∧ w.cell? ⟨g, i, none⟩ = some (.int .i32 (l[i] : Int)) := by
  unfold RnO at h
  cases ao with
  | none =>
    rcases h.2 with ⟨_, e⟩ | ⟨g, cap', sp, e, _⟩
    · omega
    · simp at e
  | some a =>
    rcases h.2 with ⟨e, _⟩ | ⟨g, cap', sp, e, _⟩
    · simp at e
    · simp only [Value.slice.injEq, Option.some.injEq] at e
      obtain ⟨rfl, rfl, rfl⟩ := e
      have hlt := World.ownsRow.lt h g rfl
      refine ⟨g, rfl, hlt.1, hlt.2, ?_⟩
      exact (World.ownsRow.cellAt h i (by omega)).trans (by simp [rv, hi])
/-- one more, out of a row of one that lies there -/
theorem push_rnB (w : World) (base : Nat) (v : Value) (l : List Nat) (h : RnO w base v l) (r : Nat) (q : Nat) (hB : Blk w q 21 [.int .i32 (r : Int)]) (hl : l.length + 1 ≤ 1000000) (hb : base ≤ w.heap.size) :
    ∃ v' w', (Builtin.append_ #[69, 69] 69 #[v, .slice (some ⟨q, 0, none⟩) 1 1]).run Tryd.prog w = .ok v' w' ∧ RnO w' base v' (l ++ [r]) ∧ w.grownBy w' v.ownBlock ∧ (v'.ownBlock = v.ownBlock ∨ v'.ownBlock = some w.heap.size) ∧ ∃ ao cap, v' = .slice ao (l.length + 1) cap := by
  obtain ⟨i0, hi, hz, hs, hby⟩ := info_parts infoI32
  obtain ⟨v', w', hr, h1, h2, _, h4⟩ := run_append_own_at (P := Tryd.prog) w base 69 69 21 i0 (.int .i32 0) 1 4 Tryd.underlying69 hi hz hs hby rfl (by decide) v l.length (rv l) h ⟨q, 0, none⟩ 1 1 [.int .i32 (r : Int)] rfl
    (fun j u hj => by
      have hj0 : j < 1 := by have := (List.getElem?_eq_some_iff.1 hj).1; simpa using this
      obtain rfl : j = 0 := by omega
      have := hB.cell 0
      simp only [List.getElem?_cons_zero, Option.some.injEq] at hj
      subst hj
      exact this) (by intro u hu; simp at hu; subst hu; rfl) (by unfold maxLen; omega) (by omega) hb
  refine ⟨v', w', hr, ?_, h2, ?_, ?_⟩
  · unfold RnO
    rw [rv_snoc]
    simpa using h1
  · simpa using h4
  · exact own_form' h1
theorem push_rn (w : World) (base : Nat) (v : Value) (l : List Nat) (h : RnO w base v l) (r : Nat) (hl : l.length + 1 ≤ 1000000) (hb : base ≤ w.heap.size) :
    ∃ v' w', (Builtin.append_ #[69, 69] 69 #[v, .slice (some ⟨w.heap.size, 0, none⟩) 1 1]).run Tryd.prog (w.alloc (.cells #[.int .i32 (r : Int)] 21)) = .ok v' w' ∧ RnO w' base v' (l ++ [r]) ∧ (w.alloc (.cells #[.int .i32 (r : Int)] 21)).grownBy w' v.ownBlock ∧ (v'.ownBlock = v.ownBlock ∨ v'.ownBlock = some (w.heap.size + 1)) ∧ ∃ ao cap, v' = .slice ao (l.length + 1) cap := by
  have := push_rnB (w.alloc (.cells #[.int .i32 (r : Int)] 21)) base v l (World.ownsRow.alloc h _) r w.heap.size (Blk.new w _ _) hl (by simp; omega)
  rwa [World.size_alloc] at this

/-- runes as a text -/
theorem enc_let (r : Nat) (h : letN r = true) : (Utf8.encode (r : Int)).data.toList = (formL (r : Int)).map fun z => UInt8.ofNat z.toNat := by
  have hl := letN_lt h
  have hr := letN_rune h
  have v : Utf8.valid (r : Int) = true := by simp [Utf8.valid]; omega
  by_cases c : r < 128
  · rw [formL_1 hr (by omega)]
    simp [Utf8.encode, v, c]
  · have c2 : r < 2048 := by omega
    have e1 : (192 + (r : Int) / 64).toNat = 192 + r / 64 := by omega
    have e2 : (128 + (r : Int) % 64).toNat = 128 + r % 64 := by omega
    rw [formL_2 hr (by omega) (by omega)]
    simp [Utf8.encode, v, c, c2, e1, e2]
theorem foldl_enc : ∀ (l : List Nat) (s : ByteArray), (∀ r ∈ l, letN r = true) → ((l.map fun r : Nat => (r : Int)).foldl (fun b n => b ++ Utf8.encode n) s).data.toList = s.data.toList ++ (fmL l).map fun z => UInt8.ofNat z.toNat
  | [], s, _ => by simp [fmL]
  | r :: l, s, h => by
    rw [List.map_cons, List.foldl_cons, foldl_enc l _ (fun x hx => h x (List.mem_cons_of_mem _ hx)), fmL_cons, List.map_append, ← enc_let r (h r (List.mem_cons_self ..))]
    simp [ByteArray.data_append]
theorem runesBytes_fm (l : List Nat) (h : ∀ r ∈ l, letN r = true) : runesBytes (l.map fun r : Nat => (r : Int)) = strOfNums (fmL l) := by
  have := foldl_enc l ByteArray.empty h
  have e : (runesBytes (l.map fun r : Nat => (r : Int))).data.toList = (strOfNums (fmL l)).data.toList := by
    rw [strOfNums_data]
    unfold runesBytes
    rw [this]
    rfl
  cases h1 : runesBytes (l.map fun r : Nat => (r : Int)) with
  | mk d1 =>
    cases h2 : strOfNums (fmL l) with
    | mk d2 =>
      rw [h1, h2] at e
      congr 1
      exact Array.toList_inj.1 e
theorem conv_fm (W : World) (base : Nat) (v : Value) (l : List Nat) (h : RnO W base v l) (hr : ∀ r ∈ l, letN r = true) : (convert 69 9 v).run Tryd.prog W = .ok (.string (strOfNums (fmL l))) W := by
  obtain ⟨ao, cap, rfl⟩ := h.shape
  cases ao with
  | none =>
    rw [run_convert_runes_nil (P := Tryd.prog) W 69 9 21 _ _ Tryd.underlying69 Tryd.underlying21 Tryd.underlying9]
    have : l = [] := by
      rcases h.2 with ⟨_, e⟩ | ⟨g, cap', sp, e, _⟩
      · exact List.eq_nil_of_length_eq_zero e
      · simp at e
    subst this
    rfl
  | some a =>
    rw [run_convert_runes (P := Tryd.prog) W 69 9 21 a l.length cap (l.map fun r : Nat => (r : Int)) (by simp) Tryd.underlying69 Tryd.underlying21 Tryd.underlying9 (fun j hj => by
      have hjl : j < l.length := by simpa using hj
      obtain ⟨g, e, _, _, hc⟩ := h.at j hjl
      obtain rfl : a = ⟨g, 0, none⟩ := by simpa using e
      rw [Addr.add_mid, Nat.zero_add, hc]
      simp [List.getD, hjl])]
    rw [List.take_of_length_le (by simp), runesBytes_fm l hr]

set_option maxHeartbeats 1000000 in
theorem runesD_any (w : World) (v : Value) (zs : List Int) (h : Sl w v zs) (hl : zs.length ≤ 100000) : Calls Tryd.prog 39 #[v] w fun e w' => ∃ u, e = .returned u ∧ RnO w' w.heap.size u (rs zs) ∧ Below w.heap.size w w' := by
  have HRR := hide (refRunes_any w v zs h hl)
  have hrl := runesN_len zs
  unfold rs
  generalize runesN zs = R at *
  obtain ⟨ao, L, cap, rfl⟩ := sl_form h
  clear h
  go_enter Tryd.func39, Tryd.ntmps39
  go_wp2_with (go_at_call 65; refine HRR.out.mono ?_; rintro e w2 ⟨u, rfl, hu, hb⟩; obtain ⟨al, cl, rfl⟩ := hu.shape; have HU := hide hu; have HB2 := hide hb; clear HRR hu hb)
  obtain ⟨n, hn⟩ : ∃ n, R.length = n := ⟨_, rfl⟩
  rw [hn] at HU ⊢
  have HN := hide hn
  have hnl : n ≤ 100000 := by omega
  clear hn hrl
  go_loopg [3, 5] n (fun k o i wr => ∃ (j : Nat) (oa : Option Addr) (oc : Nat), k + j = n ∧ i = .int .i64 (j : Int) ∧ o = .slice oa j oc ∧ RnO wr w.heap.size (.slice oa j oc) ((R.take j).map (·.2)) ∧ Marks wr w.heap.size (.slice al n cl) R ∧ (∀ q, (Value.slice oa j oc).ownBlock = some q → (Value.slice al n cl).ownBlock ≠ some q) ∧ Below w.heap.size w wr)
  case atStart => exact ⟨0, none, 0, by omega, rfl, rfl, RnO.nil _ _, HU.out, (fun q hq => by cases hq), HB2.out⟩
  case round =>
    clear HU HB2
    obtain ⟨j, oa, oc, hk, rfl, rfl, ho, hm, hap, hb⟩ := hrel
    have HO := hide ho
    have HM := hide hm
    have HAP := hide hap
    have HB := hide hb
    clear ho hm hap hb
    cases gk with
    | zero =>
      obtain rfl : j = n := by omega
      have hlt : ¬ (j : Int) < (j : Int) := by omega
      go_wp2
      go_ret
      refine ⟨_, rfl, ?_, HB.out⟩
      have h1 := HO.out
      rwa [List.take_of_length_le (by rw [HN.out]; exact Nat.le_refl _)] at h1
    | succ k =>
      have hj : (j : Int) < (n : Int) := by omega
      have hjR : j < R.length := by rw [HN.out]; omega
      obtain ⟨b, off, ⟨p, r⟩, rfl, hx, q0, q1⟩ := (HM.out.read (by have := HN.out; omega)).at j (by rw [HN.out]; omega)
      simp only at q0 q1
      have HLE : Hid (((R.take j).map (·.2)).length = j) := by show _ = _; simp; omega
      have HTK : Hid ((R.take (j + 1)).map (·.2) = (R.take j).map (·.2) ++ [r]) := by
        show _ = _
        rw [List.take_succ_eq_append_getElem hjR, List.map_append]
        congr 1
        have := (List.getElem?_eq_some_iff.1 hx).2
        simp [this]
      obtain ⟨v2, w3, hr, hi2, hg2, hv2, oa2, oc2, rfl⟩ := push_rn wr w.heap.size _ _ HO.out r (by rw [HLE.out]; omega) HB.out.size
      have hoA : Only (fun q => (Value.slice oa j oc).ownBlock = some q) wr w3 := ((Only.refl _ wr).alloc _).grown hg2 (fun q e _ => e)
      have HM3 : Hid (Marks w3 w.heap.size (.slice (some ⟨b, off, none⟩) n cl) R) := HM.out.only hoA (fun q hq hq2 => HAP.out q hq2 hq)
      have HB3 : Hid (Below w.heap.size w w3) := HB.out.trans (hoA.below HB.out.size (fun q hq e => by have := (HO.out.lt q e).1; omega))
      have HAP3 : Hid (∀ q, (Value.slice oa2 (((R.take j).map (·.2)).length + 1) oc2).ownBlock = some q → (Value.slice (some ⟨b, off, none⟩) n cl).ownBlock ≠ some q) := fun q hq => by
        rcases hv2 with e | e
        · exact HAP.out q (e ▸ hq)
        · rw [e] at hq
          intro hq2
          have h1 := (HM.out.lt q hq2).2
          have h2 := Option.some.inj hq
          omega
      rw [← HTK.out] at hi2
      rw [HLE.out] at hr hi2 HAP3
      have HR := hide hr
      have HI2 := hide hi2
      clear hr hi2 hg2 hv2 hoA hx hjR
      go_wp2_with (at_builtin; (with_reducible refine wpList_append_run _ rfl (.tmp 14) (.tmp 20) 69 rfl _ _ ?_ ?_ _ _ HR.out ?_); exact rfl; exact rfl; clear HR)
      go_roundg k
      case measure => omega
      case rel => exact ⟨j + 1, oa2, oc2, by omega, by go_num, rfl, HI2.out, HM3.out, HAP3.out, HB3.out⟩

end Go.Proofs.YtimmfnjkknbofaaDoor
