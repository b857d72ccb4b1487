/- Contracts: package extent's sets: New, Size, Has, Len, Clone, Same. -/
import Derived.Test.YtbnhacibkmcmkaaDoorESmall
import Derived.Laws.ResultCell
import Derived.DeepKeys
import Derived.Laws.StructEq
namespace Go.Proofs.YtbnhacibkmcmkaaDoor
set_option maxRecDepth 20000
open Go.RowKit
set_option linter.unusedVariables false

/-- a set's cells -/
def sc (n : Nat) (f : Nat → Bool) : List Value := .int .i64 n :: (List.range 32).map (fun i => .int .u64 (word f i : Nat))
theorem sc_len (n : Nat) (f : Nat → Bool) : (sc n f).length = 33 := by simp [sc]
theorem sc_get (n : Nat) (f : Nat → Bool) (i : Nat) (h : i < 32) : (sc n f)[1 + i]? = some (.int .u64 (word f i : Nat)) := by
  rw [Nat.add_comm, sc, List.getElem?_cons_succ, List.getElem?_map, List.getElem?_range h]; rfl
theorem sc_ext {n : Nat} {f g : Nat → Bool} (h : ∀ p, f p = g p) : sc n f = sc n g := by rw [show f = g from funext h]
theorem sc_zero (n : Nat) : sc n (fun _ => false) = [.int .i64 n, .int .u64 0, .int .u64 0, .int .u64 0, .int .u64 0, .int .u64 0, .int .u64 0, .int .u64 0, .int .u64 0, .int .u64 0, .int .u64 0, .int .u64 0, .int .u64 0, .int .u64 0, .int .u64 0, .int .u64 0, .int .u64 0, .int .u64 0, .int .u64 0, .int .u64 0, .int .u64 0, .int .u64 0, .int .u64 0, .int .u64 0, .int .u64 0, .int .u64 0, .int .u64 0, .int .u64 0, .int .u64 0, .int .u64 0, .int .u64 0, .int .u64 0, .int .u64 0] := by
  have h : ∀ i, word (fun _ => false) i = 0 := fun i => word_none (fun _ _ => rfl)
  unfold sc
  simp only [h]
  rfl
structure SetB (w : World) (b n : Nat) (f : Nat → Bool) : Prop where
  blk : Blk w b 81 (sc n f)
  lo : 1 ≤ n
  hi : n ≤ 2048
  out : ∀ p, n ≤ p → f p = false
section
variable {w w' : World} {b n : Nat} {f : Nat → Bool}
theorem SetB.c0 (h : SetB w b n f) : w.cell? ⟨b, 0, none⟩ = some (.int .i64 n) := h.blk.cell 0
theorem SetB.cw (h : SetB w b n f) (i : Nat) (hi : i < 32) : w.cell? ⟨b, 1 + i, none⟩ = some (.int .u64 (word f i : Nat)) := (h.blk.cell _).trans (sc_get n f i hi)
theorem SetB.lt (h : SetB w b n f) : b < w.heap.size := h.blk.lt
theorem SetB.only {S : Nat → Prop} (h : SetB w b n f) (ho : Only S w w') (hn : ¬ S b) : SetB w' b n f := ⟨h.blk.only ho hn, h.lo, h.hi, h.out⟩
theorem SetB.below (h : SetB w b n f) (ho : Below w.heap.size w w') : SetB w' b n f := ⟨h.blk.below ho h.lt, h.lo, h.hi, h.out⟩
end
/-- is page p in it? -/
def hasI (f : Nat → Bool) (p : Int) : Bool := decide (0 ≤ p) && f p.toNat

theorem new_bad (w : World) (n : Int) (h : ¬ (1 ≤ n ∧ n ≤ 2048)) : Calls Tryd.prog 41 #[.int .i64 n] w fun e w' => e = .returned (.tuple #[.pointer none, .int .i64 1]) ∧ w' = w := by
  by_cases h0 : n < 1
  · go_enter Tryd.func41, Tryd.ntmps41
    go_wp2
    go_ret2
    exact ⟨rfl, rfl⟩
  · have h1 : 2048 < n := by omega
    go_enter Tryd.func41, Tryd.ntmps41
    go_wp2
    go_ret2
    exact ⟨rfl, rfl⟩
theorem new_ok (w : World) (n : Nat) (h1 : 1 ≤ n) (h2 : n ≤ 2048) : Calls Tryd.prog 41 #[.int .i64 n] w fun e w' => e = .returned (.tuple #[dp w.heap.size, .int .i64 0]) ∧ w' = w.alloc (.cells (sc n (fun _ => false)).toArray 81) := by
  have h0 : ¬ (n : Int) < 1 := by omega
  have h3 : ¬ (2048 : Int) < n := by omega
  rw [sc_zero]
  go_enter Tryd.func41, Tryd.ntmps41
  go_wp2
  go_ret2
  exact ⟨rfl, rfl⟩
section
variable (w : World) (b n : Nat) (f : Nat → Bool)
theorem size_any (h : SetB w b n f) : Calls Tryd.prog 58 #[dp b] w fun e w' => e = .returned (.int .i64 n) ∧ w' = w := by
  have HM := made_cell w b n h.c0
  rw [decide_eq_true (show 0 < n from h.lo)] at HM
  have HM := hide HM
  have c0 := h.c0
  clear h
  go_enter Tryd.func58, Tryd.ntmps58
  go_wp2_with (go_at_call 62; refine HM.out.mono ?_; rintro e w1 ⟨rfl, hw⟩; subst w1; clear HM)
  go_ret
  exact ⟨rfl, rfl⟩
theorem has_any (p : Int) (h : SetB w b n f) : Calls Tryd.prog 57 #[dp b, .int .i64 p] w fun e w' => e = .returned (.bool (hasI f p)) ∧ ∃ m, w' = w.drewN m := by
  have HM : Hid (∀ m, Calls Tryd.prog 62 #[dp b] (w.drewN m) fun e w' => e = .returned (.bool true) ∧ w' = w.drewN m) := fun m => by
    have HM := made_cell (w.drewN m) b n h.c0
    rw [decide_eq_true (show 0 < n from h.lo)] at HM
    exact HM
  by_cases hp : 0 ≤ p ∧ p < n
  · have HE : Hid (∀ m, Calls Tryd.prog 63 #[dp b, .int .i64 p] (w.drewN m) fun e w' => e = .returned (.bool true) ∧ w' = w.drewN m) := fun m => by
      have HE := exists_any (w.drewN m) b n p h.c0
      rw [decide_eq_true hp] at HE
      exact HE
    obtain ⟨q, rfl⟩ : ∃ q : Nat, p = q := ⟨p.toNat, by omega⟩
    have hn := h.hi
    obtain ⟨I, hI⟩ : ∃ I, q / 64 = I := ⟨_, rfl⟩
    have cw := h.cw I (by omega)
    have hII : (q : Int) / 64 = (I : Int) := by omega
    have hlt : (I : Int) < 32 := by omega
    have hlt' : I < 32 := by omega
    have HB := hide (fun m => bitOf_any (w.drewN m) q)
    have hA := u64_and_nat (word f I) (2 ^ (q % 64)) (word_lt _ _) (two_pow_lt64 (Nat.mod_lt _ (by decide)))
    have hw := word_has f q
    rw [hI] at hw
    obtain ⟨K, hK⟩ : ∃ K, word f I = K := ⟨_, rfl⟩
    obtain ⟨Bt, hBt⟩ : ∃ K, 2 ^ (q % 64) = K := ⟨_, rfl⟩
    obtain ⟨A, hAA⟩ : ∃ A, K &&& Bt = A := ⟨_, rfl⟩
    rw [hK, hBt, hAA] at hA hw
    rw [hK] at cw
    rw [hBt] at HB
    have HW := hide hw
    have he : hasI f (q : Int) = decide (A ≠ 0) := by
      simp only [hasI]
      cases hq : f q with
      | false => simp [hq, HW.out.2 hq]
      | true =>
        have : ¬ A = 0 := fun hh => by rw [HW.out.1 hh] at hq; cases hq
        simp [hq, this]
    rw [he]
    clear h hp hw hK hBt hAA hI he HW hn
    go_enter Tryd.func57, Tryd.ntmps57
    go_wp2
    go_quiet (first
      | (go_at_call 62; exact Calls.quiet_of_same (HM.out _))
      | (go_at_call 63; exact Calls.quiet_of_same (HE.out _))
      | (go_at_call 68; exact Calls.quiet_of_same (HB.out _)))
    go_wp2
    go_ret
    exact ⟨ret_bool (by by_cases hA0 : A = 0 <;> simp [hA0, bne]), _, rfl⟩
  · have HE : Hid (∀ m, Calls Tryd.prog 63 #[dp b, .int .i64 p] (w.drewN m) fun e w' => e = .returned (.bool false) ∧ w' = w.drewN m) := fun m => by
      have HE := exists_any (w.drewN m) b n p h.c0
      rw [decide_eq_false hp] at HE
      exact HE
    have he : hasI f p = false := by
      simp only [hasI]
      by_cases h0 : 0 ≤ p
      · have h1 : n ≤ p.toNat := by omega
        simp [h.out _ h1]
      · simp [h0]
    rw [he]
    clear h hp he
    go_enter Tryd.func57, Tryd.ntmps57
    go_wp2
    go_quiet (first
      | (go_at_call 62; exact Calls.quiet_of_same (HM.out _))
      | (go_at_call 63; exact Calls.quiet_of_same (HE.out _)))
    go_wp2
    go_ret
    exact ⟨rfl, _, rfl⟩
theorem len_any (h : SetB w b n f) : Calls Tryd.prog 59 #[dp b] w fun e w' => e = .returned (.int .i64 (cntF f n : Nat)) ∧ w' = w := by
  have HM := made_cell w b n h.c0
  rw [decide_eq_true (show 0 < n from h.lo)] at HM
  have HM := hide HM
  have HX := hide h
  clear h
  go_enter Tryd.func59, Tryd.ntmps59
  go_wp2_with (go_at_call 62; refine HM.out.mono ?_; rintro e w1 ⟨rfl, hw⟩; subst w1; clear HM)
  go_loopg [3, 8] 32 (fun g c i wr => ∃ j : Nat, g + j = 32 ∧ c = .int .i64 (cntF f (64 * j) : Nat) ∧ i = .int .i64 j ∧ w = wr)
  case atStart => exact ⟨0, rfl, rfl, rfl, rfl⟩
  case round =>
    obtain ⟨j, hj, rfl, rfl, rfl⟩ := hrel
    have hcl := cntF_le f (64 * j)
    cases gk with
    | zero =>
      obtain rfl : j = 32 := by omega
      have E := hide (cntF_past HX.out.out (show n ≤ 64 * 32 from HX.out.hi))
      obtain ⟨C, hC⟩ : ∃ C, cntF f (64 * 32) = C := ⟨_, rfl⟩
      rw [hC] at E hcl ⊢
      clear hC
      go_wp2
      go_ret
      exact ⟨ret_int (by rw [← E.out]), rfl⟩
    | succ k =>
      have hji : (j : Int) < 32 := by omega
      have hjn : j < 32 := by omega
      have cw := HX.out.cw j hjn
      have HO := hide (ones_any w (word f j) (word_lt _ _))
      have e : cntF f (64 * (j + 1)) = cntF f (64 * j) + cntF (word f j).testBit 64 := by
        rw [show 64 * (j + 1) = 64 * j + 64 by omega, cntF_add]
        congr 1
        exact cntF_ext (fun q hq => by rw [word_bit f j q hq])
      have h64 := cntF_le (word f j).testBit 64
      have E := hide e
      generalize cntF (word f j).testBit 64 = C1 at *
      generalize cntF f (64 * j) = C0 at *
      generalize word f j = K at *
      clear e
      go_wp2_with (go_at_call 69; refine HO.out.mono ?_; rintro e w1 ⟨rfl, hw⟩; subst w1; clear HO)
      go_roundg k
      case measure => omega
      case rel => exact ⟨j + 1, by omega, by rw [E.out]; go_num, by go_num, rfl⟩

theorem sizeSet : (Tryd.prog.info? 81).map (·.size) = some 33 := by kernel_rfl
def setZero : Array Value := (sc 0 (fun _ => false)).toArray
theorem setZero_size : setZero.size = 33 := by rw [setZero, List.size_toArray, sc_len]
theorem zeroSetRun (w : World) : (zeroValue 81).run Tryd.prog w = .ok (.agg setZero) w := by
  rw [setZero, sc_zero]
  kernel_rfl
theorem sc_one (n : Nat) (f : Nat → Bool) : ∀ v ∈ sc n f, v.oneCell' = true := by
  intro v hv
  unfold sc at hv
  rcases List.mem_cons.1 hv with rfl | hv
  · rfl
  · obtain ⟨i, _, rfl⟩ := List.mem_map.1 hv
    rfl
theorem clone_nil : Calls Tryd.prog 43 #[.pointer none] w fun e w' => e = .returned (.pointer none) ∧ w' = w := by
  have HM := hide (made_nil w)
  go_enter Tryd.func43, Tryd.ntmps43
  go_wp2_with (go_at_call 62; refine HM.out.mono ?_; rintro e w1 ⟨rfl, hw⟩; subst w1; clear HM)
  go_ret
  exact ⟨rfl, rfl⟩
theorem clone_zero (c0 : w.cell? ⟨b, 0, none⟩ = some (.int .i64 0)) : Calls Tryd.prog 43 #[dp b] w fun e w' => e = .returned (.pointer none) ∧ w' = w := by
  have HM := hide (made_cell w b 0 c0)
  go_enter Tryd.func43, Tryd.ntmps43
  go_wp2_with (go_at_call 62; refine HM.out.mono ?_; rintro e w1 ⟨rfl, hw⟩; subst w1; clear HM)
  go_ret
  exact ⟨rfl, rfl⟩
theorem clone_any (h : SetB w b n f) : Calls Tryd.prog 43 #[dp b] w fun e w' => e = .returned (dp w.heap.size) ∧ w' = w.alloc (.cells (sc n f).toArray 81) := by
  have HM := made_cell w b n h.c0
  rw [decide_eq_true (show 0 < n from h.lo)] at HM
  have HM := hide HM
  have HR := hide (h.blk.range 0 (sc n f) (fun j _ => by rw [Nat.zero_add]))
  have HZ1 : Hid ((Tryd.prog.info? 81).map (·.size) = some (sc n f).length) := by show _ = _; rw [sc_len]; exact sizeSet
  have HZ2 : Hid ((Tryd.prog.info? 81).map (·.size) = some (sc n f).toArray.size) := HZ1
  have HZ3 : Hid (setZero.size = (sc n f).toArray.size) := setZero_size.trans (by rw [List.size_toArray, sc_len])
  have HZ4 : Hid ((sc n f).toArray.all (·.oneCell') = true) := all_oneCell_toArray (sc_one n f)
  have hz := zeroSetRun
  clear h
  generalize sc n f = cs at *
  go_enter Tryd.func43, Tryd.ntmps43
  go_wp2_with (first
    | (go_at_call 62; refine HM.out.mono ?_; rintro e w1 ⟨rfl, hw⟩; subst w1; clear HM)
    | ((with_reducible refine wpList_load_mid rfl 81 (.tmp 8) rfl b 0 ?_ cs _ HR.out Tryd.underlying81 rfl HZ1.out ?_); exact rfl)
    | ((with_reducible refine wpList_store_new rfl 81 (.tmp 3) (.tmp 9) rfl setZero cs.toArray 81 ?_ ?_ HZ3.out HZ2.out HZ4.out ?_); exact rfl; exact rfl))
  go_ret
  exact ⟨rfl, rfl⟩
/-- two sets' structs as they stand -/
theorem keySet : Tryd.prog.keyTypeAt 10000 81 = true := by kernel_rfl
theorem mapM_some' {α β : Type} {F : α → Option β} {G : α → β} : ∀ {l : List α}, (∀ i ∈ l, F i = some (G i)) → l.mapM F = some (l.map G)
  | [], _ => by simp
  | x :: l, h => by
    rw [List.mapM_cons, h x (List.mem_cons_self ..), mapM_some' (l := l) (fun i hi => h i (List.mem_cons_of_mem _ hi))]
    rfl
theorem key_int {P : Program} {t : TypeId} {q : IntKind} {n : Int} (d : Nat) (hu : P.underlying t = some (.int q)) (hw : (Lit.int q n).wf = true) : P.keyLits (d + 1) t [.int q n] = some [.int q n] := by
  unfold Program.keyLits
  rw [hu]
  simp [hw]
theorem cellsWords : Tryd.prog.cellsOf 79 = 32 := by kernel_rfl
theorem cellsU64 : Tryd.prog.cellsOf 78 = 1 := by kernel_rfl
theorem cellsInt : Tryd.prog.cellsOf 3 = 1 := by kernel_rfl
theorem cellsSet : Tryd.prog.cellsOf 81 = 33 := by kernel_rfl
theorem wf_u64 (x : Nat) (h : x < 18446744073709551616) : (Lit.int .u64 (x : Int)).wf = true := by
  simp [Lit.wf, IntKind.min, IntKind.max, IntKind.signed, IntKind.bits]; omega
theorem wf_i64 (x : Nat) (h : x < 9223372036854775808) : (Lit.int .i64 (x : Int)).wf = true := by
  simp [Lit.wf, IntKind.min, IntKind.max, IntKind.signed, IntKind.bits]; omega
theorem flat_ones {α β : Type} (F : α → β) (l : List α) : (l.map (fun i => [F i])).flatten = l.map F := by
  induction l with
  | nil => rfl
  | cons x l ih => simp [ih]
theorem key_words (d : Nat) (x : Nat → Nat) (hx : ∀ i, x i < 18446744073709551616) : Tryd.prog.keyLits (d + 2) 79 ((List.range 32).map (fun i => .int .u64 (x i : Nat))) = some ((List.range 32).map (fun i => .int .u64 (x i : Nat))) := by
  unfold Program.keyLits
  rw [Tryd.underlying79]
  simp only [cellsWords, cellsU64, Nat.mul_one]
  rw [if_pos (by simp), mapM_some' (G := fun i => [Lit.int .u64 (x i : Nat)])]
  · rw [Option.map_some, flat_ones]
  · intro i hi
    have hi := List.mem_range.1 hi
    have e : (((List.range 32).map (fun i => Value.int .u64 (x i : Nat))).drop i).take 1 = [.int .u64 (x i : Nat)] := by
      rw [List.drop_eq_getElem_cons (by simpa using hi)]
      simp
    rw [e]
    exact key_int d Tryd.underlying78 (wf_u64 _ (hx i))
theorem litsSet (n : Nat) (f : Nat → Bool) (hn : n ≤ 2048) : Tryd.prog.keyLits 5 81 (sc n f) = some (.int .i64 n :: (List.range 32).map (fun i => .int .u64 (word f i : Nat))) := by
  unfold Program.keyLits
  rw [Tryd.underlying81]
  simp only [cellsSet, sc_len]
  rw [if_pos ⟨by trivial, by decide +kernel⟩]
  have e1 : (sc n f).drop 1 = (List.range 32).map (fun i => .int .u64 (word f i : Nat)) := rfl
  have e2 := key_words 2 (fun i => word f i) (fun i => word_lt f i)
  have e3 : ((List.range 32).map (fun i => Value.int .u64 (word f i : Nat))).take 32 = (List.range 32).map (fun i => Value.int .u64 (word f i : Nat)) := List.take_of_length_le (by simp)
  have e4 := key_int (P := Tryd.prog) 3 Tryd.underlying3 (wf_i64 n (by omega))
  simp only [List.mapM_cons, List.mapM_nil, cellsWords, cellsInt, List.drop_zero, e1, e3, e2, show (sc n f).take 1 = [.int .i64 n] from rfl, e4]
  rfl
theorem formedSet (n : Nat) (f : Nat → Bool) : (Value.agg (sc n f).toArray).formed Tryd.prog 81 = true := by
  simp [Value.formed, Tryd.underlying81, cellsSet, sc_len]
theorem lits_iff (n m : Nat) (f g : Nat → Bool) (hf : ∀ p, n ≤ p → f p = false) (hg : ∀ p, m ≤ p → g p = false) (hn : n ≤ 2048) (hm : m ≤ 2048) :
    (Lit.int .i64 (n : Int) :: (List.range 32).map (fun i => Lit.int .u64 (word f i : Nat)) = Lit.int .i64 (m : Int) :: (List.range 32).map (fun i => Lit.int .u64 (word g i : Nat))) ↔ n = m ∧ ∀ p, f p = g p := by
  constructor
  · intro h
    simp only [List.cons.injEq, Lit.int.injEq, true_and] at h
    refine ⟨by omega, fun p => ?_⟩
    by_cases hp : p < 2048
    · have := congrArg (fun l => l[p / 64]?) h.2
      simp only [List.getElem?_map, List.getElem?_range (show p / 64 < 32 by omega), Option.map_some, Option.some.injEq, Lit.int.injEq, true_and] at this
      have e : word f (p / 64) = word g (p / 64) := by omega
      have e1 := word_bit f (p / 64) (p % 64) (Nat.mod_lt _ (by decide))
      have e2 := word_bit g (p / 64) (p % 64) (Nat.mod_lt _ (by decide))
      rw [show 64 * (p / 64) + p % 64 = p by omega] at e1 e2
      rw [← e1, ← e2, e]
    · rw [hf p (by omega), hg p (by omega)]
  · rintro ⟨rfl, h⟩
    rw [show f = g from funext h]
theorem run_eql_set (n m : Nat) (f g : Nat → Bool) (hf : ∀ p, n ≤ p → f p = false) (hg : ∀ p, m ≤ p → g p = false) (hn : n ≤ 2048) (hm : m ≤ 2048) :
    ∃ r : Bool, (∀ w, (binOp .eql 81 (.agg (sc n f).toArray) (.agg (sc m g).toArray)).run Tryd.prog w = .ok (.bool r) w) ∧ (r = true ↔ n = m ∧ ∀ p, f p = g p) := by
  have one := fun w => run_equalIn_deep (P := Tryd.prog) 0 10000 81 keySet w 5 5 _ _ _ _ (formedSet n f) (formedSet m g) (litsSet n f hn) (litsSet m g hm)
  rw [lits_iff n m f g hf hg hn hm] at one
  by_cases h : n = m ∧ ∀ p, f p = g p
  · refine ⟨true, fun w => ?_, by simp [h]⟩
    obtain ⟨r, h1, h2⟩ := one w
    rw [Nat.zero_add] at h1
    rw [run_eql_struct, h1, h2.2 h]
    rfl
  · refine ⟨false, fun w => ?_, by simp [h]⟩
    obtain ⟨r, h1, h2⟩ := one w
    rw [Nat.zero_add] at h1
    have : r = false := by cases r with
      | false => rfl
      | true => exact absurd (h2.1 rfl) h
    rw [run_eql_struct, h1, this]
    rfl
end

end Go.Proofs.YtbnhacibkmcmkaaDoor
