/- A device: what the document says of it ('Dv'), and how package disk's struct, rows and map hold it ('Dev'). -/
import Derived.Test.YtoplhehcjgldeaaDSmall
namespace Go.Proofs.Ytoplhehcjgldeaa
open Go.RowKit
set_option linter.unusedVariables false

/-! ### what the document says -/
structure Dv where
  st : List (List Int)
  ws : List (Nat × List Int)
  off : Bool
  left : Option Nat
  done : Nat

def PageOk (r : List Int) : Prop := r.length = 256 ∧ ByteOk r
structure DvOk (d : Dv) : Prop where
  pos : 0 < d.st.length
  few : d.st.length ≤ 2048
  st : ∀ r ∈ d.st, PageOk r
  ws : ∀ x ∈ d.ws, x.1 < d.st.length ∧ PageOk x.2
  left : ∀ n, d.left = some n → n ≤ 9223372036854775807

/-- where the last write of a page stands -/
def lastIx : List (Nat × List Int) → Nat → Option Nat
  | [], _ => none
  | x :: r, p => match lastIx r p with
    | some i => some (i + 1)
    | none => if x.1 = p then some 0 else none
theorem lastIx_snoc (x : Nat × List Int) (p : Nat) : ∀ ws : List (Nat × List Int), lastIx (ws ++ [x]) p = if x.1 = p then some ws.length else lastIx ws p
  | [] => by simp [lastIx]
  | y :: r => by
    rw [List.cons_append, lastIx, lastIx_snoc x p r, lastIx]
    by_cases h : x.1 = p <;> simp [h]
theorem lastIx_lt : ∀ (ws : List (Nat × List Int)) (p i : Nat), lastIx ws p = some i → ∃ h : i < ws.length, ws[i].1 = p
  | [], _, _, h => by simp [lastIx] at h
  | x :: r, p, i, h => by
    rw [lastIx] at h
    cases hr : lastIx r p with
    | some j =>
      rw [hr] at h
      obtain rfl := Option.some.inj h
      obtain ⟨h1, h2⟩ := lastIx_lt r p j hr
      exact ⟨by simp; omega, by simpa using h2⟩
    | none =>
      rw [hr] at h
      by_cases hx : x.1 = p
      · simp [hx] at h; subst h; exact ⟨by simp, by simpa using hx⟩
      · simp [hx] at h

def wAt (ws : List (Nat × List Int)) (i : Nat) : Nat × List Int := ws.getD i (0, [])
theorem wAt_lt {ws : List (Nat × List Int)} {i : Nat} (h : i < ws.length) : wAt ws i = ws[i] := by simp [wAt, List.getD, h]
def sAt (st : List (List Int)) (p : Nat) : List Int := st.getD p []
theorem sAt_lt {st : List (List Int)} {i : Nat} (h : i < st.length) : sAt st i = st[i] := by simp [sAt, List.getD, h]

/-- what a page shows -/
def showsD (d : Dv) (p : Nat) : List Int := match lastIx d.ws p with
  | some i => (wAt d.ws i).2
  | none => sAt d.st p

def spendE (d : Dv) : Int := match d.left with
  | some 0 => 5
  | _ => 0
def spendD (d : Dv) : Dv := match d.left with
  | some 0 => { d with off := true }
  | some (n + 1) => { d with left := some n, done := d.done + 1 }
  | none => { d with done := d.done + 1 }

theorem DvOk.row {d : Dv} (h : DvOk d) {p : Nat} (hp : p < d.st.length) : PageOk (sAt d.st p) := by rw [sAt_lt hp]; exact h.st _ (List.getElem_mem hp)
theorem DvOk.wait {d : Dv} (h : DvOk d) {i : Nat} (hi : i < d.ws.length) : (wAt d.ws i).1 < d.st.length ∧ PageOk (wAt d.ws i).2 := by rw [wAt_lt hi]; exact h.ws _ (List.getElem_mem hi)
theorem DvOk.shows {d : Dv} (h : DvOk d) {p : Nat} (hp : p < d.st.length) : PageOk (showsD d p) := by
  unfold showsD
  split
  · rename_i i hi
    exact (h.wait (lastIx_lt _ _ _ hi).1).2
  · exact h.row hp
theorem DvOk.spend {d : Dv} (h : DvOk d) : DvOk (spendD d) := by
  unfold spendD
  split
  · exact ⟨h.pos, h.few, h.st, h.ws, h.left⟩
  · rename_i n hn
    exact ⟨h.pos, h.few, h.st, h.ws, fun m hm => by simp at hm; have := h.left _ hn; omega⟩
  · exact ⟨h.pos, h.few, h.st, h.ws, h.left⟩

/-! ### how it lies in memory -/
def pc (r : List Int) : List Value := r.map (Value.int .u8)
def wc (x : Nat × List Int) : List Value := .int .i64 x.1 :: pc x.2
def flatS (st : List (List Int)) : List Value := (st.map pc).flatten
def flatW (ws : List (Nat × List Int)) : List Value := (ws.map wc).flatten
theorem pc_len (r : List Int) : (pc r).length = r.length := by simp [pc]
theorem wc_len (x : Nat × List Int) : (wc x).length = x.2.length + 1 := by simp [wc, pc_len]
theorem pc_one (r : List Int) : ∀ v ∈ pc r, v.oneCell' = true := oneCell_bytes r
theorem wc_one (x : Nat × List Int) : ∀ v ∈ wc x, v.oneCell' = true := by
  intro v hv
  rcases List.mem_cons.1 hv with rfl | h
  · rfl
  · exact pc_one _ v h
theorem rows_pc {st : List (List Int)} (h : ∀ r ∈ st, PageOk r) : ∀ r ∈ st.map pc, r.length = 256 := by
  intro r hr
  obtain ⟨x, hx, rfl⟩ := List.mem_map.1 hr
  rw [pc_len]; exact (h x hx).1
theorem rows_wc {ws : List (Nat × List Int)} (h : ∀ x ∈ ws, PageOk x.2) : ∀ r ∈ ws.map wc, r.length = 257 := by
  intro r hr
  obtain ⟨x, hx, rfl⟩ := List.mem_map.1 hr
  rw [wc_len, (h x hx).1]
theorem flatS_get {st : List (List Int)} (h : ∀ r ∈ st, PageOk r) {p : Nat} (hp : p < st.length) (j : Nat) (hj : j < (pc (sAt st p)).length) : (flatS st)[p * 256 + j]? = (pc (sAt st p))[j]? := by
  have h1 : j < 256 := by rw [pc_len, sAt_lt hp, (h _ (List.getElem_mem hp)).1] at hj; exact hj
  have := flat_get (st.map pc) p (by simpa using hp) (rows_pc h) j h1
  unfold flatS
  rw [this, sAt_lt hp]
  simp
theorem flatW_get {ws : List (Nat × List Int)} (h : ∀ x ∈ ws, PageOk x.2) {i : Nat} (hi : i < ws.length) (j : Nat) (hj : j < (wc (wAt ws i)).length) : (flatW ws)[i * 257 + j]? = (wc (wAt ws i))[j]? := by
  have h1 : j < 257 := by rw [wc_len, wAt_lt hi, (h _ (List.getElem_mem hi)).1] at hj; exact hj
  have := flat_get (ws.map wc) i (by simpa using hi) (rows_wc h) j h1
  unfold flatW
  rw [this, wAt_lt hi]
  simp
theorem flatW_bytes {ws : List (Nat × List Int)} (h : ∀ x ∈ ws, PageOk x.2) {i : Nat} (hi : i < ws.length) (j : Nat) (hj : j < (pc (wAt ws i).2).length) : (flatW ws)[i * 257 + 1 + j]? = (pc (wAt ws i).2)[j]? := by
  have := flatW_get h hi (j + 1) (by rw [wc_len]; rw [pc_len] at hj; omega)
  rw [show i * 257 + 1 + j = i * 257 + (j + 1) by omega, this]
  simp [wc]
theorem flatS_set {st : List (List Int)} (h : ∀ r ∈ st, PageOk r) {p : Nat} (hp : p < st.length) (r : List Int) (hr : r.length = 256) : flatS (st.set p r) = splice (flatS st) (p * 256) (pc r) := by
  unfold flatS
  rw [List.map_set, flat_set (st.map pc) p (pc r) (by simpa using hp) (rows_pc h) (by rw [pc_len]; exact hr)]
theorem flatS_part {st : List (List Int)} (h : ∀ r ∈ st, PageOk r) {p : Nat} (hp : p < st.length) (r : List Int) (hr : r.length ≤ 256) : splice (flatS st) (p * 256) (pc r) = flatS (st.set p (r ++ (sAt st p).drop r.length)) := by
  unfold flatS
  rw [flat_part (st.map pc) p (pc r) (by simpa using hp) (rows_pc h) (by rw [pc_len]; exact hr), List.map_set, sAt_lt hp]
  simp [pc]
theorem flatS_len {st : List (List Int)} (h : ∀ r ∈ st, PageOk r) : (flatS st).length = st.length * 256 := by
  unfold flatS
  rw [flat_len (st.map pc) (rows_pc h)]; simp
theorem flatW_snoc (ws : List (Nat × List Int)) (x : Nat × List Int) : flatW (ws ++ [x]) = flatW ws ++ wc x := by simp [flatW]

/-- what the map of last writes says -/
def Shown (D : DataW Unit) (ws : List (Nat × List Int)) : Prop := ∀ p : Nat, Maps.has D (.int .i64 p) = (lastIx ws p).isSome ∧ ∀ i, lastIx ws p = some i → D.atKey (.int .i64 p) (.lit (.int .i64 0)) = .lit (.int .i64 i)
theorem shown_nil : Shown (.map []) [] := fun p => ⟨rfl, fun i hi => by simp [lastIx] at hi⟩
theorem shown_snoc {D : DataW Unit} {ws : List (Nat × List Int)} (h : Shown D ws) (hD : Maps.IsMap D) (x : Nat × List Int) : Shown (D.put (.int .i64 x.1) (.lit (.int .i64 ws.length))) (ws ++ [x]) := by
  intro p
  rw [lastIx_snoc]
  by_cases hp : x.1 = p
  · subst hp
    rw [if_pos rfl]
    refine ⟨?_, fun i hi => ?_⟩
    · rw [Maps.has_put_same hD (show WideAt.IsKeyLit (Lit.int .i64 (x.1 : Int)) from trivial)]; rfl
    · obtain rfl := Option.some.inj hi
      exact Maps.atKey_put_same hD (show WideAt.IsKeyLit (Lit.int .i64 (x.1 : Int)) from trivial) _ _
  · have hne : (Lit.int .i64 (p : Int)) ≠ .int .i64 (x.1 : Int) := by intro e; simp at e; omega
    rw [if_neg hp]
    refine ⟨?_, fun i hi => ?_⟩
    · rw [Maps.has_put_other hne]; exact (h p).1
    · rw [Maps.atKey_put_other hne]; exact (h p).2 i hi

/-- the device d lies at block b; its blocks are in F -/
structure DevAt (w : World) (b : Nat) (F : Nat → Prop) (d : Dv) (sb cap mb : Nat) (vw : Value) (lf : Int) (D : DataW Unit) : Prop where
  ok : DvOk d
  blk : DiskB w b (.slice (some ⟨sb, 0, none⟩) d.st.length cap) vw (.map (some mb)) (!d.off) d.left.isSome lf d.done
  lf : ∀ n : Nat, d.left = some n → lf = n
  st : w.ownsRow 0 76 256 (.slice (some ⟨sb, 0, none⟩) d.st.length cap) d.st.length (flatS d.st)
  ws : w.ownsRow 0 78 257 vw d.ws.length (flatW d.ws)
  map : w.ownsMap Try.prog 3 (plainElem Try.prog 3) mb d.ws.length D
  shown : Shown D d.ws
  fb : F b
  fs : F sb
  fm : F mb
  fw : ∀ k, vw.ownBlock = some k → F k
def Dev (w : World) (b : Nat) (F : Nat → Prop) (d : Dv) : Prop := ∃ sb cap mb vw lf D, DevAt w b F d sb cap mb vw lf D

theorem own_form {w : World} {base : Nat} {e : TypeId} {size n : Nat} {v : Value} {xs : List Value} (h : w.ownsRow base e size v n xs) :
    (v = .slice none 0 0 ∧ n = 0) ∨ ∃ g cap, v = .slice (some ⟨g, 0, none⟩) n cap := by
  rcases h.2 with h | ⟨g, cap, cur, h, _⟩
  · exact .inl h
  · exact .inr ⟨g, cap, h⟩
theorem Dev.keep {S : Nat → Prop} {w w' : World} {b : Nat} {F : Nat → Prop} {d : Dv} (h : Dev w b F d) (ho : Only S w w') (hn : ∀ k, F k → ¬ S k) : Dev w' b F d := by
  obtain ⟨sb, cap, mb, vw, lf, D, h⟩ := h
  exact ⟨sb, cap, mb, vw, lf, D, h.ok, Blk.only h.blk ho (hn b h.fb), h.lf, ownsRow_only h.st ho (fun k hk => by simp [Value.ownBlock] at hk; subst hk; exact hn _ h.fs), ownsRow_only h.ws ho (fun k hk => hn k (h.fw k hk)), ownsMap_only h.map ho (hn _ h.fm), h.shown, h.fb, h.fs, h.fm, h.fw⟩
theorem Dev.mono {w : World} {b : Nat} {F G : Nat → Prop} {d : Dv} (h : Dev w b F d) (hG : ∀ k, k < w.heap.size → F k → G k) : Dev w b G d := by
  obtain ⟨sb, cap, mb, vw, lf, D, h⟩ := h
  exact ⟨sb, cap, mb, vw, lf, D, h.ok, h.blk, h.lf, h.st, h.ws, h.map, h.shown, hG b (Blk.lt h.blk) h.fb, hG _ (h.st.lt sb rfl).2 h.fs, hG _ h.map.lt h.fm, fun k hk => hG k (h.ws.lt k hk).2 (h.fw k hk)⟩
theorem Dev.bound {w : World} {b : Nat} {F : Nat → Prop} {d : Dv} (h : Dev w b F d) : Dev w b (fun k => F k ∧ k < w.heap.size) d := h.mono (fun k hk hf => ⟨hf, hk⟩)
theorem Dev.ok {w : World} {b : Nat} {F : Nat → Prop} {d : Dv} (h : Dev w b F d) : DvOk d := by
  obtain ⟨_, _, _, _, _, _, h⟩ := h
  exact h.ok
theorem DevAt.sb_ne {w : World} {b : Nat} {F : Nat → Prop} {d : Dv} {sb cap mb : Nat} {vw : Value} {lf : Int} {D : DataW Unit} (h : DevAt w b F d sb cap mb vw lf D) : sb ≠ b := by
  obtain ⟨_, _, _, _, sp, hB, _⟩ := own_blk h.st
  exact Blk.ne hB h.blk (by decide)
theorem DevAt.wb_ne {w : World} {b : Nat} {F : Nat → Prop} {d : Dv} {sb cap mb : Nat} {vw : Value} {lf : Int} {D : DataW Unit} (h : DevAt w b F d sb cap mb vw lf D) (k : Nat) (hk : vw.ownBlock = some k) : k ≠ b ∧ k ≠ sb := by
  rcases own_form h.ws with ⟨rfl, _⟩ | ⟨g, c, rfl⟩
  · simp [Value.ownBlock] at hk
  · simp [Value.ownBlock] at hk
    subst hk
    obtain ⟨_, _, _, _, sp, hB, _⟩ := own_blk h.ws
    obtain ⟨_, _, _, _, sp', hB', _⟩ := own_blk h.st
    exact ⟨Blk.ne hB h.blk (by decide), Blk.ne hB hB' (by decide)⟩
theorem DevAt.mb_ne {w : World} {b : Nat} {F : Nat → Prop} {d : Dv} {sb cap mb : Nat} {vw : Value} {lf : Int} {D : DataW Unit} (h : DevAt w b F d sb cap mb vw lf D) : mb ≠ b ∧ mb ≠ sb ∧ vw.ownBlock ≠ some mb := by
  obtain ⟨es, clock, hm, _⟩ := h.map
  have key : ∀ {k : Nat} {e : TypeId} {cs : List Value}, Blk w k e cs → mb ≠ k := by
    rintro k e cs hB rfl
    have := (show w.heap[mb]? = _ from hB).symm.trans hm
    simp at this
  refine ⟨key h.blk, ?_, ?_⟩
  · obtain ⟨_, _, _, _, sp, hB, _⟩ := own_blk h.st
    exact key hB
  · intro hk
    rcases own_form h.ws with ⟨rfl, _⟩ | ⟨g, c, rfl⟩
    · simp [Value.ownBlock] at hk
    · simp [Value.ownBlock] at hk
      obtain ⟨_, _, _, _, sp, hB, _⟩ := own_blk h.ws
      exact key hB hk.symm

end Go.Proofs.Ytoplhehcjgldeaa
