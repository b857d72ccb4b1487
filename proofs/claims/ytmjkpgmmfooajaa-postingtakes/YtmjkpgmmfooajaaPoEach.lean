/- Contracts: package posting's each, as an iterator. -/
import Derived.Test.YtmjkpgmmfooajaaPoNx2
import Derived.Test.YtmjkpgmmfooajaaPoAll
import Derived.Test.YtmjkpgmmfooajaaPoRng
import Derived.Test.YtmjkpgmmfooajaaPoRead
import Derived.Test.YtmjkpgmmfooajaaRegionY
namespace Go.Proofs.Ytmjkpgmmfooajaa
set_option maxRecDepth 20000
open Go.RowKit Go.Shelf
set_option linter.unusedVariables false
set_option linter.unusedSimpArgs false
set_option maxRecDepth 100000
attribute [local go_sem] Oper.semAt_some

theorem each_any (w : World) (ao : Option Addr) (n cap : Nat) (prev : Int) : Calls Try.prog 43 #[.slice ao n cap, .int .u32 prev] w fun e w' => e = .returned (.func (.func 52) #[] #[.pointer (some ⟨w.heap.size, 0, none⟩), .pointer (some ⟨w.heap.size + 1, 0, none⟩)]) ∧ w' = (w.alloc (.cells #[.slice ao n cap] 23)).alloc (.cells #[.int .u32 prev] 22) := by
  go_enter Try.func43, Try.ntmps43
  go_wp2
  go_ret
  exact ⟨rfl, rfl⟩
theorem enters_each : ∀ args w, (callFunc 52 args).run Try.prog w = .ok (.enter 52 args) w := enters_of Try.func52 (by kernel_rfl) rfl

/-- what is handed out: where it ends, and a posting in memory that the iterator made -/
def EncPo (x : Nat × Po) (Y : Nat → Prop) (W : World) (args : Array Value) : Prop := ∃ u, args = #[.int .i64 (x.1 : Int), .agg #[.int .u32 (x.2.doc : Int), u]] ∧ x.2.doc < 4294967296 ∧ Ints W 0 u x.2.pos ∧ ∀ j, u.ownBlock = some j → Y j
theorem PoN.stay {S : Nat → Prop} {W W' : World} {base : Nat} {v : Value} {p : Po} (h : PoN W base v p) (ho : Only (fun j => S j ∧ noInts W j) W W') : PoN W' base v p := by
  obtain ⟨h1, u, rfl, h2⟩ := h
  refine ⟨h1, u, rfl, h2.only ho (fun j hj hs => ?_)⟩
  rcases h2.form with ⟨rfl, _⟩ | ⟨g, cap, sp, rfl, _, _, _, hB, _⟩
  · cases hj
  · simp [Value.ownBlock] at hj
    subst hj
    exact hs.2 _ _ hB
/-- what each reads: the bytes and the document at its beginning, how many bytes there are always -/
def EachV (Bs Pv : Nat) (bv : Value) (zs : List Int) (prev : Nat) (k : Nat) (W : World) : Prop := W.cell? ⟨Bs, 0, none⟩ = some bv ∧ (k = 0 → W.cell? ⟨Pv, 0, none⟩ = some (.int .u32 (prev : Int)) ∧ Sl W bv zs)
/-- how many bytes are left to a reader -/
def rdLen (W : World) (b : Nat) : Nat := match W.cell? ⟨b, 1, none⟩ with | some (.slice _ n _) => n | _ => 0
theorem Rd.left {W : World} {b : Nat} {u : Value} {zs : List Int} {er : Int} (h : Rd W b u zs er) : rdLen W b = zs.length := by
  obtain ⟨_, c1, _⟩ := h.cells
  obtain ⟨_, ⟨_, ao, cap, rfl, _⟩, _⟩ := h
  unfold rdLen; rw [c1]
def StY (W4 : World) (Post : Bool → World → Prop) : Nat → (Nat → Value) → World → Prop
  | 0, _, w => w = W4
  | 1, vals, w => ∃ r, vals 10 = .bool r ∧ Post r w
  | 2, vals, w => ∃ r, vals 11 = .bool (!r) ∧ Post r w
  | _, vals, w => ∃ r, vals 12 = .bool (!r) ∧ Post r w
def StN (W4 : World) : Nat → (Nat → Value) → World → Prop
  | 0, _, w => w = W4
  | _, vals, w => vals 12 = .bool true ∧ w = W4

theorem Rd.keepsY {Z : Nat → Prop} {w w' : World} {b : Nat} {u : Value} {zs : List Int} {er : Int} (h : Rd w b u zs er) (hk : KeepsY Z w w') (hb : Z b) (hu : ∀ j, u.ownBlock = some j → Z j) : Rd w' b u zs er :=
  ⟨(hk b hb).trans h.1, h.2.1.keep (fun j hj _ => hk j (hu j hj)), fun j hj => ⟨(h.2.2 j hj).1, by
    have h1 := (h.2.2 j hj).2
    have h2 := hk j (hu j hj)
    rw [Array.getElem?_eq_getElem h1] at h2
    exact (Array.getElem?_eq_some_iff.1 h2).1⟩⟩

set_option maxHeartbeats 2000000 in
theorem each_iter (Bs Pv : Nat) (bv : Value) (zs : List Int) (prev : Nat) (hp : prev < 4294967296) (hl : zs.length ≤ 1000000) : Iter5 Try.prog 52 #[.pointer (some ⟨Bs, 0, none⟩), .pointer (some ⟨Pv, 0, none⟩)] EncPo (allP prev zs) (EachV Bs Pv bv zs prev) := by
  intro l J Jx hJ hJx hV hY Y W h0
  obtain ⟨hc, hz⟩ := hV Y 0 W h0
  obtain ⟨hc2, hs⟩ := hz rfl
  have hzb := hs.bytes
  have HRD := hide (readM_any W bv zs hs hl)
  obtain ⟨bo, bc, rfl⟩ := sl_form' hs
  have HJ := hide hJ
  have HV := hide hV
  have HY := hide hY
  have HJ0 := hide h0
  have HL0 : Hid (allP prev zs = allG zs.length zs.length prev zs) := rfl
  generalize allP prev zs = L at *
  obtain ⟨bn, hbn⟩ : ∃ n, zs.length = n := ⟨_, rfl⟩
  rw [hbn] at hc HRD HL0 HV hl
  have HBN := hide hbn
  have HZB := hide hzb
  clear hz hs hJ hJx hV hY h0 hc2 hbn hzb
  refine callsIn_of_wp Try.func52 rfl trivial ?_ rfl
  simp only [Try.ntmps52, List.size_toArray, List.length_cons, List.length_nil, Nat.reduceAdd, Nat.reduceSub, Array.replicate_succ, Array.replicate_zero, List.push_toArray, List.append_toArray, List.nil_append, List.cons_append]
  gi_wp2_with (first
    | (refine ⟨trivial, ?_⟩; gi_at_call 38; refine (callsIn_wide.2 HRD.out).mono ?_; rintro e w1 ⟨b, u, rfl, hbb, hrd, hfr, hbel⟩; have hj1 := HJ.out Y 0 W w1 HJ0.out (Only.of_below _ hbel); have hc1 := (HV.out _ 0 w1 hj1).1; have hc2 := ((HV.out _ 0 w1 hj1).2 rfl).1; have HJ1 := hide hj1; have HR1 := hide hrd; have HF1 := hide hfr; have HBB := hide hbb; clear HRD hbb hrd hfr hbel hj1 hc))
  gi_loopw [5] (fun lv wr => ∃ (k f D : Nat) (z : List Int) (u : Value) (Z : Nat → Prop), lv = .int .u32 (D : Int) ∧ D < 4294967296 ∧ J Z k wr ∧ Rd wr b u z 0 ∧ Z b ∧ (∀ j, u.ownBlock = some j → Z j) ∧ z.length ≤ f ∧ z.length ≤ bn ∧ k ≤ L.length ∧ L.drop k = allG bn f D z) (fun _ wr => rdLen wr b)
  case atStart => exact ⟨0, bn, prev, zs, u, _, rfl, hp, HJ1.out, HR1.out, .inr ⟨HBB.out, HR1.out.lt⟩, fun j hj => .inr (HF1.out j hj), by rw [HBN.out]; exact Nat.le_refl _, by rw [HBN.out]; exact Nat.le_refl _, Nat.zero_le _, HL0.out⟩
  case round =>
    obtain ⟨k, f, D, z, u', Z, rfl, hD, hj, hr, hzb, hzu, hzf, hzn, hk, hd⟩ := hrel
    have HLH := hide (left_any wr b u' z 0 hr)
    have HNX := hide (next_any wr b u' z D hr hD)
    have HRL := hide hr.left
    have hzB := hr.2.1.bytes
    have HJK := hide hj
    have HRR := hide hr
    have HZB2 := hide hzb
    have HZU := hide hzu
    have HDR := hide hd
    have HZK := hide hzB
    have hc1 := (HV.out _ k wr hj).1
    have HVB : Hid (wr.cell? ⟨Bs, 0, none⟩ = some (.slice bo bn bc)) := hc1
    clear hr hj hzb hzu hd hzB HJ1 HR1 HF1 HBB HJ0 HL0 hc1 hc2
    by_cases hz : z.length = 0
    · obtain rfl : z = [] := List.eq_nil_of_length_eq_zero hz
      have hkl : k = L.length := by
        have := HDR.out
        rw [allG_nil, List.drop_eq_nil_iff] at this
        omega
      subst hkl
      clear HNX
      gi_wp2_with (first
        | (refine ⟨trivial, ?_⟩; gi_at_call 40; refine (callsIn_wide.2 HLH.out).mono ?_; rintro e w2 ⟨rfl, hw⟩; subst w2; clear HLH))
      go_end0
      exact ⟨⟨_, rfl⟩, Z, .inl HJK.out⟩
    · have hz0 : (0 : Int) < (z.length : Int) := by omega
      have hzne : z ≠ [] := by intro e; rw [e] at hz; exact hz rfl
      cases hok : nextOk D z with
      | false =>
        have hE : nextE D z = 150 := by unfold nextE; rw [hok]; rfl
        have hkl : k = L.length := by
          have := HDR.out
          rw [allG_no hok, List.drop_eq_nil_iff] at this
          omega
        subst hkl
        unfold GivesNx at HNX
        rw [hE] at HNX
        generalize nextQ D z = p at *
        clear hok hE hzne
        generalize z.length = zl at *
        gi_wp2_with (first
          | (refine ⟨trivial, ?_⟩; gi_at_call 40; refine (callsIn_wide.2 HLH.out).mono ?_; rintro e w2 ⟨rfl, hw⟩; subst w2; clear HLH)
          | (refine ⟨trivial, ?_⟩; gi_at_call 39; refine (callsIn_wide.2 HNX.out).mono ?_; rintro e w2 ⟨v, rfl, ⟨hpd, pu, rfl, hpi⟩, ho, _⟩; obtain ⟨po, pc, rfl⟩ := hpi.shape; have HO := hide ho; have HPI := hide hpi; clear HNX hpi ho))
        generalize p.pos.length = pn at *
        obtain ⟨W4, hW4⟩ : ∃ x, (w2.alloc (.cells #[.int .u32 (p.doc : Int), .slice po pn pc] 34)).drew = x := ⟨_, rfl⟩
        have HW4 := hide hW4
        have hOW : Only (fun j => Z j ∧ noInts wr j) wr W4 := by
          rw [← hW4]
          exact ((HO.out.alloc _).drew).mono (fun i hi e => by subst e; exact ⟨HZB2.out, fun cs f e => by rw [HRR.out.1] at e; simp at e⟩)
        have HJ4 := hide (HJ.out Z L.length wr W4 HJK.out hOW)
        clear hOW hW4
        refine wpIn_region_chainY [some (.int .i64 150), some (.bool true), some (.bool true), some (undef), some (undef), some (undef), some (undef), some (undef), some (undef), some (undef), some (undef), some (undef), none] [12] (StN W4) 35 (by kernel_rfl) (by kernel_rfl) (by kernel_rfl) (by kernel_rfl) rfl ?_ ?_ ?_
        · exact fun vals0 => HW4.out
        · refine ⟨?_, ?_, ?_, ?_, ?_, ?_, ?_, ?_, ?_, ?_, ?_, ?_, ?_, trivial⟩
          · intro k vals act wx hk hlk h hs
            have e7 : act.eval (.tmp 7) = .int .i64 150 := h.old 7 (by kernel_rfl)
            obtain rfl := chain_zero hlk (by kernel_rfl)
            obtain rfl : wx = W4 := hs
            clear h hlk
            refine givesY_of (by intro c hc; cases hc) (gives_by rfl act.eval rfl ?_)
            generalize act.eval = ρ at *
            intro hf hc
            go_simp
            exact ⟨rfl, rfl⟩
          · intro k vals act wx hk hlk h hs
            have e20 : act.eval (.tmp 20) = .int .i64 150 := h.q 0 20 (by kernel_rfl) rfl
            obtain rfl := chain_zero hlk (by kernel_rfl)
            obtain rfl : wx = W4 := hs
            clear h hlk
            refine givesY_of (by intro c hc; cases hc) (gives_by rfl act.eval rfl ?_)
            generalize act.eval = ρ at *
            intro hf hc
            go_simp
            exact ⟨rfl, rfl⟩
          · intro k vals act wx hk hlk h hs
            have e21 : act.eval (.tmp 21) = .bool true := h.q 1 21 (by kernel_rfl) rfl
            obtain rfl := chain_zero hlk (by kernel_rfl)
            obtain rfl : wx = W4 := hs
            clear h hlk
            refine givesY_of (by intro c hc; cases hc) (gives_by rfl act.eval rfl ?_)
            generalize act.eval = ρ at *
            intro hf hc
            go_simp
            exact ⟨rfl, rfl⟩
          · intro k vals act wx hk hlk h hs
            have hg := h.guard 2 22 (by kernel_rfl) true (h.quiet 2 _ rfl)
            exact givesY_of (by intro c hc; cases hc) (gives_off (by simp only [Region.wanted, hg]; rfl) ⟨rfl, hs⟩)
          · intro k vals act wx hk hlk h hs
            have hg := h.guard 2 22 (by kernel_rfl) true (h.quiet 2 _ rfl)
            exact givesY_of (by intro c hc; cases hc) (gives_off (by simp only [Region.wanted, hg]; rfl) ⟨rfl, hs⟩)
          · intro k vals act wx hk hlk h hs
            have hg := h.guard 2 22 (by kernel_rfl) true (h.quiet 2 _ rfl)
            exact givesY_of (by intro c hc; cases hc) (gives_off (by simp only [Region.wanted, hg]; rfl) ⟨rfl, hs⟩)
          · intro k vals act wx hk hlk h hs
            have hg := h.guard 2 22 (by kernel_rfl) true (h.quiet 2 _ rfl)
            exact givesY_of (by intro c hc; cases hc) (gives_off (by simp only [Region.wanted, hg]; rfl) ⟨rfl, hs⟩)
          · intro k vals act wx hk hlk h hs
            have hg := h.guard 2 22 (by kernel_rfl) true (h.quiet 2 _ rfl)
            exact givesY_of (by intro c hc; cases hc) (gives_off (by simp only [Region.wanted, hg]; rfl) ⟨rfl, hs⟩)
          · intro k vals act wx hk hlk h hs
            have hg := h.guard 2 22 (by kernel_rfl) true (h.quiet 2 _ rfl)
            exact givesY_of (by intro c hc; cases hc) (gives_off (by simp only [Region.wanted, hg]; rfl) ⟨rfl, hs⟩)
          · intro k vals act wx hk hlk h hs
            have hg := h.guard 2 22 (by kernel_rfl) true (h.quiet 2 _ rfl)
            exact givesY_of (by intro c hc; cases hc) (gives_off (by simp only [Region.wanted, hg]; rfl) ⟨rfl, hs⟩)
          · intro k vals act wx hk hlk h hs
            have hg := h.guard 2 22 (by kernel_rfl) true (h.quiet 2 _ rfl)
            exact givesY_of (by intro c hc; cases hc) (gives_off (by simp only [Region.wanted, hg]; rfl) ⟨rfl, hs⟩)
          · intro k vals act wx hk hlk h hs
            have hg := h.guard 2 22 (by kernel_rfl) true (h.quiet 2 _ rfl)
            exact givesY_of (by intro c hc; cases hc) (gives_off (by simp only [Region.wanted, hg]; rfl) ⟨rfl, hs⟩)
          · intro vals act wx h hs
            have e31 : act.eval (.tmp 31) = undef := h.q 11 31 (by kernel_rfl) rfl
            have e22 : act.eval (.tmp 22) = .bool true := h.q 2 22 (by kernel_rfl) rfl
            clear h
            obtain rfl : wx = W4 := hs
            refine givesY_of (by intro c hc; cases hc) (gives_by rfl act.eval rfl ?_)
            generalize act.eval = ρ at *
            intro hf hc
            go_simp
            exact ⟨rfl, rfl⟩
        · intro vals w5 hq hs
          have q0 := hq 0 _ rfl
          have q1 := hq 1 _ rfl
          have q2 := hq 2 _ rfl
          have q3 := hq 3 _ rfl
          have q4 := hq 4 _ rfl
          have q5 := hq 5 _ rfl
          have q6 := hq 6 _ rfl
          have q7 := hq 7 _ rfl
          have q8 := hq 8 _ rfl
          have q9 := hq 9 _ rfl
          have q10 := hq 10 _ rfl
          have q11 := hq 11 _ rfl
          obtain ⟨hr12, rfl⟩ := hs
          simp only [putAll, Act.put, List.setIfInBounds_toArray, List.set_cons_zero, List.set_cons_succ, Nat.zero_add, Nat.reduceAdd]
          rw [hr12]
          clear q0 q1 q2 q3 q4 q5 q6 q7 q8 q9 q10 q11 hr12 hq
          generalize vals 0 = x0 at *
          generalize vals 1 = x1 at *
          generalize vals 2 = x2 at *
          generalize vals 3 = x3 at *
          generalize vals 4 = x4 at *
          generalize vals 5 = x5 at *
          generalize vals 6 = x6 at *
          generalize vals 7 = x7 at *
          generalize vals 8 = x8 at *
          generalize vals 9 = x9 at *
          generalize vals 10 = x10 at *
          generalize vals 11 = x11 at *
          gi_wp2
          refine bodyPost_ret (results_none rfl _ _ _) rfl ?_
          exact ⟨⟨_, rfl⟩, _, .inl HJ4.out⟩
      | true =>
        have hE : nextE D z = 0 := by unfold nextE; rw [hok]; rfl
        have hq : nextQ D z = nextPo D z := by unfold nextQ; rw [if_pos hok]
        obtain ⟨g, rfl⟩ : ∃ g, f = g + 1 := ⟨f - 1, by omega⟩
        have hdr := HDR.out
        rw [allG_yes hzne hok] at hdr
        have hkl : k < L.length := by
          apply Nat.lt_of_not_le
          intro hle
          rw [List.drop_eq_nil_of_le hle] at hdr
          cases hdr
        have hx : L[k] = (bn - (nP z).2.1.length, nextPo D z) ∧ L.drop (k + 1) = allG bn g (nextPo D z).doc (nP z).2.1 := by
          rw [List.drop_eq_getElem_cons hkl] at hdr
          exact List.cons.inj hdr
        obtain ⟨hf1, hf2⟩ := next_yes hD HZK.out hok
        have hfl := (form_len hf2).1
        have hlen : z.length = (formP D (nextPo D z)).length + (nP z).2.1.length := by
          have := congrArg List.length hf1
          rwa [List.length_append] at this
        have hdoc : (nextPo D z).doc < 4294967296 := by have := (may_parts hf2).2.1; omega
        have hrz : (nP z).2.1.length < z.length := by omega
        unfold GivesNx at HNX
        rw [hE, hq] at HNX
        obtain ⟨hx1, hx2⟩ := hx
        have HX1 := hide hx1
        have HX2 := hide hx2
        have HOK := hide hok
        have HRZ := hide hrz
        clear hE hq hdr hx1 hx2 hok hf1 hf2 hfl hlen HDR hzne hrz
        generalize nextPo D z = p at *
        generalize (nP z).2.1 = zr at *
        generalize z.length = zl at *
        gi_wp2_with (first
          | (refine ⟨trivial, ?_⟩; gi_at_call 40; refine (callsIn_wide.2 HLH.out).mono ?_; rintro e w2 ⟨rfl, hw⟩; subst w2; clear HLH)
          | (refine ⟨trivial, ?_⟩; gi_at_call 39; refine (callsIn_wide.2 HNX.out).mono ?_; rintro e w2 ⟨v, rfl, ⟨hpd, pu, rfl, hpi⟩, ho, hyes⟩; obtain ⟨po, pc, rfl⟩ := hpi.shape; have HO := hide ho; have HPI := hide hpi; have HYES := hide (hyes HOK.out); clear HNX hpi ho hyes))
        generalize p.pos.length = pn at *
        obtain ⟨u2, hr2, hu2⟩ := HYES.out
        obtain ⟨W4, hW4⟩ : ∃ x, (w2.alloc (.cells #[.int .u32 (p.doc : Int), .slice po pn pc] 34)).drew = x := ⟨_, rfl⟩
        have HW4 := hide hW4
        have hOW : Only (fun j => Z j ∧ noInts wr j) wr W4 := by
          rw [← hW4]
          exact ((HO.out.alloc _).drew).mono (fun i hi e => by subst e; exact ⟨HZB2.out, fun cs f e => by rw [HRR.out.1] at e; simp at e⟩)
        have hjn := HJ.out Z k wr W4 HJK.out hOW
        have hs2 := HO.out.size
        have hs4 : W4.heap.size = w2.heap.size + 1 := by rw [← hW4]; simp
        have hbl : Below w2.heap.size w2 W4 := by rw [← hW4]; exact ((Below.refl _ w2).alloc (Nat.le_refl _) _).drew
        have hrd4 : Rd W4 b u2 zr 0 := hr2.keep hbl
        have hpb : Blk W4 w2.heap.size 34 [.int .u32 (p.doc : Int), .slice po pn pc] := by rw [← hW4]; exact (Blk.new w2 _ _).drew
        have hpn : Ints W4 0 (.slice po pn pc) p.pos := (HPI.out.base (Nat.zero_le _)).only (Only.of_below (fun _ => False) hbl) (fun _ _ h => h)
        have hyo : ∀ j, (Value.slice po pn pc).ownBlock = some j → more Z wr W4 j := fun j hj => .inr ⟨(HPI.out.lt j hj).1, by have := (HPI.out.lt j hj).2; omega⟩
        have hzb2 : more Z wr W4 b := .inl HZB2.out
        have hzu2 : ∀ j, u2.ownBlock = some j → more Z wr W4 j := fun j hj => .inl (HZU.out j (hu2 j hj))
        have hzp : more Z wr W4 w2.heap.size := .inr ⟨hs2, by omega⟩
        generalize more Z wr W4 = Z2 at *
        have hcb := (HV.out Z2 k W4 hjn).1
        have hyy := HY.out Z2 k hkl W4 #[.int .i64 ((bn - zr.length : Nat) : Int), .agg #[.int .u32 (p.doc : Int), .slice po pn pc]] hjn (by rw [show L[k] = _ from HX1.out]; exact ⟨_, rfl, hpd, hpn, hyo⟩)
        obtain ⟨Post, hPT, hPF, hPO⟩ : ∃ Post : Bool → World → Prop, (∀ W', J Z2 (k + 1) W' ∧ KeepsY Z2 W4 W' → Post true W') ∧ (∀ W', Jx Z2 (k + 1) W' ∧ KeepsY Z2 W4 W' → Post false W') ∧ (∀ r W', Post r W' → (r = true → J Z2 (k + 1) W' ∧ KeepsY Z2 W4 W') ∧ (r = false → Jx Z2 (k + 1) W' ∧ KeepsY Z2 W4 W')) :=
          ⟨fun r W' => (r = true → J Z2 (k + 1) W' ∧ KeepsY Z2 W4 W') ∧ (r = false → Jx Z2 (k + 1) W' ∧ KeepsY Z2 W4 W'), fun W' h => ⟨fun _ => h, fun e => (by cases e)⟩, fun W' h => ⟨fun e => (by cases e), fun _ => h⟩, fun _ _ h => h⟩
        have hlf := left_any W4 b u2 zr 0 hrd4
        have hrz := HRZ.out
        obtain ⟨rl, hrl⟩ : ∃ x, zr.length = x := ⟨_, rfl⟩
        have HRL2 := hide hrl
        rw [hrl] at hlf hrz hyy
        obtain ⟨ed, hed⟩ : ∃ x : Nat, bn - rl = x := ⟨_, rfl⟩
        rw [hed] at hyy
        have HED : Hid (((bn : Int) - (rl : Int)) = (ed : Int)) := by show _ = _; omega
        obtain ⟨hpc0, hpc1⟩ := box_po hpb
        obtain ⟨PB, hPB⟩ : ∃ x, w2.heap.size = x := ⟨_, rfl⟩
        rw [hPB] at hpb hzp hpc0 hpc1 ⊢
        have HCP : Hid (W4.cell? ⟨PB, 0, none⟩ = some (.int .u32 (p.doc : Int)) ∧ W4.cell? ⟨PB, 1, none⟩ = some (.slice po pn pc)) := ⟨hpc0, hpc1⟩
        have HPB := hide hpb
        have HCB := hide hcb
        have HLF := hide hlf
        have HYR := hide hyy
        have HPT := hide hPT
        have HPF := hide hPF
        have HPO := hide hPO
        have HRD4 := hide hrd4
        have HZZ : Hid (Z2 b ∧ (∀ j, u2.ownBlock = some j → Z2 j) ∧ Z2 PB) := ⟨hzb2, hzu2, hzp⟩
        have HNN : Hid (p.doc < 4294967296 ∧ rl < zl ∧ rl ≤ bn ∧ rl ≤ g) := ⟨hdoc, hrz, by omega, by omega⟩
        have HB5 : Hid (ed < 9223372036854775808 ∧ bn ≤ 1000000 ∧ rl ≤ bn) := by show _ ∧ _; omega
        clear hOW hW4 hjn hs2 hs4 hbl hrd4 hpb hpn hyo hzb2 hzu2 hzp hcb hyy hPT hPF hPO hlf hrz hrl hed hpc0 hpc1 hPB hr2 hu2 HYES HJK HRR HO HPI HZB2 HZU HX1
        refine wpIn_region_chainY [some (.int .i64 0), some (.bool false), some (.bool false), some (.func (.yield l) #[] #[]), some (.slice bo bn bc), some (.int .i64 (bn : Int)), some (.pointer (some ⟨b, 0, none⟩)), some (.int .i64 (rl : Int)), some (.int .i64 (ed : Int)), some (.agg #[.int .u32 (p.doc : Int), .slice po pn pc]), none, none, none] [10, 11, 12] (StY W4 Post) 35 (by kernel_rfl) (by kernel_rfl) (by kernel_rfl) (by kernel_rfl) rfl ?_ ?_ ?_
        · exact fun vals0 => HW4.out
        · refine ⟨?_, ?_, ?_, ?_, ?_, ?_, ?_, ?_, ?_, ?_, ?_, ?_, ?_, trivial⟩
          · intro k vals act wx hk hlk h hs
            have e7 : act.eval (.tmp 7) = .int .i64 0 := h.old 7 (by kernel_rfl)
            obtain rfl := chain_zero hlk (by kernel_rfl)
            obtain rfl : wx = W4 := hs
            clear h hlk
            refine givesY_of (by intro c hc; cases hc) (gives_by rfl act.eval rfl ?_)
            generalize act.eval = ρ at *
            intro hf hc
            go_simp
            exact ⟨rfl, rfl⟩
          · intro k vals act wx hk hlk h hs
            have e20 : act.eval (.tmp 20) = .int .i64 0 := h.q 0 20 (by kernel_rfl) rfl
            obtain rfl := chain_zero hlk (by kernel_rfl)
            obtain rfl : wx = W4 := hs
            clear h hlk
            refine givesY_of (by intro c hc; cases hc) (gives_by rfl act.eval rfl ?_)
            generalize act.eval = ρ at *
            intro hf hc
            go_simp
            exact ⟨rfl, rfl⟩
          · intro k vals act wx hk hlk h hs
            have e21 : act.eval (.tmp 21) = .bool false := h.q 1 21 (by kernel_rfl) rfl
            obtain rfl := chain_zero hlk (by kernel_rfl)
            obtain rfl : wx = W4 := hs
            clear h hlk
            refine givesY_of (by intro c hc; cases hc) (gives_by rfl act.eval rfl ?_)
            generalize act.eval = ρ at *
            intro hf hc
            go_simp
            exact ⟨rfl, rfl⟩
          · intro k vals act wx hk hlk h hs
            have hg := h.guard 2 22 (by kernel_rfl) false (h.quiet 2 _ rfl)
            have e0 : act.eval (.tmp 0) = .func (.yield l) #[] #[] := h.old 0 (by kernel_rfl)
            obtain rfl := chain_zero hlk (by kernel_rfl)
            obtain rfl : wx = W4 := hs
            clear h hlk
            refine givesY_of (by intro c hc; cases hc) (gives_by (by simp only [Region.wanted, hg]; rfl) act.eval rfl ?_)
            generalize act.eval = ρ at *
            intro hf hc
            go_simp
            exact ⟨rfl, rfl⟩
          · intro k vals act wx hk hlk h hs
            have hg := h.guard 2 22 (by kernel_rfl) false (h.quiet 2 _ rfl)
            have e1 : act.eval (.tmp 1) = .pointer (some ⟨Bs, 0, none⟩) := h.old 1 (by kernel_rfl)
            obtain rfl := chain_zero hlk (by kernel_rfl)
            obtain rfl : wx = W4 := hs
            clear h hlk
            have hcell := HCB.out
            refine givesY_of (by intro c hc; cases hc) (gives_by (by simp only [Region.wanted, hg]; rfl) act.eval rfl ?_)
            generalize act.eval = ρ at *
            intro hf hc
            go_simp
            exact ⟨rfl, rfl⟩
          · intro k vals act wx hk hlk h hs
            have hg := h.guard 2 22 (by kernel_rfl) false (h.quiet 2 _ rfl)
            have e24 : act.eval (.tmp 24) = .slice bo bn bc := h.q 4 24 (by kernel_rfl) rfl
            obtain rfl := chain_zero hlk (by kernel_rfl)
            obtain rfl : wx = W4 := hs
            clear h hlk
            refine givesY_of (by intro c hc; cases hc) (gives_by (by simp only [Region.wanted, hg]; rfl) act.eval rfl ?_)
            generalize act.eval = ρ at *
            intro hf hc
            go_simp
            exact ⟨rfl, rfl⟩
          · intro k vals act wx hk hlk h hs
            have hg := h.guard 2 22 (by kernel_rfl) false (h.quiet 2 _ rfl)
            have e4 : act.eval (.tmp 4) = .pointer (some ⟨b, 0, none⟩) := h.old 4 (by kernel_rfl)
            obtain rfl := chain_zero hlk (by kernel_rfl)
            obtain rfl : wx = W4 := hs
            clear h hlk
            refine givesY_of (by intro c hc; cases hc) (gives_by (by simp only [Region.wanted, hg]; rfl) act.eval rfl ?_)
            generalize act.eval = ρ at *
            intro hf hc
            go_simp
            exact ⟨rfl, rfl⟩
          · intro k vals act wx hk hlk h hs
            have hg := h.guard 2 22 (by kernel_rfl) false (h.quiet 2 _ rfl)
            have e26 : act.eval (.tmp 26) = .pointer (some ⟨b, 0, none⟩) := h.q 6 26 (by kernel_rfl) rfl
            obtain rfl := chain_zero hlk (by kernel_rfl)
            obtain rfl : wx = W4 := hs
            clear h hlk
            refine givesY_of (by intro c hc; cases hc) (gives_by (by simp only [Region.wanted, hg]; rfl) act.eval rfl ?_)
            generalize act.eval = ρ at *
            intro hf hc
            go_simp
            refine HLF.out.mono ?_; rintro e w' ⟨rfl, hw⟩; subst hw; exact ⟨_, rfl, rfl, rfl⟩
          · intro k vals act wx hk hlk h hs
            have hg := h.guard 2 22 (by kernel_rfl) false (h.quiet 2 _ rfl)
            have e25 : act.eval (.tmp 25) = .int .i64 (bn : Int) := h.q 5 25 (by kernel_rfl) rfl
            have e27 : act.eval (.tmp 27) = .int .i64 (rl : Int) := h.q 7 27 (by kernel_rfl) rfl
            obtain rfl := chain_zero hlk (by kernel_rfl)
            obtain rfl : wx = W4 := hs
            clear h hlk
            have hed := HED.out
            have hbb := HB5.out.1
            have hwr : IntKind.i64.wrap (ed : Int) = (ed : Int) := IntWalk.i64_in _ (by omega)
            refine givesY_of (by intro c hc; cases hc) (gives_by (by simp only [Region.wanted, hg]; rfl) act.eval rfl ?_)
            generalize act.eval = ρ at *
            intro hf hc
            go_simp
            exact ⟨rfl, rfl⟩
          · intro k vals act wx hk hlk h hs
            have hg := h.guard 2 22 (by kernel_rfl) false (h.quiet 2 _ rfl)
            have e6 : act.eval (.tmp 6) = .pointer (some ⟨PB, 0, none⟩) := h.old 6 (by kernel_rfl)
            obtain rfl := chain_zero hlk (by kernel_rfl)
            obtain rfl : wx = W4 := hs
            clear h hlk
            obtain ⟨hc0, hc1⟩ := HCP.out
            refine givesY_of (by intro c hc; cases hc) (gives_by (by simp only [Region.wanted, hg]; rfl) act.eval rfl ?_)
            generalize act.eval = ρ at *
            intro hf hc
            go_simp
            exact ⟨rfl, rfl⟩
          · intro vals act wx h hs
            have hg := h.guard 2 22 (by kernel_rfl) false (h.quiet 2 _ rfl)
            have e23 : act.eval (.tmp 23) = .func (.yield l) #[] #[] := h.q 3 23 (by kernel_rfl) rfl
            have e28 : act.eval (.tmp 28) = .int .i64 (ed : Int) := h.q 8 28 (by kernel_rfl) rfl
            have e29 : act.eval (.tmp 29) = .agg #[.int .u32 (p.doc : Int), .slice po pn pc] := h.q 9 29 (by kernel_rfl) rfl
            clear h
            obtain rfl : wx = W4 := hs
            refine givesY_yield (by intro c hc; cases hc) (by simp only [Region.wanted, hg]; rfl) l #[.int .i64 (ed : Int), .agg #[.int .u32 (p.doc : Int), .slice po pn pc]] ?_ ?_
            · intro f tmps assign body hyy
              generalize act.eval = ρ at *
              go_simp
            · exact yield_weaken HYR.out (fun e w' hh => by
                rcases hh with ⟨rfl, hh⟩ | ⟨rfl, hh⟩
                · exact ⟨_, rfl, true, rfl, HPT.out _ hh⟩
                · exact ⟨_, rfl, false, rfl, HPF.out _ hh⟩)
          · intro vals act wx h hs
            have hg := h.guard 2 22 (by kernel_rfl) false (h.quiet 2 _ rfl)
            have e30 : act.eval (.tmp 30) = vals 10 := h.val 10 30 (by kernel_rfl)
            clear h
            obtain ⟨r, hr, hh⟩ := hs
            rw [show vals 10 = .bool r from hr] at e30
            refine givesY_of (by intro c hc; cases hc) (gives_by (by simp only [Region.wanted, hg]; rfl) act.eval rfl ?_)
            generalize act.eval = ρ at *
            intro hf hc
            go_simp
            exact ⟨r, rfl, hh⟩
          · intro vals act wx h hs
            have e31 : act.eval (.tmp 31) = vals 11 := h.val 11 31 (by kernel_rfl)
            have e22 : act.eval (.tmp 22) = .bool false := h.q 2 22 (by kernel_rfl) rfl
            clear h
            obtain ⟨r, hr, hh⟩ := hs
            rw [show vals 11 = .bool (!r) from hr] at e31
            refine givesY_of (by intro c hc; cases hc) (gives_by rfl act.eval rfl ?_)
            generalize act.eval = ρ at *
            intro hf hc
            go_simp
            exact ⟨r, rfl, hh⟩
        · intro vals w5 hq hs
          have q0 := hq 0 _ rfl
          have q1 := hq 1 _ rfl
          have q2 := hq 2 _ rfl
          have q3 := hq 3 _ rfl
          have q4 := hq 4 _ rfl
          have q5 := hq 5 _ rfl
          have q6 := hq 6 _ rfl
          have q7 := hq 7 _ rfl
          have q8 := hq 8 _ rfl
          have q9 := hq 9 _ rfl
          obtain ⟨r, hr, hh⟩ := hs
          have hr12 : vals 12 = .bool (!r) := hr
          simp only [putAll, Act.put, List.setIfInBounds_toArray, List.set_cons_zero, List.set_cons_succ, Nat.zero_add, Nat.reduceAdd]
          rw [hr12]
          clear q0 q1 q2 q3 q4 q5 q6 q7 q8 q9 hr12 hr hq
          generalize vals 0 = x0 at *
          generalize vals 1 = x1 at *
          generalize vals 2 = x2 at *
          generalize vals 3 = x3 at *
          generalize vals 4 = x4 at *
          generalize vals 5 = x5 at *
          generalize vals 6 = x6 at *
          generalize vals 7 = x7 at *
          generalize vals 8 = x8 at *
          generalize vals 9 = x9 at *
          generalize vals 10 = x10 at *
          generalize vals 11 = x11 at *
          have hh2 := HPO.out r w5 hh
          cases r with
          | true =>
            obtain ⟨hj5, hk5⟩ := hh2.1 rfl
            have hp5 : Blk w5 PB 34 [.int .u32 (p.doc : Int), .slice po pn pc] := (hk5 PB HZZ.out.2.2).trans HPB.out
            obtain ⟨p0, p1⟩ := box_po hp5
            have HJ5 := hide hj5
            have HK5 := hide hk5
            clear hj5 hk5 hp5 hh2 hh
            gi_wp2
            go_roundw
            case rel =>
              have hr5 : Rd w5 b u2 zr 0 := HRD4.out.keepsY HK5.out HZZ.out.1 HZZ.out.2.1
              exact ⟨k + 1, g, p.doc, zr, u2, Z2, rfl, HNN.out.1, HJ5.out, hr5, HZZ.out.1, HZZ.out.2.1, by rw [HRL2.out]; exact HNN.out.2.2.2, by rw [HRL2.out]; exact HNN.out.2.2.1, by omega, HX2.out⟩
            case measure =>
              have hr5 : Rd w5 b u2 zr 0 := HRD4.out.keepsY HK5.out HZZ.out.1 HZZ.out.2.1
              rw [HRL.out, hr5.left, HRL2.out]
              exact HNN.out.2.1
          | false =>
            obtain ⟨hj5, hk5⟩ := hh2.2 rfl
            have HJ5 := hide hj5
            clear hj5 hk5 hh2 hh
            gi_wp2
            refine bodyPost_ret (results_none rfl _ _ _) rfl ?_
            exact ⟨⟨_, rfl⟩, Z2, .inr ⟨k, hkl, HJ5.out⟩⟩

end Go.Proofs.Ytmjkpgmmfooajaa
