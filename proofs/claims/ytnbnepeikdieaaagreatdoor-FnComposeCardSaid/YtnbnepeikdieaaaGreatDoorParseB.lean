/-
  The model's ParseSubst.
  Substitutions read by the program, plain: pairs of what has come so far; what that says of the answer.
  The next binding of a text, as the program reads it.
  ParseSubst of the program.
-/
import Derived.Test.YtnbnepeikdieaaaGreatDoorParses2
import Derived.Test.YtnbnepeikdieaaaGreatDoorSubstT
import Derived.Test.YtnbnepeikdieaaaGreatDoorReaders
import Derived.Test.YtnbnepeikdieaaaGreatDoorMapSubst
import Derived.Test.YtnbnepeikdieaaaGreatDoorSubsQ
import Derived.Deep.AppendLies
import Derived.Deep.LoopGhost
namespace Go.Proofs.YtnbnepeikdieaaaGreatDoor
open Go.RowKit
set_option linter.unusedVariables false
set_option linter.unusedSimpArgs false

/-- All terms of a text, without a bound on their number. -/
noncomputable def rdO (s : ByteArray) : Option (List Tm) := if (tokensOf s).2 = true then allP (3 * (tokensOf s).1.length + 1) (tokensOf s).1 (tokensOf s).1.length 0 else none
/-- The first j pairs of a list: a number and a term. -/
def prs (l : List Tm) (j : Nat) : List Bd := (List.range j).map fun i => ⟨(l.getD (2 * i) zeroTm).num, l.getD (2 * i + 1) zeroTm⟩
def ParsP (l : List Tm) : Prop := l.length % 2 = 0 ∧ (∀ i, 2 * i + 1 < l.length → (l.getD (2 * i) zeroTm).kind = 1) ∧ SubstP (prs l (l.length / 2))
def PsP (s : ByteArray) (l : List Tm) : Prop := rdO s = some l ∧ ParsP l
open Classical in
noncomputable def psB (s : ByteArray) : Bool := decide (∃ l, PsP s l)
open Classical in
noncomputable def psL (s : ByteArray) : List Bd := if h : ∃ l, PsP s l then prs (Classical.choose h) ((Classical.choose h).length / 2) else []
open Classical in
theorem ps_yes {s : ByteArray} {l : List Tm} (h : PsP s l) : psL s = prs l (l.length / 2) ∧ psB s = true := by
  have hx : ∃ l, PsP s l := ⟨l, h⟩
  have e : Classical.choose hx = l := Option.some.inj ((Classical.choose_spec hx).1.symm.trans h.1)
  refine ⟨?_, by unfold psB; exact decide_eq_true hx⟩
  rw [psL, dif_pos hx, e]
open Classical in
theorem ps_no {s : ByteArray} (h : ∀ l, rdO s = some l → ¬ ParsP l) : psL s = [] ∧ psB s = false := by
  have hx : ¬ ∃ l, PsP s l := fun ⟨l, h1, h2⟩ => h l h1 h2
  exact ⟨by rw [psL, dif_neg hx], by unfold psB; exact decide_eq_false hx⟩
theorem prs_length (l : List Tm) (j : Nat) : (prs l j).length = j := by simp [prs]
theorem prs_succ (l : List Tm) (j : Nat) : prs l (j + 1) = prs l j ++ [⟨(l.getD (2 * j) zeroTm).num, l.getD (2 * j + 1) zeroTm⟩] := by
  rw [prs, List.range_succ, List.map_append]; rfl
theorem prs_each {l : List Tm} {j : Nat} (hj : 2 * j ≤ l.length) (hl : l.length ≤ 20000) (hz : szL l ≤ 1048576) : EachB (prs l j) := by
  refine ⟨by rw [prs_length]; omega, fun b hb => ?_⟩
  obtain ⟨i, hi, rfl⟩ := List.mem_map.1 hb
  have hij : i < j := List.mem_range.1 hi
  have h1 : 2 * i + 1 < l.length := by omega
  have h2 : l[2 * i + 1]? = some l[2 * i + 1] := List.getElem?_eq_getElem h1
  have := sz_at h2
  show (l.getD (2 * i + 1) zeroTm).sz ≤ 1048575
  rw [List.getD_eq_getElem?_getD, h2]
  show (l[2 * i + 1]).sz ≤ 1048575
  omega

theorem prs_get {l : List Tm} {j : Nat} {x y : Tm} (hx : l[2 * j]? = some x) (hy : l[2 * j + 1]? = some y) : prs l (j + 1) = prs l j ++ [⟨x.num, y⟩] := by
  rw [prs_succ, List.getD_eq_getElem?_getD, List.getD_eq_getElem?_getD, hx, hy]; rfl
/-- What a read list gives: the answer, whether it was read wholly. -/
def PsF (l : List Tm) (gd : Bool) (r : List Bd) (rb : Bool) : Prop :=
  (∀ (i : Nat) (x : Tm), 2 * i + 1 < l.length → l[2 * i]? = some x → ¬ x.kind = 1 → r = [] ∧ rb = false) ∧
  ((∀ (i : Nat) (x : Tm), 2 * i + 1 < l.length → l[2 * i]? = some x → x.kind = 1) → gd = true → l.length % 2 = 0 → substB (prs l (l.length / 2)) = true → r = prs l (l.length / 2) ∧ rb = true) ∧
  (gd = false ∨ ¬ l.length % 2 = 0 ∨ substB (prs l (l.length / 2)) = false → r = [] ∧ rb = false)
theorem psF_good {s : ByteArray} {l : List Tm} (h : rdO s = some l) : PsF l true (psL s) (psB s) := by
  have uni : ∀ l', rdO s = some l' → l' = l := fun l' h' => Option.some.inj (h'.symm.trans h)
  refine ⟨fun i x hi hx hk => ps_no fun l' h' hp => ?_, fun hk _ hl hs => ?_, fun hno => ps_no fun l' h' hp => ?_⟩
  · obtain rfl := uni l' h'
    have := hp.2.1 i hi
    rw [List.getD_eq_getElem?_getD, hx] at this
    exact hk this
  · refine ps_yes ⟨h, hl, fun i hi => ?_, substB_true.1 hs⟩
    have hx : l[2 * i]? = some l[2 * i] := List.getElem?_eq_getElem (by omega)
    rw [List.getD_eq_getElem?_getD, hx]
    exact hk i _ hi hx
  · obtain rfl := uni l' h'
    rcases hno with h1 | h1 | h1
    · cases h1
    · exact h1 hp.1
    · exact substB_false.1 h1 hp.2.2
theorem psF_bad {s : ByteArray} (h : rdO s = none) : PsF [] false (psL s) (psB s) := by
  have hn := ps_no (s := s) fun l' h' => by rw [h] at h'; cases h'
  exact ⟨fun _ _ _ _ _ => hn, ⟨fun _ h => (nomatch h), fun _ => hn⟩⟩

end Go.Proofs.YtnbnepeikdieaaaGreatDoor

namespace Go.Proofs.YtnbnepeikdieaaaGreatDoor
open Go.RowKit
set_option linter.unusedVariables false
set_option linter.unusedSimpArgs false

theorem come_prefix {K i : Nat} {T : List ByteArray} {A : Option (List Tm)} {xs l : List Tm} (h : Come K T A xs i) (hA : A = some l) : ∃ l', l = xs ++ l' := by
  obtain ⟨n, _, h2⟩ := h
  rw [hA] at h2
  cases hp : allP K T n i with
  | none => rw [hp] at h2; cases h2
  | some q => rw [hp] at h2; cases h2; exact ⟨q, rfl⟩
/-- What the answer is, by what all of the text reads as. -/
structure ParF (A : Option (List Tm)) (r : List Bd) (rb : Bool) : Prop where
  good : ∀ l, A = some l → PsF l true r rb
  bad : A = none → r = [] ∧ rb = false
theorem parF_of {s : ByteArray} : ParF (rdO s) (psL s) (psB s) := ⟨fun _ h => psF_good h, fun h => (psF_bad h).2.2 (.inl rfl)⟩
/-- What has been read so far: a list of pairs, each a variable and a term; the bindings that they are. -/
structure Pairs (K : Nat) (T : List ByteArray) (A : Option (List Tm)) (bs : List Bd) (i : Nat) (xs : List Tm) : Prop where
  come : Come K T A xs i
  len : xs.length = 2 * bs.length
  var : ∀ (j : Nat) (x : Tm), 2 * j + 1 < xs.length → xs[2 * j]? = some x → x.kind = 1
  are : bs = prs xs bs.length
theorem prs_more (xs ys : List Tm) : ∀ j, 2 * j ≤ xs.length → prs (xs ++ ys) j = prs xs j := by
  intro j hj
  unfold prs
  refine List.map_congr_left fun i hi => ?_
  have := List.mem_range.1 hi
  rw [List.getD_eq_getElem?_getD, List.getD_eq_getElem?_getD, List.getD_eq_getElem?_getD, List.getD_eq_getElem?_getD, List.getElem?_append_left (by omega), List.getElem?_append_left (by omega)]
theorem pairs_start {K : Nat} {T : List ByteArray} {A : Option (List Tm)} (h : Come K T A [] 0) : Pairs K T A [] 0 [] := ⟨h, rfl, fun j x hj => by simp at hj, rfl⟩
theorem Pairs.one {K i j m : Nat} {T : List ByteArray} {A : Option (List Tm)} {bs : List Bd} {xs : List Tm} (h : Pairs K T A bs i xs) {x y : Tm} (hi : ¬ T.length ≤ i) (hx : validP K T i = some (x, j)) (hij : i < j) (hk : x.kind = 1) (hj : ¬ T.length ≤ j) (hy : validP K T j = some (y, m)) (hjm : j < m) :
    Pairs K T A (bs ++ [⟨x.num, y⟩]) m (xs ++ [x] ++ [y]) := by
  have hl := h.len
  refine ⟨come_step (come_step h.come hi hx hij) hj hy hjm, by simp; omega, fun n z hn hz => ?_, ?_⟩
  · simp only [List.append_assoc, List.length_append, List.length_cons, List.length_nil] at hn
    by_cases hnl : 2 * n + 1 < xs.length
    · rw [List.append_assoc, List.getElem?_append_left (by omega)] at hz
      exact h.var n z hnl hz
    · have : 2 * n = xs.length := by omega
      rw [List.append_assoc, List.getElem?_append_right (by omega), this, Nat.sub_self] at hz
      simp at hz
      subst hz
      exact hk
  · rw [List.length_append, List.length_singleton]
    have e1 : (xs ++ [x] ++ [y])[2 * bs.length]? = some x := by rw [List.append_assoc, List.getElem?_append_right (by omega), hl, Nat.sub_self]; rfl
    have e2 : (xs ++ [x] ++ [y])[2 * bs.length + 1]? = some y := by rw [List.append_assoc, List.getElem?_append_right (by omega), show 2 * bs.length + 1 - xs.length = 1 by omega]; rfl
    rw [prs_get e1 e2, List.append_assoc, prs_more xs _ bs.length (by omega), ← h.are]
theorem Pairs.size {K i : Nat} {T : List ByteArray} {A : Option (List Tm)} {bs : List Bd} {xs : List Tm} (h : Pairs K T A bs i xs) : bs.length ≤ xs.length := by have := h.len; omega
/-- The end of the text: the answer is the list, if it is a substitution. -/
theorem Pairs.fin {K i : Nat} {T : List ByteArray} {A : Option (List Tm)} {bs : List Bd} {xs : List Tm} {r : List Bd} {rb : Bool} (h : Pairs K T A bs i xs) (hi : T.length ≤ i) (hF : ParF A r rb) :
    (substB bs = true → r = bs ∧ rb = true) ∧ (substB bs = false → r = [] ∧ rb = false) := by
  obtain ⟨p1, p2, p3⟩ := hF.good xs (come_end h.come hi)
  have hl := h.len
  have e1 : xs.length % 2 = 0 := by omega
  have e2 : xs.length / 2 = bs.length := by omega
  rw [e2, ← h.are] at p2 p3
  exact ⟨fun hs => p2 h.var rfl e1 hs, fun hs => p3 (.inr (.inr hs))⟩
/-- No term where a variable was to come. -/
theorem Pairs.no1 {K i : Nat} {T : List ByteArray} {A : Option (List Tm)} {bs : List Bd} {xs : List Tm} {r : List Bd} {rb : Bool} (h : Pairs K T A bs i xs) (hi : ¬ T.length ≤ i) (hv : validP K T i = none) (hF : ParF A r rb) : r = [] ∧ rb = false := hF.bad (come_no h.come hi hv)
/-- A term that is no variable. -/
theorem Pairs.no2 {K i j : Nat} {T : List ByteArray} {A : Option (List Tm)} {bs : List Bd} {xs : List Tm} {r : List Bd} {rb : Bool} (h : Pairs K T A bs i xs) {x : Tm} (hi : ¬ T.length ≤ i) (hx : validP K T i = some (x, j)) (hij : i < j) (hk : ¬ x.kind = 1) (hF : ParF A r rb) : r = [] ∧ rb = false := by
  cases hA : A with
  | none => exact hF.bad hA
  | some l =>
    obtain ⟨l', rfl⟩ := come_prefix (come_step h.come hi hx hij) hA
    obtain ⟨p1, p2, p3⟩ := hF.good _ hA
    have hl := h.len
    have e1 : (xs ++ [x] ++ l')[2 * bs.length]? = some x := by rw [List.append_assoc, List.getElem?_append_right (by omega), hl, Nat.sub_self]; rfl
    by_cases hlen : 2 * bs.length + 1 < (xs ++ [x] ++ l').length
    · exact p1 bs.length x hlen e1 hk
    · refine p3 (.inr (.inl ?_))
      simp only [List.append_assoc, List.length_append, List.length_cons, List.length_nil] at hlen ⊢
      omega
/-- A variable alone at the end. -/
theorem Pairs.no3 {K i j : Nat} {T : List ByteArray} {A : Option (List Tm)} {bs : List Bd} {xs : List Tm} {r : List Bd} {rb : Bool} (h : Pairs K T A bs i xs) {x : Tm} (hi : ¬ T.length ≤ i) (hx : validP K T i = some (x, j)) (hij : i < j) (hj : T.length ≤ j) (hF : ParF A r rb) : r = [] ∧ rb = false := by
  have hA := come_end (come_step h.come hi hx hij) hj
  obtain ⟨p1, p2, p3⟩ := hF.good _ hA
  have hl := h.len
  refine p3 (.inr (.inl ?_))
  simp only [List.length_append, List.length_cons, List.length_nil]
  omega
/-- No term behind a variable. -/
theorem Pairs.no4 {K i j : Nat} {T : List ByteArray} {A : Option (List Tm)} {bs : List Bd} {xs : List Tm} {r : List Bd} {rb : Bool} (h : Pairs K T A bs i xs) {x : Tm} (hi : ¬ T.length ≤ i) (hx : validP K T i = some (x, j)) (hij : i < j) (hj : ¬ T.length ≤ j) (hv : validP K T j = none) (hF : ParF A r rb) : r = [] ∧ rb = false := hF.bad (come_no (come_step h.come hi hx hij) hj hv)
end Go.Proofs.YtnbnepeikdieaaaGreatDoor

namespace Go.Proofs.YtnbnepeikdieaaaGreatDoor
open Go.RowKit
set_option linter.unusedVariables false
set_option linter.unusedSimpArgs false

theorem bodyPost_five2 {P : Program} {fn : Func} {R : Ending → World → Prop} {a : Act} {w : World} {p q : Tmp} {ty e : TypeId} {b : Nat} {x0 x1 x2 x3 x4 y0 y1 y2 y3 y4 z : Value} {d : TypeDesc} (h : fn.results = #[.cell p ty, .tmp q]) (hp : a.tmps.getD p undef = .pointer (some ⟨b, 0, none⟩)) (hq : a.tmps.getD q undef = z) (hd : a.defers = [])
    (hu : P.underlying ty = some d) (hdd : (match d with | .struct _ | .array _ _ => true | _ => false) = true) (hi : (P.info? ty).map (·.size) = some 5) (hb : w.heap[b]? = some (Obj.cells #[x0, x1, x2, x3, x4] e))
    (hR : ∀ w', Only (fun k => k = b) w w' → R (.returned (.tuple #[.agg #[y0, y1, y2, y3, y4], z])) w') :
    bodyPost P fn R .ret a (((((w.setCell ⟨b, 0, none⟩ y0).setCell ⟨b, 1, none⟩ y1).setCell ⟨b, 2, none⟩ y2).setCell ⟨b, 3, none⟩ y3).setCell ⟨b, 4, none⟩ y4) := by
  subst hq
  have h0 := heap_setCell_same w b 0 _ e y0 hb
  have h1 := heap_setCell_same _ b 1 _ e y1 h0
  have h2 := heap_setCell_same _ b 2 _ e y2 h1
  have h3 := heap_setCell_same _ b 3 _ e y3 h2
  have h4 := heap_setCell_same _ b 4 _ e y4 h3
  refine bodyPost_ret (results_cell_row2 h _ _ b e #[y0, y1, y2, y3, y4] (0, 0) d hp h4 hu hdd hi) hd (hR _ ?_)
  have one : ∀ (W : World) (j : Nat) (u : Value), Only (fun k => k = b) W (W.setCell ⟨b, j, none⟩ u) := fun W j u => ⟨rfl, rfl, rfl, by simp, fun k _ hk => Below.heap_setCell _ _ _ _ hk⟩
  exact ((((one _ _ _).trans (one _ _ _)).trans (one _ _ _)).trans (one _ _ _)).trans (one _ _ _)

theorem only_own {S : Nat → Prop} {w W w' : World} {b : Nat} (ho : Only S w W) (hb : w.heap.size ≤ b) (hw : Only (fun k => k = b) W w') : Only S w w' :=
  ⟨hw.os.trans ho.os, hw.tape.trans ho.tape, hw.output.trans ho.output, Nat.le_trans ho.size hw.size, fun k hk hn => (hw.block k (Nat.lt_of_lt_of_le hk ho.size) (fun e => by omega)).trans (ho.block k hk hn)⟩
theorem rd_own {w0 w w' : World} {p i cap b : Nat} {sa : Option Addr} {T : List ByteArray} (h : Rd w0 p sa cap T i w) (hw : Only (fun k => k = b) w w') (hb : w0.heap.size ≤ b) (hne : ¬ b = p) : Rd w0 p sa cap T i w' :=
  h.only (hw.sub fun k hk => by subst hk; exact ⟨Nat.le_refl _, Nat.lt_succ_self _⟩ : Only (iv b (b + 1)) w w') hb hne

/-- No binding comes next. -/
def NoB (K : Nat) (T : List ByteArray) (i : Nat) : Prop := validP K T i = none ∨ ∃ x j, validP K T i = some (x, j) ∧ (¬ x.kind = 1 ∨ validP K T j = none)
/-- The next binding of a text, or none. -/
def ReadB (w0 : World) (p : Nat) (sa : Option Addr) (cap : Nat) (T : List ByteArray) (K i : Nat) (w : World) (e : Ending) (w' : World) : Prop :=
  ((∃ (x y : Tm) (j m : Nat) (a : Option Addr) (c : Nat), validP K T i = some (x, j) ∧ x.kind = 1 ∧ validP K T j = some (y, m) ∧
      e = .returned (.tuple #[.agg #[.int .i64 x.num, .int .i64 y.kind, .int .i64 y.num, .string y.name, .slice a y.args.length c], .bool true]) ∧
      Own w' 27 (iv w.heap.size w'.heap.size) (.slice a y.args.length c) y.args ∧ Rd w0 p sa cap T m w') ∨
    (NoB K T i ∧ e = .returned (.tuple #[.agg #[.int .i64 0, .int .i64 0, .int .i64 0, .string ⟨#[]⟩, .slice none 0 0], .bool false]))) ∧ Only (iv p (p + 1)) w w'

set_option maxHeartbeats 4000000 in
set_option maxRecDepth 100000 in
theorem binding_any (w0 : World) (hf : TabErrs w0) (p : Nat) (sa : Option Addr) (cap : Nat) (T : List ByteArray) (hT : ∀ x ∈ T, x.size ≤ 1048576) (hTl : T.length ≤ 20000) (K i : Nat) (w : World) (hk : 3 * (T.length - i) + 1 ≤ K) (hrd : Rd w0 p sa cap T i w) :
    Calls Tryz.prog 31 #[.pointer (some ⟨p, 0, none⟩)] w (ReadB w0 p sa cap T K i w) := by
  have HTF := Lib.hid hf
  have HT := Lib.hid hT
  have hwl := hrd.old.size
  have hil := hrd.le
  clear hf hT
  have hal : Below w.heap.size w (w.alloc (.cells #[.int .i64 0, .int .i64 0, .int .i64 0, .string ⟨#[]⟩, .slice none 0 0] 47)) := belowAlloc (Below.refl _ _) _
  have HB := Lib.hid (at_box_of w #[.int .i64 0, .int .i64 0, .int .i64 0, .string ⟨#[]⟩, .slice none 0 0] 47 w.heap.size rfl)
  have HR := Lib.hid (hrd.below hal)
  have HO := Lib.hid (Only.of_below (S := iv p (p + 1)) hal)
  have hp := hrd.hi
  have hlo := hrd.lo
  have hsz : (w.alloc (.cells #[.int .i64 0, .int .i64 0, .int .i64 0, .string ⟨#[]⟩, .slice none 0 0] 47)).heap.size = w.heap.size + 1 := by simp
  clear hal hrd
  go_enter Tryz.func31, Tryz.ntmps31
  go_upto_region 1 with (fail)
  generalize hw0 : w.alloc (.cells #[.int .i64 0, .int .i64 0, .int .i64 0, .string ⟨#[]⟩, .slice none 0 0] 47) = w1 at HB HR HO hsz ⊢
  clear hw0
  have HC := Lib.hid (validTerm_any w0 HTF.out p sa cap T HT.out hTl K i w1 hk HR.out)
  go_wp2_with fail
  refine HC.out.mono ?_
  rintro e w2 ⟨⟨x, j, xa, xc, he, rfl, hown, hr⟩ | ⟨he, rfl, j, hr⟩, ho⟩
  · replace HB := Lib.hid (HB.out.only ho (by omega))
    have hsn := ho.size
    replace HO := Lib.hid (HO.out.trans ho)
    replace HR := Lib.hid hr
    have HE1 := Lib.hid he
    have hij := (read_gt leafI T K).1 _ _ _ (valid_inv he).1
    clear HC ho hr he hown
    have hjl := HR.out.le
    go_upto_region 2 with (fail)
    have hal : Below w2.heap.size w2 (w2.alloc (.cells #[.int .i64 x.kind, .int .i64 x.num, .string x.name, .slice xa x.args.length xc] 27)) := belowAlloc (Below.refl _ _) _
    replace HB := Lib.hid (HB.out.read hal)
    replace HO := Lib.hid (only_then HO.out hal)
    replace HR := Lib.hid (HR.out.below hal)
    have HBX := Lib.hid (at_box_of w2 #[.int .i64 x.kind, .int .i64 x.num, .string x.name, .slice xa x.args.length xc] 27 w2.heap.size rfl)
    have hsw2x : (w2.alloc (.cells #[.int .i64 x.kind, .int .i64 x.num, .string x.name, .slice xa x.args.length xc] 27)).heap.size = w2.heap.size + 1 := by simp
    clear hal
    generalize hwx : w2.alloc (.cells #[.int .i64 x.kind, .int .i64 x.num, .string x.name, .slice xa x.args.length xc] 27) = w2x at HB HBX HO HR hsw2x ⊢
    clear hwx
    obtain ⟨bx, hbx⟩ : ∃ bx, bx = w2.heap.size := ⟨_, rfl⟩
    rw [← hbx] at HBX ⊢
    have hbxp : ¬ bx = p := by omega
    have hbxw : ¬ w.heap.size = bx := by omega
    have HBE := Lib.hid hbx
    clear hbx
    obtain ⟨q0, q1, q2, q3⟩ := HBX.out.cells
    have zx := HBX.out.le
    by_cases hk1 : x.kind = 1
    · have d : (x.kind != 1) = false := by rw [hk1]; rfl
      have HK := Lib.hid hk1
      clear hk1
      have HC := Lib.hid (validTerm_any w0 HTF.out p sa cap T HT.out hTl K j w2x (by omega) HR.out)
      go_wp2_with fail
      refine HC.out.mono ?_
      rintro e w3 ⟨⟨y, m, ya, yc, he, rfl, hown, hr⟩ | ⟨he, rfl, m, hr⟩, ho⟩
      · clear q0 q1 q2 q3 zx HC
        replace HB := Lib.hid (HB.out.only ho (by omega))
        replace HBX := Lib.hid (HBX.out.only ho (by omega))
        have hsm := ho.size
        replace HO := Lib.hid (HO.out.trans ho)
        replace HR := Lib.hid hr
        have HE2 := Lib.hid he
        have HOY := Lib.hid hown
        clear ho hr he hown
        go_upto_region 5 with (fail)
        have hal : Below w3.heap.size w3 (w3.alloc (.cells #[.int .i64 y.kind, .int .i64 y.num, .string y.name, .slice ya y.args.length yc] 27)) := belowAlloc (Below.refl _ _) _
        replace HB := Lib.hid (HB.out.read hal)
        replace HBX := Lib.hid (HBX.out.read hal)
        replace HO := Lib.hid (only_then HO.out hal)
        replace HR := Lib.hid (HR.out.below hal)
        replace HOY := Lib.hid (HOY.out.kept hal)
        have HBY := Lib.hid (at_box_of w3 #[.int .i64 y.kind, .int .i64 y.num, .string y.name, .slice ya y.args.length yc] 27 w3.heap.size rfl)
        have hsw3x : (w3.alloc (.cells #[.int .i64 y.kind, .int .i64 y.num, .string y.name, .slice ya y.args.length yc] 27)).heap.size = w3.heap.size + 1 := by simp
        clear hal
        generalize hwy : w3.alloc (.cells #[.int .i64 y.kind, .int .i64 y.num, .string y.name, .slice ya y.args.length yc] 27) = w4 at HB HBX HBY HO HR HOY hsw3x ⊢
        clear hwy
        obtain ⟨bY, hby⟩ : ∃ bY, bY = w3.heap.size := ⟨_, rfl⟩
        rw [← hby] at HBY ⊢
        have HSS := Lib.hid (And.intro hby (And.intro hsw3x (And.intro hsw2x (And.intro HBE.out (And.intro hsm (And.intro hsn (And.intro hsz (And.intro hwl (And.intro hp hlo)))))))))
        have ne2 : ¬ w.heap.size = bY := by omega
        obtain ⟨q0, q1, q2, q3⟩ := HBX.out.cells
        obtain ⟨v0, v1, v2, v3⟩ := HBY.out.cells
        have zx := HBX.out.le
        have zy := HBY.out.le
        have HRE := Lib.hid HB.out.now
        obtain ⟨r0, r1, r2, r3, r4, rf⟩ := box_cells5 HB.out.now
        have zr := HB.out.le
        clear hby hsw3x hsw2x hsm hsn hsz
        go_wp2
        refine bodyPost_five2 (p := 2) (q := 3) (b := w.heap.size) (z := .bool true) rfl rfl rfl rfl Tryz.underlying47 rfl (by kernel_rfl) HRE.out fun w' hw => ?_
        obtain ⟨s0, s1, s2, s3, s4, s5, s6, s7, s8, s9⟩ := HSS.out
        have hws := hw.size
        exact ⟨.inl ⟨x, y, j, m, ya, yc, HE1.out, HK.out, HE2.out, rfl, (HOY.out.frame fun k hk hks => hw.block k hks fun e => by have := hk.1; omega).sub fun k hk => ⟨by have := hk.1; omega, by have := hk.2; omega⟩, rd_own HR.out hw (by omega) (by omega)⟩, only_own HO.out (Nat.le_refl _) hw⟩
      · clear q0 q1 q2 q3 zx HC
        replace HB := Lib.hid (HB.out.only ho (by omega))
        replace HO := Lib.hid (HO.out.trans ho)
        have HNO : Hid (NoB K T i) := Lib.hid (.inr ⟨x, j, HE1.out, .inr he⟩)
        have hsm := ho.size
        clear ho hr he
        go_upto_region 5 with (fail)
        have hal : Below w3.heap.size w3 (w3.alloc (.cells #[.int .i64 0, .int .i64 0, .string ⟨#[]⟩, .slice none 0 0] 27)) := belowAlloc (Below.refl _ _) _
        replace HB := Lib.hid (HB.out.read hal)
        replace HO := Lib.hid (only_then HO.out hal)
        clear hal
        generalize hwy : w3.alloc (.cells #[.int .i64 0, .int .i64 0, .string ⟨#[]⟩, .slice none 0 0] 27) = w4 at HB HO ⊢
        clear hwy
        have HRE := Lib.hid HB.out.now
        obtain ⟨r0, r1, r2, r3, r4, rf⟩ := box_cells5 HB.out.now
        have zr := HB.out.le
        go_wp2
        refine bodyPost_five2 (p := 2) (q := 3) (b := w.heap.size) (z := .bool false) rfl rfl rfl rfl Tryz.underlying47 rfl (by kernel_rfl) HRE.out fun w' hw => ?_
        exact ⟨.inr ⟨HNO.out, rfl⟩, only_own HO.out (Nat.le_refl _) hw⟩
    · have d : (x.kind != 1) = true := by simp [hk1]
      have HNO : Hid (NoB K T i) := Lib.hid (.inr ⟨x, j, HE1.out, .inl hk1⟩)
      clear hk1
      have HRE := Lib.hid HB.out.now
      obtain ⟨r0, r1, r2, r3, r4, rf⟩ := box_cells5 HB.out.now
      have zr := HB.out.le
      go_wp2
      refine bodyPost_five2 (p := 2) (q := 3) (b := w.heap.size) (z := .bool false) rfl rfl rfl rfl Tryz.underlying47 rfl (by kernel_rfl) HRE.out fun w' hw => ?_
      exact ⟨.inr ⟨HNO.out, rfl⟩, only_own HO.out (Nat.le_refl _) hw⟩
  · replace HB := Lib.hid (HB.out.only ho (by omega))
    replace HO := Lib.hid (HO.out.trans ho)
    have HNO : Hid (NoB K T i) := Lib.hid (.inl he)
    clear HC ho he hr
    go_upto_region 2 with (fail)
    have hal : Below w2.heap.size w2 (w2.alloc (.cells #[.int .i64 0, .int .i64 0, .string ⟨#[]⟩, .slice none 0 0] 27)) := belowAlloc (Below.refl _ _) _
    replace HB := Lib.hid (HB.out.read hal)
    replace HO := Lib.hid (only_then HO.out hal)
    clear hal
    generalize hwx : w2.alloc (.cells #[.int .i64 0, .int .i64 0, .string ⟨#[]⟩, .slice none 0 0] 27) = w2x at HB HO ⊢
    clear hwx
    have HRE := Lib.hid HB.out.now
    obtain ⟨r0, r1, r2, r3, r4, rf⟩ := box_cells5 HB.out.now
    have zr := HB.out.le
    go_wp2
    refine bodyPost_five2 (p := 2) (q := 3) (b := w.heap.size) (z := .bool false) rfl rfl rfl rfl Tryz.underlying47 rfl (by kernel_rfl) HRE.out fun w' hw => ?_
    exact ⟨.inr ⟨HNO.out, rfl⟩, only_own HO.out (Nat.le_refl _) hw⟩
end Go.Proofs.YtnbnepeikdieaaaGreatDoor

namespace Go.Proofs.YtnbnepeikdieaaaGreatDoor
open Go.RowKit
set_option linter.unusedVariables false
set_option linter.unusedSimpArgs false

theorem parF_ok {s : ByteArray} (h : (tokensOf s).2 = true) : ParF (allP (3 * (tokensOf s).1.length + 1) (tokensOf s).1 (tokensOf s).1.length 0) (psL s) (psB s) := by
  have e : rdO s = allP (3 * (tokensOf s).1.length + 1) (tokensOf s).1 (tokensOf s).1.length 0 := by rw [rdO, if_pos h]
  rw [← e]; exact parF_of
theorem parF_bad {s : ByteArray} (h : (tokensOf s).2 = false) : psL s = [] ∧ psB s = false := parF_of.bad (by rw [rdO, h]; rfl)
theorem Pairs.not {K i : Nat} {T : List ByteArray} {A : Option (List Tm)} {bs : List Bd} {xs : List Tm} {r : List Bd} {rb : Bool} (h : Pairs K T A bs i xs) (hi : ¬ T.length ≤ i) (hn : NoB K T i) (hF : ParF A r rb) : r = [] ∧ rb = false := by
  rcases hn with hv | ⟨x, j, hx, hk⟩
  · exact h.no1 hi hv hF
  · have hij := (read_gt leafI T K).1 _ _ _ (valid_inv hx).1
    rcases hk with hk | hv
    · exact h.no2 hi hx hij hk hF
    · by_cases hj : T.length ≤ j
      · exact h.no3 hi hx hij hj hF
      · exact h.no4 hi hx hij hj hv hF
/-- What is kept of the bindings read: their terms are small, their variables plain numbers. -/
def SmB (bs : List Bd) : Prop := ∀ b ∈ bs, b.t.sz ≤ 1048575 ∧ wfI b.v
theorem smB_one {bs : List Bd} (h : SmB bs) {K i j m : Nat} {T : List ByteArray} {x y : Tm} (hx : validP K T i = some (x, j)) (hk : x.kind = 1) (hy : validP K T j = some (y, m)) : SmB (bs ++ [⟨x.num, y⟩]) := by
  intro b hb
  rcases List.mem_append.1 hb with hb | hb
  · exact h b hb
  · rw [List.mem_singleton] at hb
    subst hb
    have h1 := okB_true.1 (valid_inv hx).2
    have h2 := okB_true.1 (valid_inv hy).2
    have h3 := h1.2.var_range hk
    refine ⟨?_, wfI_of (by show _ ≤ x.num; omega) (by show x.num ≤ _; omega)⟩
    show y.sz ≤ _
    have := good_sz h2.2
    have := h2.1
    omega

set_option maxRecDepth 100000 in
set_option maxHeartbeats 4000000 in
theorem implParseSubst_any (s : ByteArray) (w : World) (hf : TabErrs w) (hs : s.size ≤ 1048576) :
    Calls Tryz.prog 11 #[.string s] w (NewB2 (psL s) (psB s) w) := by
  obtain ⟨i0, hi0, hz0, hz1, hz2⟩ := info_parts infoBinding
  have HII := Lib.hid (And.intro hi0 (And.intro hz0 (And.intro hz1 hz2)))
  have HF := Lib.hid hf
  have HC := Lib.hid (implTokens_any s w hs)
  have HTB := Lib.hid (tokens_bounds s)
  have HBAD := Lib.hid (parF_bad (s := s))
  have HPAR := Lib.hid (parF_ok (s := s))
  generalize psL s = rl at HBAD HPAR ⊢
  generalize psB s = rb at HBAD HPAR ⊢
  generalize tokensOf s = pp at HC HTB HBAD HPAR
  obtain ⟨T, ok⟩ := pp
  clear hi0 hz0 hz1 hz2 hf
  go_enter Tryz.func11, Tryz.ntmps11
  go_wp2_with fail
  refine HC.out.mono ?_
  rintro e w1 ⟨v, rfl, hrow, hb⟩
  have HB := Lib.hid hb
  have HF1 := Lib.hid (tabErrs_after HF.out hb)
  have hs1 := hb.size
  obtain ⟨sa, cap, rfl, hv⟩ := hrow.vals
  rw [List.length_map]
  have HV := Lib.hid hv
  clear hrow hb hv HC HF
  cases ok with
  | false =>
    obtain ⟨rfl, rfl⟩ := HBAD.out rfl
    clear HBAD HPAR
    go_wp2
    go_ret2
    exact ⟨_, rfl, .nil, HB.out⟩
  | true =>
    have htl := HTB.out.1
    have HTS := Lib.hid HTB.out.2
    have HP := Lib.hid (HPAR.out rfl)
    have HRD : Hid (Rd w1 w1.heap.size sa cap T 0 (w1.alloc (.cells #[.slice sa T.length cap, .int .i64 0] 58))) := Lib.hid ⟨heap_alloc_new w1 _, by
        rcases HV.out with h | ⟨g, off, ha, hg, hc⟩
        · left; simpa using h
        · exact .inr ⟨g, off, ha, hg, fun j x hx => hc j (.string x) (by rw [List.getElem?_map, hx]; rfl)⟩, Nat.le_refl _, belowAlloc (Below.refl _ _) _, Nat.zero_le _, by omega⟩
    have HW : Hid (Below w.heap.size w (w1.alloc (.cells #[.slice sa T.length cap, .int .i64 0] 58))) := Lib.hid (belowOn HB.out (Nat.le_refl _) (belowAlloc (Below.refl _ _) _))
    have HCM := Lib.hid (pairs_start (come_start (3 * T.length + 1) T))
    generalize allP (3 * T.length + 1) T T.length 0 = A at HCM HP
    have hsz2 : (w1.alloc (.cells #[.slice sa T.length cap, .int .i64 0] 58)).heap.size = w1.heap.size + 1 := by simp
    clear HBAD HPAR HTB HV HB
    go_wp2
    go_loopg [7] T.length (fun g s7 wr => ∃ (bs : List Bd) (xs : List Tm) (i : Nat), T.length - i ≤ g ∧ 2 * bs.length ≤ i ∧ Hid (Pairs (3 * T.length + 1) T A bs i xs) ∧ Hid (SmB bs) ∧ Hid (Rd w1 w1.heap.size sa cap T i wr) ∧ Hid (ListO bdE 47 wr (iv (w1.heap.size + 1) wr.heap.size) s7 bs) ∧ Hid (Below w.heap.size w wr))
    case atStart => exact ⟨[], [], 0, by omega, Nat.zero_le _, HCM, Lib.hid (fun b hb => by cases hb), HRD, Lib.hid .nil, HW⟩
    case round =>
      obtain ⟨bs, xs, i, hg, hbi, HC, HSM, HR, HO, HWr⟩ := hrel
      obtain ⟨xa, xc, rfl⟩ := HO.out.slice
      clear HCM HRD HW hsz2
      have hil := HR.out.le
      have hbl : bs.length ≤ 20000 := by omega
      have HE := Lib.hid (atEnd_any w1 w1.heap.size sa cap T i wr HR.out)
      go_wp2_with fail
      refine HE.out.mono ?_
      rintro e w2 ⟨rfl, hb⟩
      replace HR := Lib.hid (HR.out.below hb)
      replace HWr := Lib.hid (belowOn HWr.out (Nat.le_refl _) hb)
      replace HO := Lib.hid ((HO.out.kept hb).sub fun k hk => (⟨hk.1, by have := hk.2; have := hb.size; omega⟩ : iv (w1.heap.size + 1) w2.heap.size k))
      clear hb HE
      by_cases he : i = T.length
      · rw [decide_eq_true he]
        have HFIN := Lib.hid (HC.out.fin (by omega) HP.out)
        have HSO := Lib.hid (implSubstOk_e bs _ w2 HO.out.inS.any ⟨by omega, fun b hb => (HSM.out b hb).1⟩ (fun b hb => (HSM.out b hb).2))
        clear he HC HP HSM
        go_wp2_with fail
        refine HSO.out.mono ?_
        rintro e w3 ⟨rfl, hb⟩
        replace HWr := Lib.hid (belowOn HWr.out (Nat.le_refl _) hb)
        replace HO := Lib.hid ((HO.out.kept hb).sub fun k hk => (⟨by have := hk.1; omega, by have := hk.2; have := hb.size; omega⟩ : iv w.heap.size w3.heap.size k))
        clear hb HSO
        cases hs : substB bs with
        | false =>
          obtain ⟨rfl, rfl⟩ := HFIN.out.2 hs
          clear hs HFIN
          go_wp2
          go_ret2
          exact ⟨_, rfl, .nil, HWr.out⟩
        | true =>
          obtain ⟨rfl, rfl⟩ := HFIN.out.1 hs
          clear hs HFIN
          go_wp2
          go_ret2
          exact ⟨_, rfl, HO.out, HWr.out⟩
      · rw [decide_eq_false he]
        have hlt : ¬ T.length ≤ i := by omega
        have HVT := Lib.hid (binding_any w1 HF1.out w1.heap.size sa cap T HTS.out htl (3 * T.length + 1) i w2 (by omega) HR.out)
        have hp := HR.out.hi
        clear he
        go_wp2_with fail
        refine HVT.out.mono ?_
        rintro e w3 ⟨⟨x, y, j, m, ua, uc, hx, hk, hy, rfl, hown, hr⟩ | ⟨hno, rfl⟩, ho⟩
        · have HU := Lib.hid hown
          have hij := (read_gt leafI T (3 * T.length + 1)).1 _ _ _ (valid_inv hx).1
          have hjm := (read_gt leafI T (3 * T.length + 1)).1 _ _ _ (valid_inv hy).1
          have hml := hr.le
          have HC2 := Lib.hid (HC.out.one hlt hx hij hk (by omega) hy hjm)
          have HSM2 := Lib.hid (smB_one HSM.out hx hk hy)
          replace HO := Lib.hid (HO.out.frame fun k hk hks => ho.block k hks fun hh => by have h1 := hh.1; have h2 := hh.2; have h3 := hk.1; omega)
          replace HWr := Lib.hid (HWr.out.trans (ho.below (fun k hk => by have := hk.1; omega) HWr.out.size))
          replace HR := Lib.hid hr
          have hs3 := ho.size
          clear hown hr ho hx hk hy HVT HC HSM
          have hal : Below w3.heap.size w3 (w3.alloc (.cells #[.int .i64 x.num, .int .i64 y.kind, .int .i64 y.num, .string y.name, .slice ua y.args.length uc] 47)) := belowAlloc (Below.refl _ _) _
          go_upto_region 8 with (fail)
          have HBX := Lib.hid (at_box_of w3 #[.int .i64 x.num, .int .i64 y.kind, .int .i64 y.num, .string y.name, .slice ua y.args.length uc] 47 w3.heap.size rfl)
          replace HR := Lib.hid (HR.out.below hal)
          replace HWr := Lib.hid (belowOn HWr.out (Nat.le_refl _) hal)
          replace HO := Lib.hid (HO.out.kept hal)
          replace HU := Lib.hid (HU.out.kept hal)
          have hs4 : (w3.alloc (.cells #[.int .i64 x.num, .int .i64 y.kind, .int .i64 y.num, .string y.name, .slice ua y.args.length uc] 47)).heap.size = w3.heap.size + 1 := by simp
          clear hal
          generalize hw4 : w3.alloc (.cells #[.int .i64 x.num, .int .i64 y.kind, .int .i64 y.num, .string y.name, .slice ua y.args.length uc] 47) = w4 at HBX HR HWr HO HU hs4 ⊢
          clear hw4
          obtain ⟨L, C, hL, hrow, hbk, hr, hC, hd⟩ := HO.out.parts
          have hLn : bs.length = L.length := by rw [hL, List.length_map]
          rw [← hLn] at hrow
          have HROW := Lib.hid hrow
          have HPA := Lib.hid (And.intro hL (And.intro hLn (And.intro hbk (And.intro hr (And.intro hC hd)))))
          clear hL hLn hrow hbk hr hC hd
          obtain ⟨c0, c1, c2, c3, c4, cf⟩ := box_cells5 HBX.out.now
          have z0 := HBX.out.le
          have HS4 := Lib.hid hs4
          have HJM := Lib.hid (And.intro hij (And.intro hjm hml))
          clear hs4 hij hjm hml
          go_wp2_with (at_builtin; refine wpList_append_lies _ rfl _ _ 23 rfl 0 47 i0 _ 5 64 Tryz.underlying23 HII.out.1 HII.out.2.1 HII.out.2.2.1 HII.out.2.2.2 rfl (by omega) (.slice xa bs.length xc) bs.length (cellsE bdE L) rfl (HROW.out.alloc _) ⟨w4.heap.size, 0, none⟩ 1 1 (bdE.cells ⟨x.num, y⟩ (.slice ua y.args.length uc)) rfl rfl (World.news_of_block (heap_alloc_new w4 _)) (by simp [bdE, Value.oneCell']) (by omega) (by unfold maxLen; omega) (by omega) (Nat.zero_le _) (w4.heap.size + 1) (by simp) ?_; intro gg cap' w1' hown1 hgrow hat hlt1; have HAP := Lib.hid (And.intro hown1 (And.intro hgrow (And.intro hat hlt1))); clear hown1 hgrow hat hlt1)
          have hs4 := HS4.out
          have hgs := HAP.out.2.1.size
          simp only [World.size_alloc] at hgs
          have HW1 : Hid (Below w.heap.size w w1') := Lib.hid ((belowOn HWr.out (Nat.le_refl _) (belowAlloc (Below.refl _ _) _)).trans (below_of_grown HAP.out.2.1 (by have := HWr.out.size; simp; omega) (fun k hk => by have h := (HPA.out.2.2.1 k hk).1; omega)))
          have HR1 := Lib.hid ((HR.out.below (belowAlloc (Below.refl _ _) (.cells #[.int .i64 x.num, .int .i64 y.kind, .int .i64 y.num, .string y.name, .slice ua y.args.length uc] 47))).grown HAP.out.2.1 (fun k hk => by have h := (HPA.out.2.2.1 k hk).1; omega))
          have HO1 : Hid (ListO bdE 47 w1' (iv (w1.heap.size + 1) w1'.heap.size) (.slice (some ⟨gg, 0, none⟩) (bs.length + 1) cap') (bs ++ [⟨x.num, y⟩])) := Lib.hid (by
            have h := listO_append (E := bdE) (x := ⟨x.num, y⟩) (S' := iv (w1.heap.size + 1) w1'.heap.size) HPA.out.2.1 HPA.out.2.2.1 HPA.out.2.2.2.1 HPA.out.2.2.2.2.1 HPA.out.2.2.2.2.2 HU.out (fun k hk => by have := hk.2; omega) (fun k hk => ⟨by have := hk.2; omega, fun h => by have h1 := hk.1; have h2 := h.2; omega⟩) (belowAlloc (Below.refl _ _) _) HAP.out.1 HAP.out.2.1 (HAP.out.2.2.1.imp id (fun h => by omega)) (fun k hk => by
              have hl := HAP.out.2.2.2
              rcases hk with hk | hk | hk
              · exact ⟨hk.1, by have := hk.2; omega⟩
              · exact ⟨by have := hk.1; omega, by have := hk.2; omega⟩
              · subst hk
                refine ⟨?_, hl⟩
                rcases HAP.out.2.2.1 with h | h
                · exact (HPA.out.2.2.1 _ h).1
                · omega)
            rw [← HPA.out.1] at h
            exact h)
          clear HROW HPA HAP HU HO HBX HR HWr c0 c1 c2 c3 c4 cf z0
          go_roundg (T.length - m)
          case measure => have := HJM.out; omega
          case rel => exact ⟨bs ++ [⟨x.num, y⟩], xs ++ [x] ++ [y], m, Nat.le_refl _, by have := HJM.out; simp; omega, HC2, HSM2, HR1, by simpa using HO1, HW1⟩
        · obtain ⟨rfl, rfl⟩ := HC.out.not hlt hno HP.out
          have HNIL : Hid (Below w.heap.size w (w3.alloc (.cells #[.int .i64 0, .int .i64 0, .int .i64 0, .string ⟨#[]⟩, .slice none 0 0] 47))) := Lib.hid (belowOn (HWr.out.trans (ho.below (fun k hk => by have := hk.1; omega) HWr.out.size)) (Nat.le_refl _) (belowAlloc (Below.refl _ _) _))
          clear hno ho HVT
          go_wp2
          go_ret2
          exact ⟨_, rfl, .nil, HNIL.out⟩

theorem ps_all (s : ByteArray) : psL s = [] ∨ SubstP (psL s) := by
  by_cases h : ∃ l, PsP s l
  · obtain ⟨l, h⟩ := h
    right
    rw [(ps_yes h).1]
    exact h.2.2.2
  · left
    exact (ps_no fun l h1 h2 => h ⟨l, h1, h2⟩).1
theorem ps_each (s : ByteArray) : EachB (psL s) := by
  rcases ps_all s with h | h
  · rw [h]; exact ⟨Nat.zero_le _, fun b hb => by simp at hb⟩
  · exact h.each
theorem ps_nk (s : ByteArray) : nkB (psL s) ≤ 4294967296 := by
  rcases ps_all s with h | h
  · rw [h]; exact Nat.zero_le _
  · exact h.nk
end Go.Proofs.YtnbnepeikdieaaaGreatDoor

