/-
  Plain facts: the text of a term, cut into tokens and read, is the term again; between spaces, before a remark, in a list. Nothing of a program.
-/
import Derived.Test.YtnbnepeikdieaaaGreatDoorTexts
import Derived.Test.YtnbnepeikdieaaaGreatDoorParses2
namespace Go.Proofs.YtnbnepeikdieaaaGreatDoor
open Go.RowKit
set_option linter.unusedVariables false
set_option linter.unusedSimpArgs false

/-! ### Tokens of a text in pieces -/
theorem sbyte_at {s : ByteArray} {A R : List UInt8} {c : UInt8} (h : s.data.toList = A ++ c :: R) : byteI s A.length = (c.toNat : Int) := by
  unfold byteI
  rw [h]
  simp
theorem ssize_at {s : ByteArray} {A R : List UInt8} {c : UInt8} (h : s.data.toList = A ++ c :: R) : A.length < s.size := by
  have := Lib.size_eq s
  rw [h, List.length_append, List.length_cons] at this
  omega
theorem sextract_mid {s : ByteArray} {A W R : List UInt8} (h : s.data.toList = A ++ W ++ R) : s.extract A.length (A.length + W.length) = ⟨W.toArray⟩ := by
  rw [Lib.extract_eq, h]
  congr 2
  rw [List.append_assoc, List.drop_left, Nat.add_sub_cancel_left, List.take_left]
/-- What comes next ends a word. -/
def Stop (R : List UInt8) : Prop := ∀ c R', R = c :: R' → brkI (c.toNat : Int) = true
def Starts (W : List UInt8) : Prop := ∃ c R, W = c :: R ∧ brkI (c.toNat : Int) = true
theorem Starts.stop {W R : List UInt8} (h : Starts W) : Stop (W ++ R) := by
  obtain ⟨c, V, rfl, hb⟩ := h
  intro d R' e
  rw [List.cons_append] at e
  cases e
  exact hb
def PlainL (W : List UInt8) : Prop := ∀ c ∈ W, okText (c.toNat : Int) = true
theorem PlainL.app {V W : List UInt8} (h : PlainL V) (k : PlainL W) : PlainL (V ++ W) := by
  intro c hc
  rcases List.mem_append.1 hc with hc | hc
  · exact h c hc
  · exact k c hc
/-- These bytes give these tokens, whatever follows. -/
def ScanN (W : List UInt8) (X : List ByteArray) : Prop := ∀ (s : ByteArray) (A R : List UInt8) (out : List ByteArray), s.data.toList = A ++ W ++ R → Inv s A.length out → Inv s (A ++ W).length (out ++ X)
/-- .. where a break follows. -/
def ScanS (W : List UInt8) (X : List ByteArray) : Prop := ∀ (s : ByteArray) (A R : List UInt8) (out : List ByteArray), s.data.toList = A ++ W ++ R → Stop R → Inv s A.length out → Inv s (A ++ W).length (out ++ X)
theorem ScanN.s {W : List UInt8} {X : List ByteArray} (h : ScanN W X) : ScanS W X := fun s A R out hs _ hi => h s A R out hs hi
theorem ScanN.andS {W V : List UInt8} {X Y : List ByteArray} (h : ScanN W X) (k : ScanS V Y) : ScanS (W ++ V) (X ++ Y) := by
  intro s A R out hs hst hi
  have h1 := h s A (V ++ R) out (by rw [hs]; simp) hi
  have h2 := k s (A ++ W) R (out ++ X) (by rw [hs]; simp) hst h1
  rwa [List.append_assoc, List.append_assoc] at h2
theorem ScanN.andN {W V : List UInt8} {X Y : List ByteArray} (h : ScanN W X) (k : ScanN V Y) : ScanN (W ++ V) (X ++ Y) := by
  intro s A R out hs hi
  have h1 := h s A (V ++ R) out (by rw [hs]; simp) hi
  have h2 := k s (A ++ W) R (out ++ X) (by rw [hs]; simp) h1
  rwa [List.append_assoc, List.append_assoc] at h2
theorem ScanS.andN {W V : List UInt8} {X Y : List ByteArray} (h : ScanS W X) (hv : Starts V) (k : ScanN V Y) : ScanN (W ++ V) (X ++ Y) := by
  intro s A R out hs hi
  have h1 := h s A (V ++ R) out (by rw [hs]; simp) hv.stop hi
  have h2 := k s (A ++ W) R (out ++ X) (by rw [hs]; simp) h1
  rwa [List.append_assoc, List.append_assoc] at h2
theorem scan_brk {c : UInt8} (hb : brkI (c.toNat : Int) = true) (h59 : c.toNat ≠ 59) : ScanN [c] (if c.toNat = 40 ∨ c.toNat = 41 then [⟨#[c]⟩] else []) := by
  intro s A R out hs hi
  have h : s.data.toList = A ++ c :: R := by rw [hs]; simp
  have hb' := sbyte_at h
  have e := Inv_brk hi (ssize_at h) (by rw [hb']; exact hb) (by rw [hb']; omega)
  rw [hb'] at e
  have hx := sextract_mid (s := s) (A := A) (W := [c]) (R := R) hs
  rw [List.length_singleton] at hx
  rw [hx] at e
  rw [List.length_append, List.length_singleton]
  by_cases hp : c.toNat = 40 ∨ c.toNat = 41
  · rw [if_pos hp]
    rwa [if_pos (by omega)] at e
  · rw [if_neg hp]
    rwa [if_neg (by omega)] at e
theorem scan_open : ScanN [40] [tokL] := scan_brk (c := 40) rfl (by decide)
theorem scan_close : ScanN [41] [tokR] := scan_brk (c := 41) rfl (by decide)
theorem scan_space : ScanN [32] [] := scan_brk (c := 32) rfl (by decide)
theorem scan_run {s : ByteArray} {R : List UInt8} {out : List ByteArray} {i : Nat} : ∀ (W B : List UInt8), s.data.toList = B ++ W ++ R → (∀ c ∈ W, brkI (c.toNat : Int) = false) → tokTo s B.length = (i, false, out) → tokTo s (B ++ W).length = (i, false, out)
  | [], B, _, _, ht => by simpa using ht
  | c :: W, B, h, hw, ht => by
    have hb := sbyte_at (s := s) (A := B) (R := W ++ R) (c := c) (by rw [h]; simp)
    have e := tokTo_word ht (by rw [hb]; exact hw c (by simp))
    have := scan_run (s := s) (R := R) (out := out) (i := i) W (B ++ [c]) (by rw [h]; simp) (fun x hx => hw x (List.mem_cons_of_mem _ hx)) (by rw [List.length_append]; exact e)
    rw [List.append_assoc] at this
    exact this
theorem scan_word {W : List UInt8} (hne : W ≠ []) (hw : ∀ c ∈ W, brkI (c.toNat : Int) = false) : ScanS W [⟨W.toArray⟩] := by
  intro s A R out h hst hi
  cases W with
  | nil => exact absurd rfl hne
  | cons c W =>
    have hA := sbyte_at (s := s) (A := A) (R := W ++ R) (c := c) (by rw [h]; simp)
    have h1 := Inv_word hi (ssize_at (s := s) (A := A) (R := W ++ R) (c := c) (by rw [h]; simp)) (by rw [hA]; exact hw c (by simp))
    have h2 := scan_run (s := s) (R := R) (out := out) (i := A.length) W (A ++ [c]) (by rw [h]; simp) (fun x hx => hw x (List.mem_cons_of_mem _ hx)) (by rw [List.length_append]; exact h1)
    rw [List.append_assoc] at h2
    have hle : (A ++ ([c] ++ W)).length = (A ++ c :: W).length := by simp
    have h3 := Inv_of_word h2 (by simp) (fun hlt => by
      cases R with
      | nil =>
        have := Lib.size_eq s
        rw [h, List.append_nil] at this
        omega
      | cons d R =>
        have hE := sbyte_at (s := s) (A := A ++ c :: W) (R := R) (c := d) h
        rw [hle, hE]
        exact hst d R rfl)
    have hx := sextract_mid (s := s) (A := A) (W := c :: W) (R := R) h
    rw [show (A ++ ([c] ++ W)).length = A.length + (c :: W).length by simp] at h3
    rw [hx] at h3
    rw [List.length_append]
    exact h3
theorem scan_more {s : ByteArray} {out : List ByteArray} : ∀ (C B : List UInt8), s.data.toList = B ++ C → (∀ c ∈ C, c.toNat ≠ 10) → tokTo s B.length = (B.length, true, out) → tokTo s (B ++ C).length = ((B ++ C).length, true, out)
  | [], B, _, _, ht => by simpa using ht
  | c :: C, B, h, hw, ht => by
    have hb := sbyte_at (s := s) (A := B) (R := C) (c := c) h
    have hc := hw c (by simp)
    have e := tokTo_more ht (by rw [hb]; omega)
    have := scan_more (s := s) (out := out) C (B ++ [c]) (by rw [h]; simp) (fun x hx => hw x (List.mem_cons_of_mem _ hx)) (by rw [List.length_append]; exact e)
    rw [List.append_assoc] at this
    exact this
/-- A remark at the end gives nothing. -/
theorem remark_end {s : ByteArray} {A C : List UInt8} {out : List ByteArray} (h : s.data.toList = A ++ 59 :: C) (hC : ∀ c ∈ C, c.toNat ≠ 10) (hi : Inv s A.length out) : toks s = out ∧ out.length ≤ s.size := by
  have h9 := Inv_comment hi (ssize_at h) (sbyte_at h)
  have hm := scan_more (s := s) (out := out) C (A ++ [59]) (by rw [h]; simp) hC (by rw [List.length_append]; exact h9)
  have hz := Lib.size_eq s
  rw [h] at hz
  have hlen : (A ++ [59] ++ C).length = s.size := by
    rw [hz]
    simp only [List.length_append, List.length_cons, List.length_nil]
    omega
  have hI := Inv_of_comment hm (fun hh => by omega)
  exact ⟨Inv_end hI hlen, by have := Inv_len hI; omega⟩
theorem toks_scan {s : ByteArray} {X : List ByteArray} (h : ScanS s.data.toList X) : toks s = X ∧ X.length ≤ s.size := by
  have hI := h s [] [] [] (by simp) (fun c R' e => by cases e) (Inv_zero s)
  rw [List.nil_append, List.nil_append] at hI
  have hz := Lib.size_eq s
  exact ⟨Inv_end hI (by omega), by have := Inv_len hI; omega⟩
theorem plain_of {s : ByteArray} (h : PlainL s.data.toList) : plain s = true := by
  refine decide_eq_true fun j hj => h _ ?_
  rw [← getD_byte s j hj, List.getD_eq_getElem?_getD]
  have hz := Lib.size_eq s
  rw [List.getElem?_eq_getElem (by omega)]
  exact List.getElem_mem _
theorem tokens_of {s : ByteArray} {X : List ByteArray} (h : toks s = X ∧ X.length ≤ s.size) (hp : PlainL s.data.toList) (hs : s.size ≤ 20000) : tokensOf s = (X, true) := by
  unfold tokensOf
  rw [h.1]
  exact if_pos ⟨by omega, plain_of hp, by omega⟩

/-! ### Words -/
def wordB (c : UInt8) : Prop := (97 ≤ c.toNat ∧ c.toNat ≤ 122) ∨ c.toNat = 45 ∨ (48 ≤ c.toNat ∧ c.toNat ≤ 57) ∨ c.toNat = 63
theorem word_facts {c : UInt8} (h : wordB c) : brkI (c.toNat : Int) = false ∧ okText (c.toNat : Int) = true ∧ c.toNat ≠ 46 ∧ c.toNat ≠ 40 := by
  unfold wordB at h
  exact ⟨decide_eq_false (by omega), decide_eq_true (by omega), by omega, by omega⟩
def numB (c : UInt8) : Prop := c.toNat = 45 ∨ (48 ≤ c.toNat ∧ c.toNat ≤ 57)
theorem itoa_num (n : Int) : ∀ c ∈ Lib.itoa n, numB c := by
  intro c hc
  unfold Lib.itoa at hc
  split at hc
  · rcases List.mem_cons.1 hc with rfl | hc
    · exact .inl rfl
    · exact .inr ((dec_val _).2 c hc)
  · exact .inr ((dec_val _).2 c hc)
theorem itoa_nil (n : Int) : Lib.itoa n ≠ [] := by
  unfold Lib.itoa
  split
  · simp
  · obtain ⟨c, r, e, _⟩ := dec_cons n.toNat
    rw [e]; simp
theorem name_bytes {s : ByteArray} (h : isName s = true) : s.data.toList ≠ [] ∧ (∀ c ∈ s.data.toList, wordB c) ∧ ∃ c ∈ s.data.toList, 97 ≤ c.toNat := by
  obtain ⟨⟨h1, h2⟩, h3⟩ := of_decide_eq_true h
  have hz := Lib.size_eq s
  refine ⟨fun e => ?_, fun c hc => ?_, ?_⟩
  · rw [e] at hz
    have hz0 : s.size = 0 := hz
    omega
  · obtain ⟨j, hj, rfl⟩ := List.getElem_of_mem hc
    have hj' : j < s.size := by omega
    have := h3 j hj'
    have e : s.data.toList[j] = s[j] := by
      rw [← getD_byte s j hj', List.getD_eq_getElem?_getD, List.getElem?_eq_getElem hj]
      rfl
    rw [e]
    unfold okByte at this
    unfold wordB
    omega
  · have hj : 0 < s.data.toList.length := by omega
    have hj' : 0 < s.size := by omega
    refine ⟨s.data.toList[0], List.getElem_mem _, ?_⟩
    have e : s.data.toList[0] = s[0] := by
      rw [← getD_byte s 0 hj', List.getD_eq_getElem?_getD, List.getElem?_eq_getElem hj]
      rfl
    rw [e]
    have := h3 0 hj'
    unfold okByte at this
    omega
theorem no_number {l : List UInt8} {c : UInt8} (hc : c ∈ l) (hn : ¬ numB c) : parseOf l = (0, false) := parse_no fun v hv e => hn (itoa_num v c (by rw [e]; exact hc))

/-- What a leaf's text is, read. -/
structure Word (t : Tm) : Prop where
  ne : (leafT t).data.toList ≠ []
  word : ∀ c ∈ (leafT t).data.toList, wordB c
  leaf : leafI (leafT t) = some t
theorem word_of {t : Tm} (h : Good t) (h0 : ¬ t.kind = 0) (h4 : ¬ t.kind = 4) : Word t := by
  cases h with
  | nil => exact absurd rfl h0
  | var i hi0 hi1 =>
    have hT : leafT (.mk 1 i ⟨#[]⟩ []) = ⟨#[63]⟩ ++ fmt i := leafT1 rfl
    have hl : (⟨#[63]⟩ ++ fmt i : ByteArray).data.toList = 63 :: Lib.itoa i := by
      rw [ByteArray.data_append, Array.toList_append]; rfl
    rw [← hT] at hl
    have hw : ∀ c ∈ (leafT (.mk 1 i ⟨#[]⟩ [])).data.toList, wordB c := by
      rw [hl]
      intro c hc
      rcases List.mem_cons.1 hc with rfl | hc
      · exact .inr (.inr (.inr rfl))
      · have := itoa_num i c hc
        unfold numB at this
        unfold wordB
        omega
    refine ⟨by rw [hl]; simp, hw, ?_⟩
    have hq : cutQ (leafT (.mk 1 i ⟨#[]⟩ [])) = (⟨(Lib.itoa i).toArray⟩, true) := by rw [cutQ, hl]; simp only [if_pos]
    have hp : parseOf (cutQ (leafT (.mk 1 i ⟨#[]⟩ []))).1.data.toList = (i, true) := by rw [hq]; exact parse_yes ⟨by omega, by omega⟩ rfl
    have hz := Lib.size_eq (leafT (.mk 1 i ⟨#[]⟩ []))
    have hz' := hz
    rw [hl, List.length_cons] at hz'
    have hb : (leafT (.mk 1 i ⟨#[]⟩ [])).data.toList.getD 0 0 = 63 := by rw [hl]; rfl
    have hk : 0 < (leafT (.mk 1 i ⟨#[]⟩ [])).size := by omega
    rw [getD_byte _ 0 hk] at hb
    rw [leafI_var (by rw [no_number (c := 63) (by rw [hl]; simp) (by unfold numB; decide)]) (isName_no (k := 0) (c := 63) hk (by rw [hb]; rfl) (by unfold okByte; omega)) (by rw [hq]) (by rw [hp]), hp]
  | sym s hs =>
    have hT : leafT (.mk 2 0 s []) = s := leafT2 rfl
    obtain ⟨h1, h2, c, h3, h4⟩ := name_bytes hs
    rw [← hT] at h1 h2 h3
    refine ⟨h1, h2, ?_⟩
    rw [leafI_sym (by rw [no_number h3 (by unfold numB; omega)]) (by rw [hT]; exact hs), hT]
  | int i hi0 hi1 =>
    have hT : leafT (.mk 3 i ⟨#[]⟩ []) = fmt i := leafT3 rfl
    have hl : (leafT (.mk 3 i ⟨#[]⟩ [])).data.toList = Lib.itoa i := by rw [hT]; rfl
    refine ⟨by rw [hl]; exact itoa_nil i, fun c hc => ?_, ?_⟩
    · rw [hl] at hc
      have := itoa_num i c hc
      unfold numB at this
      unfold wordB
      omega
    · have hp : parseOf (leafT (.mk 3 i ⟨#[]⟩ [])).data.toList = (i, true) := by rw [hl]; exact parse_yes ⟨by omega, by omega⟩ rfl
      rw [leafI_int (by rw [hp]), hp]
  | pair a b ha hb => exact absurd rfl h4
theorem word_tok {t : Tm} (h : Word t) : ¬ leafT t = tokL ∧ ¬ leafT t = tokR ∧ ¬ leafT t = tokD := by
  refine ⟨fun e => ?_, fun e => ?_, fun e => ?_⟩
  · have := word_facts (h.word 40 (by rw [e]; simp [tokL]))
    exact absurd this.1 (by decide)
  · have := word_facts (h.word 41 (by rw [e]; simp [tokR]))
    exact absurd this.1 (by decide)
  · have := word_facts (h.word 46 (by rw [e]; simp [tokD]))
    exact absurd rfl this.2.2.1
theorem word_scan {t : Tm} (h : Word t) : ScanS (leafT t).data.toList [leafT t] := by
  have := scan_word h.ne (fun c hc => (word_facts (h.word c hc)).1)
  rwa [show (⟨(leafT t).data.toList.toArray⟩ : ByteArray) = leafT t from by rw [Array.toArray_toList]] at this
theorem word_plain {t : Tm} (h : Word t) : PlainL (leafT t).data.toList := fun c hc => (word_facts (h.word c hc)).2.1

/-! ### Terms -/
/-- The tokens of a term's text, and that they are read as the term. -/
structure TextOf (t : Tm) (X : List ByteArray) : Prop where
  scan : ScanS t.text.data.toList X
  read : ∀ (T P Q : List ByteArray) (i j k : Nat), T = P ++ X ++ Q → i = P.length → j = i + X.length → 2 * X.length ≤ k → anyP leafI k T i = some (t, j)
  head : ∃ x X', X = x :: X' ∧ ¬ x = tokR ∧ ¬ x = tokD
  plain : PlainL t.text.data.toList
structure RestOf (t : Tm) (X : List ByteArray) : Prop where
  scan : ScanN t.rest.data.toList X
  starts : Starts t.rest.data.toList
  read : ∀ (T P Q : List ByteArray) (i j k : Nat), T = P ++ X ++ Q → i = P.length → j = i + X.length → 2 * X.length ≤ k → restP leafI k T i = some (t, j)
  pos : 1 ≤ X.length
  plain : PlainL t.rest.data.toList
theorem TextOf.pos {t : Tm} {X : List ByteArray} (h : TextOf t X) : 1 ≤ X.length := by
  obtain ⟨x, X', rfl, _⟩ := h.head
  simp
theorem at_mid {P Q : List ByteArray} {x : ByteArray} {i : Nat} (hi : i = P.length) : (P ++ x :: Q)[i]? = some x := by
  subst hi
  simp
theorem nil_eq {t : Tm} (h : Good t) (hk : t.kind = 0) : t = zeroTm := by
  cases h with
  | nil => rfl
  | var i h0 h1 => exact absurd hk (show ¬ (1 : Int) = 0 by decide)
  | sym s h => exact absurd hk (show ¬ (2 : Int) = 0 by decide)
  | int i h0 h1 => exact absurd hk (show ¬ (3 : Int) = 0 by decide)
  | pair a b ha hb => exact absurd hk (show ¬ (4 : Int) = 0 by decide)
theorem data_app (a b : ByteArray) : (a ++ b).data.toList = a.data.toList ++ b.data.toList := by rw [ByteArray.data_append, Array.toList_append]
theorem text_of (n : Nat) : ∀ t : Tm, t.nodes ≤ n → Good t → (∃ X, TextOf t X) ∧ ∃ X, RestOf t X := by
  induction n with
  | zero => intro t h; have := nodes_pos t; omega
  | succ n ih =>
    intro t hn hg
    by_cases hk : t.kind = 4
    · obtain ⟨x, y, hxy⟩ := hg.fit.pair hk
      have hn2 := nodes_args2 hxy
      have hx := nodes_pos x
      have hy := nodes_pos y
      obtain ⟨gx, gy⟩ := (good_two hg.fit hxy).1 hg
      obtain ⟨X, hX⟩ := (ih x (by omega) gx).1
      obtain ⟨Y, hY⟩ := (ih y (by omega) gy).2
      have ht : t = pairT x y := by
        cases hg with
        | pair a b ha hb =>
          simp only [Tm.args, List.cons.injEq, and_true] at hxy
          rw [hxy.1, hxy.2]; rfl
        | _ => exact absurd hk (by simp [Tm.kind])
      have hXp := hX.pos
      have hYp := hY.pos
      obtain ⟨x0, X', hX0, hR, hD⟩ := hX.head
      constructor
      · have et : t.text.data.toList = ([40] ++ x.text.data.toList) ++ y.rest.data.toList := by rw [text_pair hxy, data_app, data_app]
        refine ⟨([tokL] ++ X) ++ Y, ?_, ?_, ?_, ?_⟩
        · rw [et]; exact ((scan_open.andS hX.scan).andN hY.starts hY.scan).s
        · intro T P Q i j k hT hi hj hk2
          simp only [List.length_append, List.length_cons, List.length_nil] at hj hk2
          obtain ⟨k, rfl⟩ : ∃ k', k = k' + 2 := ⟨k - 2, by omega⟩
          have a0 : T[i]? = some tokL := by rw [hT]; exact (by simpa using at_mid (P := P) (Q := X ++ Y ++ Q) (x := tokL) hi)
          have a1 : T[i + 1]? = some x0 := by rw [hT, hX0]; exact (by simpa using at_mid (P := P ++ [tokL]) (Q := X' ++ Y ++ Q) (x := x0) (i := i + 1) (by simp [hi]))
          rw [any_elem a0 (by rw [a1]; simpa using hR), ht]
          refine elem_yes (hX.read T (P ++ [tokL]) (Y ++ Q) (i + 1) (i + 1 + X.length) k (by rw [hT]; simp) (by simp [hi]) rfl (by omega)) ?_
          exact hY.read T (P ++ [tokL] ++ X) Q _ _ k (by rw [hT]; simp) (by simp [hi]; omega) (by omega) (by omega)
        · exact ⟨tokL, X ++ Y, rfl, by decide, by decide⟩
        · rw [et]; exact (PlainL.app (PlainL.app (by intro c hc; simp at hc; subst hc; rfl) hX.plain) hY.plain)
      · have et : t.rest.data.toList = ([32] ++ x.text.data.toList) ++ y.rest.data.toList := by rw [rest_pair hxy, data_app, data_app]
        refine ⟨([] ++ X) ++ Y, ?_, ?_, ?_, ?_, ?_⟩
        · rw [et]; exact ((scan_space.andS hX.scan).andN hY.starts hY.scan)
        · rw [et]; exact ⟨32, x.text.data.toList ++ y.rest.data.toList, by simp, rfl⟩
        · intro T P Q i j k hT hi hj hk2
          simp only [List.nil_append, List.length_append] at hT hj hk2
          obtain ⟨k, rfl⟩ : ∃ k', k = k' + 2 := ⟨k - 2, by omega⟩
          have a1 : T[i]? = some x0 := by rw [hT, hX0]; exact (by simpa using at_mid (P := P) (Q := X' ++ Y ++ Q) (x := x0) hi)
          rw [rest_elem (by rw [a1]; simpa using hR) (by rw [a1]; simpa using hD), ht]
          refine elem_yes (hX.read T P (Y ++ Q) i (i + X.length) k (by rw [hT]; simp) hi rfl (by omega)) ?_
          exact hY.read T (P ++ X) Q _ _ k (by rw [hT]; simp) (by simp [hi]) (by omega) (by omega)
        · simp only [List.nil_append, List.length_append]; omega
        · rw [et]; exact (PlainL.app (PlainL.app (by intro c hc; simp at hc; subst hc; rfl) hX.plain) hY.plain)
    · have ha := hg.fit.atom hk
      by_cases h0 : t.kind = 0
      · have ht := nil_eq hg h0
        constructor
        · have et : t.text.data.toList = [40] ++ [41] := by rw [text_leaf ha, leafT0 h0]; rfl
          refine ⟨[tokL] ++ [tokR], ?_, ?_, ?_, ?_⟩
          · rw [et]; exact (scan_open.andN scan_close).s
          · intro T P Q i j k hT hi hj hk2
            simp only [List.length_append, List.length_cons, List.length_nil] at hj hk2
            obtain ⟨k, rfl⟩ : ∃ k', k = k' + 1 := ⟨k - 1, by omega⟩
            rw [any_open (by rw [hT]; exact (by simpa using at_mid (P := P) (Q := tokR :: Q) (x := tokL) hi)) (by rw [hT]; exact (by simpa using at_mid (P := P ++ [tokL]) (Q := Q) (x := tokR) (i := i + 1) (by simp [hi]))), ht, hj]
          · exact ⟨tokL, [tokR], rfl, by decide, by decide⟩
          · rw [et]; intro c hc; simp at hc; rcases hc with rfl | rfl <;> rfl
        · have et : t.rest.data.toList = [41] := by rw [rest_leaf ha, if_pos h0]
          refine ⟨[tokR], ?_, ?_, ?_, ?_, ?_⟩
          · rw [et]; exact scan_close
          · rw [et]; exact ⟨41, [], rfl, rfl⟩
          · intro T P Q i j k hT hi hj hk2
            simp only [List.length_cons, List.length_nil] at hj hk2
            obtain ⟨k, rfl⟩ : ∃ k', k = k' + 1 := ⟨k - 1, by omega⟩
            rw [rest_close (by rw [hT]; exact (by simpa using at_mid (P := P) (Q := Q) (x := tokR) hi)), ht, hj]
          · simp
          · rw [et]; intro c hc; simp at hc; subst hc; rfl
      · have W := word_of hg h0 hk
        obtain ⟨nL, nR, nD⟩ := word_tok W
        constructor
        · have et : t.text = leafT t := text_leaf ha
          refine ⟨[leafT t], ?_, ?_, ?_, ?_⟩
          · rw [et]; exact word_scan W
          · intro T P Q i j k hT hi hj hk2
            simp only [List.length_cons, List.length_nil] at hj hk2
            obtain ⟨k, rfl⟩ : ∃ k', k = k' + 1 := ⟨k - 1, by omega⟩
            rw [any_leaf (x := leafT t) (by rw [hT]; exact (by simpa using at_mid (P := P) (Q := Q) (x := leafT t) hi)) nL W.leaf, hj]
          · exact ⟨leafT t, [], rfl, nR, nD⟩
          · rw [et]; exact word_plain W
        · have et : t.rest.data.toList = (([32] ++ [46]) ++ [32] ++ (leafT t).data.toList) ++ [41] := by
            rw [rest_leaf ha, if_neg h0, data_app, data_app]; simp
          have hdot : ScanS [46] [tokD] := scan_word (W := [46]) (by simp) (by intro c hc; simp at hc; subst hc; rfl)
          have hsp : Starts [32] := ⟨32, [], rfl, rfl⟩
          refine ⟨(([] ++ [tokD]) ++ [] ++ [leafT t]) ++ [tokR], ?_, ?_, ?_, ?_, ?_⟩
          · rw [et]
            exact (((scan_space.andS hdot).andN hsp scan_space).andS (word_scan W)).andN ⟨41, [], rfl, rfl⟩ scan_close
          · rw [et]; exact ⟨32, [46] ++ [32] ++ (leafT t).data.toList ++ [41], by simp, rfl⟩
          · intro T P Q i j k hT hi hj hk2
            simp only [List.nil_append, List.append_nil, List.cons_append, List.length_cons, List.length_nil] at hT hj hk2
            obtain ⟨k, rfl⟩ : ∃ k', k = k' + 2 := ⟨k - 2, by omega⟩
            have a0 : T[i]? = some tokD := by rw [hT]; exact (by simpa using at_mid (P := P) (Q := leafT t :: tokR :: Q) (x := tokD) hi)
            have a1 : T[i + 1]? = some (leafT t) := by rw [hT]; exact (by simpa using at_mid (P := P ++ [tokD]) (Q := tokR :: Q) (x := leafT t) (i := i + 1) (by simp [hi]))
            have a2 : T[i + 1 + 1]? = some tokR := by rw [hT]; exact (by simpa using at_mid (P := P ++ [tokD, leafT t]) (Q := Q) (x := tokR) (i := i + 1 + 1) (by simp [hi]))
            rw [rest_yes a0 (any_leaf a1 nL W.leaf) a2, hj]
          · simp
          · rw [et]
            exact PlainL.app (PlainL.app (by intro c hc; simp at hc; rcases hc with rfl | rfl | rfl <;> rfl) (word_plain W)) (by intro c hc; simp at hc; subst hc; rfl)

/-! ### Lists -/
inductive Each : List Tm → List (List ByteArray) → Prop
  | nil : Each [] []
  | cons {t : Tm} {X : List ByteArray} {l : List Tm} {L : List (List ByteArray)} (h : TextOf t X) (k : Each l L) : Each (t :: l) (X :: L)
theorem Each.len {l : List Tm} {L : List (List ByteArray)} (h : Each l L) : l.length ≤ L.flatten.length := by
  induction h with
  | nil => exact Nat.le_refl _
  | cons h k ih =>
    have := h.pos
    rw [List.flatten_cons, List.length_append, List.length_cons]
    omega
theorem all_of {K : Nat} {T : List ByteArray} {l : List Tm} {L : List (List ByteArray)} (h : Each l L) : ∀ (P : List ByteArray) (n i : Nat), T = P ++ L.flatten → i = P.length → (∀ t ∈ l, okB t = true) → 2 * T.length ≤ K → l.length ≤ n → allP K T n i = some l := by
  induction h with
  | nil =>
    intro P n i hT hi _ _ _
    exact all_end (by rw [hT, hi]; simp)
  | @cons t X l L h k ih =>
    intro P n i hT hi ho hK hn
    have hp := h.pos
    rw [List.flatten_cons] at hT
    have hl : T.length = P.length + (X.length + L.flatten.length) := by rw [hT]; simp
    obtain ⟨n, rfl⟩ : ∃ n', n = n' + 1 := ⟨n - 1, by rw [List.length_cons] at hn; omega⟩
    have hv : validP K T i = some (t, i + X.length) := valid_yes (h.read T P L.flatten i _ K (by rw [hT]; simp) hi rfl (by omega)) (ho t (by simp))
    rw [all_step (by omega) hv, ih (P ++ X) n (i + X.length) (by rw [hT]; simp) (by simp [hi]) (fun x hx => ho x (List.mem_cons_of_mem _ hx)) hK (by rw [List.length_cons] at hn; omega)]
    rfl
theorem parse_of {s : ByteArray} {l : List Tm} {L : List (List ByteArray)} (h : Each l L) (ho : ∀ t ∈ l, okB t = true) (hT : tokensOf s = (L.flatten, true)) (hl : l.length ≤ 40) : ptT s = l ∧ ptB s = true := by
  refine pt_some ?_
  have h2 : (tokensOf s).2 = true := by rw [hT]
  have h1 : (tokensOf s).1 = L.flatten := by rw [hT]
  rw [ptO_ok h2, h1]
  exact terms_some (all_of h [] L.flatten.length 0 rfl rfl ho (by omega) h.len) hl

theorem ok_small {t : Tm} (h : Good t) (hn : (t.nodes : Int) ≤ 11) : Ok t := ⟨by omega, h⟩
theorem txt_small {t : Tm} (h : Good t) (hn : (t.nodes : Int) ≤ 11) : txt t = t.text ∧ t.text.size ≤ 430 := by
  have := (text_size t.nodes t (Nat.le_refl _) h).1
  exact ⟨txt_yes (ok_small h hn), by omega⟩
/-- Behind spaces, before a remark. -/
theorem text_one {t : Tm} (h : Good t) (hn : (t.nodes : Int) ≤ 11) : ∀ s, s = (⟨#[32, 32]⟩ ++ txt t) ++ ⟨#[32, 59, 32, 110, 111, 116, 101]⟩ → (p1T s = t ∧ p1B s = true) ∧ s.size ≤ 1048576 := by
  intro s hs
  obtain ⟨e, hz⟩ := txt_small h hn
  rw [e] at hs
  obtain ⟨X, hX⟩ := (text_of t.nodes t (Nat.le_refl _) h).1
  have hsz : s.size ≤ 500 := by
    rw [hs, ByteArray.size_append, ByteArray.size_append]
    have e1 : (⟨#[32, 32]⟩ : ByteArray).size = 2 := rfl
    have e2 : (⟨#[32, 59, 32, 110, 111, 116, 101]⟩ : ByteArray).size = 7 := rfl
    omega
  have hd : s.data.toList = (([32] ++ [32]) ++ t.text.data.toList ++ [32]) ++ 59 :: [32, 110, 111, 116, 101] := by
    rw [hs, data_app, data_app]; simp
  have hsc : ScanN (([32] ++ [32]) ++ t.text.data.toList ++ [32]) (([] ++ []) ++ X ++ []) := ((scan_space.andN scan_space).andS hX.scan).andN ⟨32, [], rfl, rfl⟩ scan_space
  have hI := hsc s [] (59 :: [32, 110, 111, 116, 101]) [] (by rw [hd]; simp) (Inv_zero s)
  rw [List.nil_append] at hI
  have ht := remark_end hd (by intro c hc; simp at hc; rcases hc with rfl | rfl | rfl | rfl | rfl <;> decide) hI
  simp only [List.nil_append, List.append_nil] at ht
  have hp : PlainL s.data.toList := by
    rw [hd]
    exact PlainL.app (PlainL.app (PlainL.app (by intro c hc; simp at hc; subst hc; rfl) hX.plain) (by intro c hc; simp at hc; subst hc; rfl)) (by intro c hc; simp at hc; rcases hc with rfl | rfl | rfl | rfl | rfl | rfl <;> rfl)
  have hT := tokens_of ht hp (by omega)
  have := parse_of (s := s) (l := [t]) (L := [X]) (.cons hX .nil) (by intro x hx; simp at hx; subst hx; exact okB_true.2 (ok_small h hn)) (by rw [hT]; simp) (by simp)
  exact ⟨p1_one this.1, by omega⟩
/-- Two terms are no term. -/
theorem text_two {a b : Tm} (ha : Good a) (hb : Good b) (hna : (a.nodes : Int) ≤ 11) (hnb : (b.nodes : Int) ≤ 11) : ∀ s, s = (txt a ++ ⟨#[32]⟩) ++ txt b → (p1T s = zeroTm ∧ p1B s = false) ∧ s.size ≤ 1048576 := by
  intro s hs
  obtain ⟨ea, hza⟩ := txt_small ha hna
  obtain ⟨eb, hzb⟩ := txt_small hb hnb
  rw [ea, eb] at hs
  obtain ⟨X, hX⟩ := (text_of a.nodes a (Nat.le_refl _) ha).1
  obtain ⟨Y, hY⟩ := (text_of b.nodes b (Nat.le_refl _) hb).1
  have hsz : s.size ≤ 900 := by
    rw [hs, ByteArray.size_append, ByteArray.size_append]
    have e1 : (⟨#[32]⟩ : ByteArray).size = 1 := rfl
    omega
  have hd : s.data.toList = (a.text.data.toList ++ [32]) ++ b.text.data.toList := by rw [hs, data_app, data_app]
  have hsc : ScanS s.data.toList ((X ++ []) ++ Y) := by rw [hd]; exact (hX.scan.andN ⟨32, [], rfl, rfl⟩ scan_space).andS hY.scan
  have hp : PlainL s.data.toList := by
    rw [hd]
    exact PlainL.app (PlainL.app hX.plain (by intro c hc; simp at hc; subst hc; rfl)) hY.plain
  have hT := tokens_of (toks_scan hsc) hp (by omega)
  have := parse_of (s := s) (l := [a, b]) (L := [X, Y]) (.cons hX (.cons hY .nil)) (by intro x hx; simp at hx; rcases hx with rfl | rfl; exact okB_true.2 (ok_small ha hna); exact okB_true.2 (ok_small hb hnb)) (by rw [hT]; simp) (by simp)
  exact ⟨p1_no (by rw [this.1]; simp), by omega⟩
/-- Four terms in a list. -/
theorem text_list {l : List Tm} (hl : l.length = 4) (h : ∀ t ∈ l, Good t ∧ (t.nodes : Int) ≤ 11) : (ptT (txts l) = l ∧ ptB (txts l) = true) ∧ (txts l).size ≤ 1048576 := by
  have hok : ∀ t ∈ l, okB t = true := fun t ht => okB_true.2 (ok_small (h t ht).1 (h t ht).2)
  match l, hl with
  | [a, b, c, d], _ =>
    obtain ⟨ga, na⟩ := h a (by simp)
    obtain ⟨gb, nb⟩ := h b (by simp)
    obtain ⟨gc, nc⟩ := h c (by simp)
    obtain ⟨gd, nd⟩ := h d (by simp)
    obtain ⟨ea, za⟩ := txt_small ga na
    obtain ⟨eb, zb⟩ := txt_small gb nb
    obtain ⟨ec, zc⟩ := txt_small gc nc
    obtain ⟨ed, zd⟩ := txt_small gd nd
    obtain ⟨A, hA⟩ := (text_of a.nodes a (Nat.le_refl _) ga).1
    obtain ⟨B, hB⟩ := (text_of b.nodes b (Nat.le_refl _) gb).1
    obtain ⟨C, hC⟩ := (text_of c.nodes c (Nat.le_refl _) gc).1
    obtain ⟨D, hD⟩ := (text_of d.nodes d (Nat.le_refl _) gd).1
    have hs : txts [a, b, c, d] = ((((((⟨#[]⟩ ++ a.text) ++ ⟨#[32]⟩) ++ b.text) ++ ⟨#[32]⟩) ++ c.text) ++ ⟨#[32]⟩) ++ d.text := by
      rw [txts_yes (List.all_eq_true.2 hok) (by simp)]
      simp only [List.map, ea, eb, ec, ed]
      rfl
    generalize txts [a, b, c, d] = s at hs
    have hsz : s.size ≤ 1800 := by
      rw [hs]
      simp only [ByteArray.size_append]
      have e0 : (⟨#[]⟩ : ByteArray).size = 0 := rfl
      have e1 : (⟨#[32]⟩ : ByteArray).size = 1 := rfl
      omega
    have hd : s.data.toList = (((((a.text.data.toList ++ [32]) ++ b.text.data.toList) ++ [32]) ++ c.text.data.toList) ++ [32]) ++ d.text.data.toList := by
      rw [hs]
      simp only [data_app]
      rfl
    have hsp : Starts [32] := ⟨32, [], rfl, rfl⟩
    have hsc : ScanS s.data.toList ((((((A ++ []) ++ B) ++ []) ++ C) ++ []) ++ D) := by
      rw [hd]
      exact ((((hA.scan.andN hsp scan_space).andS hB.scan).andN hsp scan_space).andS hC.scan |>.andN hsp scan_space).andS hD.scan
    have p32 : PlainL [32] := by intro c hc; simp at hc; subst hc; rfl
    have hp : PlainL s.data.toList := by
      rw [hd]
      exact (((((hA.plain.app p32).app hB.plain).app p32).app hC.plain).app p32).app hD.plain
    have hT := tokens_of (toks_scan hsc) hp (by omega)
    have := parse_of (s := s) (l := [a, b, c, d]) (L := [A, B, C, D]) (.cons hA (.cons hB (.cons hC (.cons hD .nil)))) hok (by rw [hT]; simp) (by simp)
    exact ⟨this, by omega⟩
end Go.Proofs.YtnbnepeikdieaaaGreatDoor

