/-
  The reader's next token; what a token that is no bracket stands for: leafOf, strings.CutPrefix of one byte.
-/
import Derived.Test.YtjmmeccfjanpcaaDoorReads
import Derived.Test.YtjmmeccfjanpcaaDoorNums
import Derived.Test.YtjmmeccfjanpcaaDoorTabsErr
import Derived.Test.YtjmmeccfjanpcaaDoorName
namespace Go.Proofs.YtjmmeccfjanpcaaDoor
open Go.RowKit
set_option linter.unusedVariables false
set_option linter.unusedSimpArgs false

def Nexted (w0 : World) (p : Nat) (sa : Option Addr) (cap : Nat) (T : List ByteArray) (i : Nat) (w : World) (e : Ending) (w' : World) : Prop :=
  (∃ x, T[i]? = some x ∧ e = .returned (.string x) ∧ Rd w0 p sa cap T (i + 1) w' ∧ Only (iv p (p + 1)) w w') ∨ (T[i]? = none ∧ e = .returned (.string ⟨#[]⟩) ∧ Rd w0 p sa cap T i w' ∧ Only (iv p (p + 1)) w w')

set_option maxHeartbeats 1000000 in
set_option maxRecDepth 100000 in
theorem next_any (w0 : World) (p : Nat) (sa : Option Addr) (cap : Nat) (T : List ByteArray) (i : Nat) (w : World) (h : Rd w0 p sa cap T i w) :
    Calls Tryd.prog 82 #[.pointer (some ⟨p, 0, none⟩)] w (Nexted w0 p sa cap T i w) := by
  have HR := Lib.hid h
  have hm := h.most
  have hl := h.le
  have HS := Lib.hid (atEnd_any w0 p sa cap T i w h)
  clear h
  by_cases he : i = T.length
  · rw [decide_eq_true he] at HS
    have HN : Hid (T[i]? = none) := Lib.hid (by rw [he, List.getElem?_eq_none (Nat.le_refl _)])
    clear he
    go_enter Tryd.func82, Tryd.ntmps82
    go_wp2_with fail
    refine HS.out.mono ?_
    rintro e w1 ⟨rfl, hb⟩
    have HB := Lib.hid hb
    clear hb
    go_wp2
    go_ret
    exact .inr ⟨HN.out, rfl, HR.out.below HB.out, Only.of_below HB.out⟩
  · rw [decide_eq_false he] at HS
    have hlt : i < T.length := by omega
    obtain ⟨y, hy⟩ : ∃ y, T[i]? = some y := ⟨_, List.getElem?_eq_getElem hlt⟩
    have HY := Lib.hid hy
    have hi0 : (0 : Int) ≤ (i : Int) := by omega
    have hi1 : (i : Int) < (T.length : Int) := by omega
    clear he hy
    go_enter Tryd.func82, Tryd.ntmps82
    go_wp2_with fail
    refine HS.out.mono ?_
    rintro e w1 ⟨rfl, hb⟩
    have HR1 := Lib.hid (HR.out.below hb)
    have HB := Lib.hid hb
    clear hb
    obtain ⟨c0, c1, f1⟩ := HR1.out.cells
    obtain ⟨g, off, rfl, ct⟩ := HR1.out.tok HY.out
    go_wp2
    go_quiet (fail)
    go_wp2
    go_ret
    have HN := Lib.hid (HR1.out.below (below_drewN (Below.refl _ w1) 5))
    refine .inl ⟨y, HY.out, rfl, ?_, ?_⟩
    · exact (HR1.out.below (below_drewN (Below.refl _ _) _)).next hlt
    · exact ((Only.of_below HB.out).trans (Only.of_below (below_drewN (Below.refl _ _) _))).trans (only_set _ p _)

theorem extract_one {x : ByteArray} {c : UInt8} {r : List UInt8} (h : x.data.toList = c :: r) : x.extract 0 1 = ⟨#[c]⟩ := by
  have : x = ⟨(c :: r).toArray⟩ := ByteArray.ext (Array.toList_inj.1 (by rw [h]))
  subst this
  rw [ByteArray.ext_iff]
  simp [ByteArray.extract, ByteArray.copySlice]
theorem extract_tail {x : ByteArray} {c : UInt8} {r : List UInt8} (h : x.data.toList = c :: r) : x.extract 1 x.size = ⟨r.toArray⟩ := by
  have : x = ⟨(c :: r).toArray⟩ := ByteArray.ext (Array.toList_inj.1 (by rw [h]))
  subst this
  rw [ByteArray.ext_iff]
  simp [ByteArray.extract, ByteArray.copySlice, ByteArray.size]
theorem size_cons {x : ByteArray} {c : UInt8} {r : List UInt8} (h : x.data.toList = c :: r) : x.size = r.length + 1 := by
  rw [Lib.size_eq, h]; rfl

/-- Behind a question mark, if there is one. -/
def cutQ (x : ByteArray) : ByteArray × Bool := match x.data.toList with | c :: r => if c = 63 then (⟨r.toArray⟩, true) else (x, false) | [] => (x, false)
set_option maxHeartbeats 1000000 in
theorem cutPrefix_any (x : ByteArray) (w : World) (hx : x.size ≤ 1048576) :
    Calls Tryd.prog 88 #[.string x, .string ⟨#[63]⟩] w fun e w' => e = .returned (.tuple #[.string (cutQ x).1, .bool (cutQ x).2]) ∧ Below w.heap.size w w' := by
  cases hl : x.data.toList with
  | nil =>
    have HE : Hid (cutQ x = (x, false)) := Lib.hid (by rw [cutQ, hl])
    have hs : x.size = 0 := by rw [Lib.size_eq, hl]; rfl
    have hs1 : ¬ (1 : Int) ≤ (x.size : Int) := by omega
    have d : decide ((1 : Int) ≤ (x.size : Int)) = false := decide_eq_false hs1
    clear hl hs
    go_enter Tryd.func88, Tryd.ntmps88
    go_wp2
    go_ret2
    exact ⟨by rw [HE.out]; rfl, Below.refl _ _⟩
  | cons c r =>
    have hs := size_cons hl
    have hs1 : (1 : Int) ≤ (x.size : Int) := by omega
    have d : decide ((1 : Int) ≤ (x.size : Int)) = true := decide_eq_true hs1
    have he := extract_one hl
    have ht := extract_tail hl
    by_cases hc : c = 63
    · have HE : Hid (cutQ x = (⟨r.toArray⟩, true)) := Lib.hid (by rw [cutQ, hl]; simp only [hc, if_pos])
      have d2 : ((⟨#[c]⟩ : ByteArray).toList == (⟨#[63]⟩ : ByteArray).toList) = true := by rw [hc]; exact beq_self_eq_true _
      have d3 : (c == 63) = true := by rw [hc]; rfl
      clear hl hc hs
      go_enter Tryd.func88, Tryd.ntmps88
      go_wp2
      go_ret2
      exact ⟨by rw [HE.out]; rfl, Below.refl _ _⟩
    · have HE : Hid (cutQ x = (x, false)) := Lib.hid (by rw [cutQ, hl]; simp only [if_neg hc])
      have d2 : ((⟨#[c]⟩ : ByteArray).toList == (⟨#[63]⟩ : ByteArray).toList) = false := string_eq_no (fun e => hc (by simpa using congrArg (fun z : ByteArray => z.data.toList) e))
      have d3 : (c == 63) = false := by rw [beq_eq_false_iff_ne]; exact hc
      clear hl hc hs
      go_enter Tryd.func88, Tryd.ntmps88
      go_wp2
      go_ret2
      exact ⟨by rw [HE.out]; rfl, Below.refl _ _⟩

/-- What a token stands for, whatever its number's size. -/
def leafI (x : ByteArray) : Option Tm :=
  if (parseOf x.data.toList).2 = true then some (.mk 3 (parseOf x.data.toList).1 ⟨#[]⟩ []) else if isName x = true then some (.mk 2 0 x []) else
    if (cutQ x).2 = true ∧ (parseOf (cutQ x).1.data.toList).2 = true then some (.mk 1 (parseOf (cutQ x).1.data.toList).1 ⟨#[]⟩ []) else none
theorem leafI_int {x : ByteArray} (h : (parseOf x.data.toList).2 = true) : leafI x = some (.mk 3 (parseOf x.data.toList).1 ⟨#[]⟩ []) := by rw [leafI, if_pos h]
theorem leafI_sym {x : ByteArray} (h : (parseOf x.data.toList).2 = false) (h2 : isName x = true) : leafI x = some (.mk 2 0 x []) := by rw [leafI, if_neg (by rw [h]; simp), if_pos h2]
theorem leafI_var {x : ByteArray} (h : (parseOf x.data.toList).2 = false) (h2 : isName x = false) (h3 : (cutQ x).2 = true) (h4 : (parseOf (cutQ x).1.data.toList).2 = true) : leafI x = some (.mk 1 (parseOf (cutQ x).1.data.toList).1 ⟨#[]⟩ []) := by
  rw [leafI, if_neg (by rw [h]; simp), if_neg (by rw [h2]; simp), if_pos ⟨h3, h4⟩]
theorem leafI_no {x : ByteArray} (h : (parseOf x.data.toList).2 = false) (h2 : isName x = false) (h3 : ¬ ((cutQ x).2 = true ∧ (parseOf (cutQ x).1.data.toList).2 = true)) : leafI x = none := by
  rw [leafI, if_neg (by rw [h]; simp), if_neg (by rw [h2]; simp), if_neg h3]
theorem leafI_args {x : ByteArray} {t : Tm} (h : leafI x = some t) : t.args = [] := by
  unfold leafI at h
  split at h
  · cases h; rfl
  · split at h
    · cases h; rfl
    · split at h
      · cases h; rfl
      · cases h
theorem cutQ_size (x : ByteArray) : (cutQ x).1.size ≤ x.size := by
  unfold cutQ
  split
  · rename_i c r h
    split
    · rw [size_cons h]; show r.toArray.size ≤ _; simp
    · exact Nat.le_refl _
  · exact Nat.le_refl _

/-- What a function answers that reads one token: the term and true, or nothing and false. -/
def Leafed (o : Option Tm) (w : World) (e : Ending) (w' : World) : Prop :=
  ((∃ t, o = some t ∧ e = .returned (.tuple #[.agg #[.int .i64 t.kind, .int .i64 t.num, .string t.name, .slice none 0 0], .bool true])) ∨ (o = none ∧ e = .returned (.tuple #[.agg #[.int .i64 0, .int .i64 0, .string ⟨#[]⟩, .slice none 0 0], .bool false]))) ∧ Below w.heap.size w w'

theorem tabErrs_after {w w' : World} (h : TabErrs w) (hb : Below w.heap.size w w') : TabErrs w' := ⟨h.1.kept hb, h.2.kept hb⟩
set_option maxHeartbeats 2000000 in
set_option maxRecDepth 100000 in
theorem leafOf_any (x : ByteArray) (w : World) (hf : TabErrs w) (hx : x.size ≤ 1048576) :
    Calls Tryd.prog 81 #[.string x] w (Leafed (leafI x) w) := by
  have hal : Below w.heap.size w (w.alloc (.cells #[.int .i64 0, .int .i64 0, .string ⟨#[]⟩, .slice none 0 0] 43)) := belowAlloc (Below.refl _ _) _
  have HR := Lib.hid (at_box w #[.int .i64 0, .int .i64 0, .string ⟨#[]⟩, .slice none 0 0] 43)
  have HW := Lib.hid hal
  have HF := Lib.hid (tabErrs_after hf hal)
  have hxm : x.size ≤ maxLen := by unfold maxLen; omega
  have HI := Lib.hid (@leafI_int x)
  have HS := Lib.hid (@leafI_sym x)
  have HV := Lib.hid (@leafI_var x)
  have HN := Lib.hid (@leafI_no x)
  have HP : Hid (∀ W, TabErrs W → Calls Tryd.prog 86 #[.string x] W (NumPost (parseOf x.data.toList) W)) := Lib.hid fun W h => implParse_any x W h.1 h.2 hx
  have hcs := cutQ_size x
  have HP2 : Hid (∀ W, TabErrs W → Calls Tryd.prog 86 #[.string (cutQ x).1] W (NumPost (parseOf (cutQ x).1.data.toList) W)) := Lib.hid fun W h => implParse_any (cutQ x).1 W h.1 h.2 (by omega)
  have HNM := Lib.hid (fun W => implIsName_any x W hxm)
  have HC := Lib.hid (fun W => cutPrefix_any x W hx)
  generalize leafI x = o at HI HS HV HN ⊢
  generalize parseOf x.data.toList = p1 at HI HS HV HN HP
  obtain ⟨n1, b1⟩ := p1
  generalize parseOf (cutQ x).1.data.toList = p2 at HV HN HP2
  obtain ⟨n2, b2⟩ := p2
  generalize cutQ x = cq at HV HN HP2 HC hcs
  obtain ⟨y, b3⟩ := cq
  clear hf hal
  go_enter Tryd.func81, Tryd.ntmps81
  go_upto_region 1 with (fail)
  generalize hw0 : w.alloc (.cells #[.int .i64 0, .int .i64 0, .string ⟨#[]⟩, .slice none 0 0] 43) = w0 at HR HW HF ⊢
  clear hw0
  go_wp2_with fail
  refine (HP.out w0 HF.out).mono ?_
  rintro e w1 ⟨rfl, hb⟩
  replace HR := Lib.hid (HR.out.read hb)
  replace HW := Lib.hid (belowOn HW.out (Nat.le_refl _) hb)
  replace HF := Lib.hid (tabErrs_after HF.out hb)
  clear hb HP
  cases b1 with
  | true =>
    have HO := Lib.hid (HI.out (by simp))
    have HRE := Lib.hid HR.out.now
    obtain ⟨r0, r1, r2, r3, rf⟩ := box_cells HR.out.now
    have zr := HR.out.le
    go_wp2
    refine bodyPost_four2 (p := 2) (q := 3) (b := w.heap.size) (z := .bool true) rfl rfl rfl rfl Tryd.underlying43 rfl (by kernel_rfl) HRE.out fun w' hw => ?_
    exact ⟨.inl ⟨_, HO.out, rfl⟩, HW.out.trans (hw.below (fun k hk => by omega) HW.out.size)⟩
  | false =>
    go_wp2_with fail
    refine (HNM.out w1).mono ?_
    rintro e w2 ⟨rfl, hb⟩
    replace HR := Lib.hid (HR.out.read hb)
    replace HW := Lib.hid (belowOn HW.out (Nat.le_refl _) hb)
    replace HF := Lib.hid (tabErrs_after HF.out hb)
    clear hb HNM
    cases hnm : isName x with
    | true =>
      have HO := Lib.hid (HS.out (by simp) hnm)
      have HRE := Lib.hid HR.out.now
      obtain ⟨r0, r1, r2, r3, rf⟩ := box_cells HR.out.now
      have zr := HR.out.le
      clear hnm
      go_wp2
      refine bodyPost_four2 (p := 2) (q := 3) (b := w.heap.size) (z := .bool true) rfl rfl rfl rfl Tryd.underlying43 rfl (by kernel_rfl) HRE.out fun w' hw => ?_
      exact ⟨.inl ⟨_, HO.out, rfl⟩, HW.out.trans (hw.below (fun k hk => by omega) HW.out.size)⟩
    | false =>
      have HNAME := Lib.hid hnm
      clear hnm
      go_wp2_with fail
      refine (HC.out w2).mono ?_
      rintro e w3 ⟨rfl, hb⟩
      replace HR := Lib.hid (HR.out.read hb)
      replace HW := Lib.hid (belowOn HW.out (Nat.le_refl _) hb)
      replace HF := Lib.hid (tabErrs_after HF.out hb)
      clear hb HC
      go_wp2_with fail
      refine (HP2.out w3 HF.out).mono ?_
      rintro e w4 ⟨rfl, hb⟩
      replace HR := Lib.hid (HR.out.read hb)
      replace HW := Lib.hid (belowOn HW.out (Nat.le_refl _) hb)
      clear hb HP2 HF
      have HRE := Lib.hid HR.out.now
      obtain ⟨r0, r1, r2, r3, rf⟩ := box_cells HR.out.now
      have zr := HR.out.le
      cases b3 with
      | false =>
        have HO := Lib.hid (HN.out (by simp) HNAME.out (fun h => by cases h.1))
        go_wp2
        refine bodyPost_four2 (p := 2) (q := 3) (b := w.heap.size) (z := .bool false) rfl rfl rfl rfl Tryd.underlying43 rfl (by kernel_rfl) HRE.out fun w' hw => ?_
        exact ⟨.inr ⟨HO.out, rfl⟩, HW.out.trans (hw.below (fun k hk => by omega) HW.out.size)⟩
      | true =>
        cases b2 with
        | false =>
          have HO := Lib.hid (HN.out (by simp) HNAME.out (fun h => by cases h.2))
          go_wp2
          refine bodyPost_four2 (p := 2) (q := 3) (b := w.heap.size) (z := .bool false) rfl rfl rfl rfl Tryd.underlying43 rfl (by kernel_rfl) HRE.out fun w' hw => ?_
          exact ⟨.inr ⟨HO.out, rfl⟩, HW.out.trans (hw.below (fun k hk => by omega) HW.out.size)⟩
        | true =>
          have HO := Lib.hid (HV.out (by simp) HNAME.out (by simp) (by simp))
          go_wp2
          refine bodyPost_four2 (p := 2) (q := 3) (b := w.heap.size) (z := .bool true) rfl rfl rfl rfl Tryd.underlying43 rfl (by kernel_rfl) HRE.out fun w' hw => ?_
          exact ⟨.inl ⟨_, HO.out, rfl⟩, HW.out.trans (hw.below (fun k hk => by omega) HW.out.size)⟩
end Go.Proofs.YtjmmeccfjanpcaaDoor

