/-
  Substitutions, plain: what is bound, when a list of bindings is a substitution, what a substitution makes of a term.
  The model's l04Get.
  The model's l04Put: all variables replaced at once, what they are replaced by shared.
  The model's l04Values. (Written by wip/tools/gen_values.py.)
  The model's SubstOk.
  The model's l04Apply, Lookup, ApplySubst.
  The model's Lookup, ApplySubst.
  The model's l04Copy, l02Has, RestrictSubst.
-/
import Derived.Test.YtnmdnajbafpfiaaRows3
import Derived.Test.YtnmdnajbafpfiaaVarsP
import Derived.Test.YtnmdnajbafpfiaaPuts
import Derived.Deep.RegionHeld3
import Derived.Deep.Cut
import Derived.IntWalk
import Derived.Test.YtnmdnajbafpfiaaItems
import Derived.Deep.RegionLaw
namespace Go.Proofs.Ytnmdnajbafpfiaa
open Go.RowKit
set_option linter.unusedVariables false
set_option linter.unusedSimpArgs false

def getO : List Bd → Int → Option Tm
  | [], _ => none
  | b :: l, v => if b.v = v then some b.t else getO l v
theorem getO_some : ∀ {s : List Bd} {v : Int} {t : Tm}, getO s v = some t → ∃ b ∈ s, b.v = v ∧ b.t = t
  | [], _, _, h => by cases h
  | b :: s, v, t, h => by
    rw [getO] at h
    split at h
    · rename_i e
      cases h
      exact ⟨b, by simp, e, rfl⟩
    · obtain ⟨c, hc, h1⟩ := getO_some h
      exact ⟨c, by simp [hc], h1⟩
theorem getO_none : ∀ {s : List Bd} {v : Int}, getO s v = none ↔ ∀ b ∈ s, b.v ≠ v
  | [], v => by simp [getO]
  | b :: s, v => by
    rw [getO]
    by_cases h : b.v = v
    · rw [if_pos h]; simp [h]
    · rw [if_neg h, getO_none]; simp [h]
theorem getO_at {s : List Bd} {v : Int} : ∀ {k : Nat} {x : Bd}, s[k]? = some x → x.v = v → (∀ i y, i < k → s[i]? = some y → y.v ≠ v) → getO s v = some x.t := by
  induction s with
  | nil => intro k x hx; simp at hx
  | cons b s ih =>
    intro k x hx hv hn
    rw [getO]
    cases k with
    | zero => simp at hx; subst hx; rw [if_pos hv]
    | succ k =>
      rw [if_neg (hn 0 b (by omega) rfl)]
      exact ih (k := k) (by simpa using hx) hv fun i y hi hy => hn (i + 1) y (by omega) (by simpa using hy)
theorem getO_out {s : List Bd} {v : Int} (h : ∀ i y, i < s.length → s[i]? = some y → y.v ≠ v) : getO s v = none := by
  rw [getO_none]
  intro b hb
  obtain ⟨i, hi⟩ := List.getElem?_of_mem hb
  exact h i b (List.getElem?_eq_some_iff.1 hi).1 hi
def orZero (o : Option Tm) : Tm := o.getD zeroTm
def getT (s : List Bd) (v : Int) : Tm := orZero (getO s v)
def getB (s : List Bd) (v : Int) : Bool := (getO s v).isSome
theorem get_yes {s : List Bd} {v : Int} {t : Tm} (h : getO s v = some t) : getT s v = t ∧ getB s v = true := by rw [getT, getB, h]; exact ⟨rfl, rfl⟩
theorem get_no {s : List Bd} {v : Int} (h : getO s v = none) : getT s v = zeroTm ∧ getB s v = false := by rw [getT, getB, h]; exact ⟨rfl, rfl⟩
theorem getB_none {s : List Bd} {v : Int} : getB s v = false ↔ getO s v = none := by
  unfold getB
  cases getO s v <;> simp

/-- Variables in order and in range, valid terms, not too many. -/
def ValuesP (s : List Bd) : Prop :=
  (∀ (k : Nat) (x : Bd), s[k]? = some x → (0 ≤ x.v ∧ x.v ≤ 100000) ∧ Ok x.t) ∧ (∀ (k : Nat) (x y : Bd), s[k]? = some x → s[k + 1]? = some y → x.v < y.v) ∧ s.length ≤ 400
def SubstP (s : List Bd) : Prop := ValuesP s ∧ ∀ b ∈ s, ¬ (b.t.kind = 1 ∧ b.v ≤ b.t.num) ∧ ∀ v ∈ b.t.vl, getO s v = none
open Classical in
noncomputable def valuesB (s : List Bd) : Bool := decide (ValuesP s)
open Classical in
noncomputable def substB (s : List Bd) : Bool := decide (SubstP s)
theorem valuesB_true {s : List Bd} : valuesB s = true ↔ ValuesP s := by simp [valuesB]
theorem valuesB_false {s : List Bd} : valuesB s = false ↔ ¬ ValuesP s := by simp [valuesB]
theorem substB_true {s : List Bd} : substB s = true ↔ SubstP s := by simp [substB]
theorem substB_false {s : List Bd} : substB s = false ↔ ¬ SubstP s := by simp [substB]
theorem substP_nil : SubstP [] := ⟨⟨fun k x h => by simp at h, fun k x y h => by simp at h, by simp⟩, fun b hb => by simp at hb⟩

/-- All variables replaced at once. -/
def putN (s : List Bd) : Nat → Tm → Tm
  | 0, t => t
  | n + 1, t => if t.kind = 1 then (match getO s t.num with | some x => x | none => t) else if t.kind = 4 then .mk 4 0 ⟨#[]⟩ (t.args.map (putN s n)) else t
def putT (s : List Bd) (t : Tm) : Tm := putN s t.nodes t
theorem putN_stable (s : List Bd) : ∀ (n m : Nat) (t : Tm), t.nodes ≤ n → t.nodes ≤ m → putN s n t = putN s m t
  | 0, m, t, h, _ => by have := nodes_pos t; omega
  | n + 1, 0, t, _, h => by have := nodes_pos t; omega
  | n + 1, m + 1, t, h1, h2 => by
    rw [putN, putN]
    split
    · rfl
    · split
      · congr 1
        apply List.map_congr_left
        intro x hx
        obtain ⟨j, hj⟩ := List.getElem?_of_mem hx
        have := nodes_at hj
        rw [nodes_eq] at h1 h2
        exact putN_stable s n m x (by omega) (by omega)
      · rfl
theorem putT_var {s : List Bd} {t : Tm} (h : t.kind = 1) : putT s t = (match getO s t.num with | some x => x | none => t) := by
  obtain ⟨n, hn⟩ : ∃ n, t.nodes = n + 1 := ⟨t.nodes - 1, by have := nodes_pos t; omega⟩
  rw [putT, hn, putN, if_pos h]
theorem putT_pair {s : List Bd} {t : Tm} (h : t.kind = 4) : putT s t = .mk 4 0 ⟨#[]⟩ (t.args.map (putT s)) := by
  obtain ⟨n, hn⟩ : ∃ n, t.nodes = n + 1 := ⟨t.nodes - 1, by have := nodes_pos t; omega⟩
  rw [putT, hn, putN, if_neg (by omega), if_pos h]
  congr 1
  apply List.map_congr_left
  intro x hx
  obtain ⟨j, hj⟩ := List.getElem?_of_mem hx
  have := nodes_at hj
  rw [nodes_eq] at hn
  exact putN_stable s n x.nodes x (by omega) (Nat.le_refl _)
theorem putT_two {s : List Bd} {t x y : Tm} (h : t.kind = 4) (hl : t.args = [x, y]) : putT s t = .mk 4 0 ⟨#[]⟩ [putT s x, putT s y] := by rw [putT_pair h, hl]; rfl
theorem putT_atom {s : List Bd} {t : Tm} (h1 : ¬ t.kind = 1) (h4 : ¬ t.kind = 4) : putT s t = t := by
  obtain ⟨n, hn⟩ : ∃ n, t.nodes = n + 1 := ⟨t.nodes - 1, by have := nodes_pos t; omega⟩
  rw [putT, hn, putN, if_neg h1, if_neg h4]

/-! What a substitution makes of a term, and whether. -/
open Classical in
noncomputable def apB (s : List Bd) (t : Tm) : Bool := decide (SubstP s ∧ Ok t ∧ (putT s t).nodes ≤ 5000)
open Classical in
noncomputable def apT (s : List Bd) (t : Tm) : Tm := if SubstP s ∧ Ok t ∧ (putT s t).nodes ≤ 5000 then putT s t else zeroTm
open Classical in
theorem ap_yes {s : List Bd} {t : Tm} (h : SubstP s ∧ Ok t ∧ (putT s t).nodes ≤ 5000) : apT s t = putT s t ∧ apB s t = true := ⟨by rw [apT, if_pos h], by rw [apB, decide_eq_true h]⟩
open Classical in
theorem ap_no {s : List Bd} {t : Tm} (h : ¬ (SubstP s ∧ Ok t ∧ (putT s t).nodes ≤ 5000)) : apT s t = zeroTm ∧ apB s t = false := ⟨by rw [apT, if_neg h], by rw [apB, decide_eq_false h]⟩
/-! The To of a variable, where the list is a substitution. -/
open Classical in
noncomputable def luB (s : List Bd) (v : Int) : Bool := decide (getB s v = true ∧ SubstP s)
open Classical in
noncomputable def luT (s : List Bd) (v : Int) : Tm := if getB s v = true ∧ SubstP s then getT s v else zeroTm
open Classical in
theorem lu_yes {s : List Bd} {v : Int} (h : getB s v = true ∧ SubstP s) : luT s v = getT s v ∧ luB s v = true := ⟨by rw [luT, if_pos h], by rw [luB, decide_eq_true h]⟩
open Classical in
theorem lu_no {s : List Bd} {v : Int} (h : ¬ (getB s v = true ∧ SubstP s)) : luT s v = zeroTm ∧ luB s v = false := ⟨by rw [luT, if_neg h], by rw [luB, decide_eq_false h]⟩
theorem getT_sz {s : List Bd} (v : Int) (h : szB s ≤ 1048576) : (getT s v).sz ≤ 1048576 := by
  cases hg : getO s v with
  | none => rw [(get_no hg).1, zeroTm, Tm.sz, szL]; exact Nat.zero_le _
  | some t =>
    obtain ⟨b, hb, _, rfl⟩ := getO_some hg
    obtain ⟨j, hj⟩ := List.getElem?_of_mem hb
    rw [(get_yes hg).1]
    have := szB_at hj
    omega
theorem lu_sz {s : List Bd} (v : Int) (h : szB s ≤ 1048576) : (luT s v).sz ≤ 1048576 := by
  unfold luT
  split
  · exact getT_sz v h
  · rw [zeroTm, Tm.sz, szL]; exact Nat.zero_le _
end Go.Proofs.Ytnmdnajbafpfiaa

namespace Go.Proofs.Ytnmdnajbafpfiaa
open Go.RowKit
set_option linter.unusedVariables false
set_option linter.unusedSimpArgs false

theorem ArgsS.low {w : World} {S : Nat → Prop} {v : Value} {l : List Tm} (h : ArgsS w S v l) : ArgsS w (fun k => S k ∧ k < w.heap.size) v l := by
  induction h with
  | nil a cap => exact .nil a cap
  | row g off n cap V l hn hS hg hc hr ih => exact .row g off n cap V l hn ⟨hS, hg⟩ hg hc ih
/-- A term that lies where the list lies, and whether. -/
def Held2 (t : Tm) (b : Bool) (S : Nat → Prop) (w : World) (e : Ending) (w' : World) : Prop :=
  ∃ u, e = .returned (.tuple #[.agg #[.int .i64 t.kind, .int .i64 t.num, .string t.name, u], .bool b]) ∧ ArgsS w' S u t.args ∧ Below w.heap.size w w'

set_option maxRecDepth 100000 in
set_option maxHeartbeats 2000000 in
theorem specGet_any (s : List Bd) (V : Value) (v : Int) (S : Nat → Prop) (w : World) (hA : ListS bdE w S V s) (hL : s.length ≤ 1048576) :
    Calls Try.prog 37 #[V, .int .i64 v] w (Held2 (getT s v) (getB s v) S w) := by
  obtain ⟨a, cap, rfl⟩ := hA.slice
  have hal : Below w.heap.size w (w.alloc (.cells #[.int .i64 0, .int .i64 0, .string ⟨#[]⟩, .slice none 0 0] 28)) := belowAlloc (Below.refl _ _) _
  have HR := Lib.hid (at_box w #[.int .i64 0, .int .i64 0, .string ⟨#[]⟩, .slice none 0 0] 28)
  have HW := Lib.hid hal
  have HA := Lib.hid hA
  have HAT := Lib.hid (fun (k : Nat) (x : Bd) (h1 : s[k]? = some x) (h2 : x.v = v) (h3 : ∀ i y, i < k → s[i]? = some y → y.v ≠ v) => get_yes (getO_at h1 h2 h3))
  have HNO := Lib.hid (fun (h : ∀ i y, i < s.length → s[i]? = some y → y.v ≠ v) => get_no (getO_out h))
  have END : ∀ (y : Tm) (bb : Bool) (ya : Option Addr) (yc : Nat) (w1 w' : World), Below w.heap.size w w1 → Only (fun k => k = w.heap.size) w1 w' → ArgsS w1 (fun k => S k ∧ k < w.heap.size) (.slice ya y.args.length yc) y.args → Held2 y bb S w (.returned (.tuple #[.agg #[.int .i64 y.kind, .int .i64 y.num, .string y.name, .slice ya y.args.length yc], .bool bb])) w' := fun y bb ya yc w1 w' h1 ho ha =>
    ⟨_, rfl, (ha.frame ho.size fun k hk hks => ho.block k hks fun e => by have := hk.2; omega).sub fun k hk => hk.1, h1.trans (ho.below (fun k hk => by omega) h1.size)⟩
  have HEND := Lib.hid END
  generalize getT s v = rt at HAT HNO ⊢
  generalize getB s v = rb at HAT HNO ⊢
  clear hal hA END
  go_enter Try.func37, Try.ntmps37
  go_upto_region 1 with (fail)
  generalize hw0 : w.alloc (.cells #[.int .i64 0, .int .i64 0, .string ⟨#[]⟩, .slice none 0 0] 28) = w0 at HR HW ⊢
  clear hw0
  go_wp2
  go_loopw [10] (fun iv wr => ∃ k : Nat, k ≤ s.length ∧ iv = .int .i64 k ∧ Hid (∀ i y, i < k → s[i]? = some y → y.v ≠ v) ∧ Hid (At wr w.heap.size (w.heap.size + 1) (BoxP w.heap.size #[.int .i64 0, .int .i64 0, .string ⟨#[]⟩, .slice none 0 0] 28)) ∧ Hid (Below w.heap.size w wr)) (fun iv _ => s.length - (intOf iv).toNat)
  case atStart => exact ⟨0, Nat.zero_le _, rfl, Lib.hid (fun i y hi => absurd hi (Nat.not_lt_zero _)), HR, HW⟩
  case round =>
    obtain ⟨k, hk, rfl, HN, HB, HWr⟩ := hrel
    clear HR HW
    by_cases hlt : k < s.length
    · have hltI : (k : Int) < (s.length : Int) := by omega
      obtain ⟨x, hx⟩ : ∃ x, s[k]? = some x := ⟨_, List.getElem?_eq_getElem hlt⟩
      obtain ⟨g, off, u1, u2, rfl, hg, hq, hc, hu⟩ := HA.out.bd hx
      obtain ⟨d0, d1, d2, d3, d4⟩ := hc wr HWr.out
      have HX := Lib.hid hx
      have HU := Lib.hid (hu.low.kept HWr.out)
      clear hx hq hc hu
      go_upto_region 4 with (fail)
      have hal : Below wr.heap.size wr (wr.alloc (.cells #[.int .i64 x.v, .int .i64 x.t.kind, .int .i64 x.t.num, .string x.t.name, .slice u1 x.t.args.length u2] 73)) := belowAlloc (Below.refl _ _) _
      have h5 := heap_new wr (.cells #[.int .i64 x.v, .int .i64 x.t.kind, .int .i64 x.t.num, .string x.t.name, .slice u1 x.t.args.length u2] 73)
      have HB1 := Lib.hid (HB.out.read hal)
      have HW1 := Lib.hid (belowOn HWr.out (Nat.le_refl _) hal)
      have HU1 := Lib.hid (HU.out.kept hal)
      clear hal d0 d1 d2 d3 d4 HB HWr HU
      generalize hw1 : wr.alloc (.cells #[.int .i64 x.v, .int .i64 x.t.kind, .int .i64 x.t.num, .string x.t.name, .slice u1 x.t.args.length u2] 73) = w1 at h5 HB1 HW1 HU1 ⊢
      clear hw1
      obtain ⟨e0, e1, e2, e3, e4, ef⟩ := box_cells5 h5
      obtain ⟨r0, r1, r2, r3, rf⟩ := box_cells HB1.out.now
      clear h5
      by_cases hv : x.v = v
      · obtain ⟨rfl, rfl⟩ := HAT.out k x HX.out hv HN.out
        have dv : (x.v == v) = true := by rw [hv]; exact beq_self_eq_true _
        clear hv
        go_wp2
        refine bodyPost_four2 (p := 4) (q := 5) (b := w.heap.size) (z := .bool true) rfl rfl rfl rfl Try.underlying28 rfl (by kernel_rfl) HB1.out.now fun w' hw => ?_
        exact HEND.out x.t true u1 u2 w1 w' HW1.out hw HU1.out
      · have dv : (x.v == v) = false := beq_eq_false_iff_ne.2 hv
        have HV := Lib.hid hv
        clear hv
        go_wp2
        go_roundw
        case rel =>
          refine ⟨k + 1, by omega, by go_num, Lib.hid fun i y hi hy => ?_, HB1, HW1⟩
          by_cases e : i = k
          · subst e
            have := hy.symm.trans HX.out
            cases this
            exact HV.out
          · exact HN.out i y (by omega) hy
        case measure => simp [intOf]; omega
    · obtain rfl : k = s.length := by omega
      obtain ⟨rfl, rfl⟩ := HNO.out HN.out
      obtain ⟨r0, r1, r2, r3, rf⟩ := box_cells HB.out.now
      go_wp2
      refine bodyPost_four2 (p := 4) (q := 5) (b := w.heap.size) (z := .bool false) rfl rfl rfl rfl Try.underlying28 rfl (by kernel_rfl) HB.out.now fun w' hw => ?_
      exact HEND.out zeroTm false none 0 wr w' HWr.out hw (.nil _ _)
end Go.Proofs.Ytnmdnajbafpfiaa

namespace Go.Proofs.Ytnmdnajbafpfiaa
open Go.RowKit
set_option linter.unusedVariables false
set_option linter.unusedSimpArgs false

set_option maxRecDepth 100000 in
set_option maxHeartbeats 4000000 in
theorem specPut4_any (s : List Bd) (hL : s.length ≤ 1048576) (N : Nat) : ∀ (t : Tm) (Vs V : Value) (S : Nat → Prop) (w : World), t.nodes < N → (∀ k, S k → k < w.heap.size) → ListS bdE w S Vs s → ArgsS w S V t.args → t.sz ≤ 1048576 → Good t →
    Calls Try.prog 38 #[Vs, .agg #[.int .i64 t.kind, .int .i64 t.num, .string t.name, V]] w (OldS S (putT s t) w) := by
  induction N with
  | zero => intro t Vs V S w hN; omega
  | succ N ih =>
    intro t Vs V S w hN hSB hLS hA hZ hG
    obtain ⟨aa, ca, rfl⟩ := hA.at.slice
    obtain ⟨sa, sc, rfl⟩ := hLS.slice
    obtain ⟨r, hr⟩ : ∃ r, r = putT s t := ⟨_, rfl⟩
    rw [← hr]
    have HQ := Lib.hid hr
    have HI := Lib.hid ih
    have HG := Lib.hid hG
    have HS := Lib.hid (sz_eq t)
    have HNE := Lib.hid (nodes_eq t)
    have HSB := Lib.hid hSB
    have HA := Lib.hid hA
    have HLS := Lib.hid hLS
    have HW : Hid (Below w.heap.size w w) := Lib.hid (Below.refl _ _)
    clear hA ih hG hr hSB hLS
    have hal : Below w.heap.size w (w.alloc (.cells #[.int .i64 t.kind, .int .i64 t.num, .string t.name, .slice aa t.args.length ca] 28)) := (Below.refl _ _).alloc (Nat.le_refl _) _
    replace HA := Lib.hid (HA.out.kept hal)
    replace HLS := Lib.hid (HLS.out.kept hal)
    replace HW := Lib.hid (belowOn HW.out (Nat.le_refl _) hal)
    have HX := Lib.hid (at_box_of w #[.int .i64 t.kind, .int .i64 t.num, .string t.name, .slice aa t.args.length ca] 28 (w.heap.size) (by simp))
    clear hal
    have hal : Below (w.alloc (.cells #[.int .i64 t.kind, .int .i64 t.num, .string t.name, .slice aa t.args.length ca] 28)).heap.size (w.alloc (.cells #[.int .i64 t.kind, .int .i64 t.num, .string t.name, .slice aa t.args.length ca] 28)) ((w.alloc (.cells #[.int .i64 t.kind, .int .i64 t.num, .string t.name, .slice aa t.args.length ca] 28)).alloc (.cells #[.int .i64 0, .int .i64 0, .string ⟨#[]⟩, .slice none 0 0] 28)) := (Below.refl _ _).alloc (Nat.le_refl _) _
    replace HA := Lib.hid (HA.out.kept hal)
    replace HLS := Lib.hid (HLS.out.kept hal)
    replace HX := Lib.hid (HX.out.read hal)
    replace HW := Lib.hid (belowOn HW.out (Nat.le_refl _) hal)
    have HR := Lib.hid (at_box_of (w.alloc (.cells #[.int .i64 t.kind, .int .i64 t.num, .string t.name, .slice aa t.args.length ca] 28)) #[.int .i64 0, .int .i64 0, .string ⟨#[]⟩, .slice none 0 0] 28 (w.heap.size + 1) (by simp))
    clear hal
    go_enter Try.func38, Try.ntmps38
    go_upto_region 1 with (fail)
    generalize hw0 : (w.alloc (.cells #[.int .i64 t.kind, .int .i64 t.num, .string t.name, .slice aa t.args.length ca] 28)).alloc (.cells #[.int .i64 0, .int .i64 0, .string ⟨#[]⟩, .slice none 0 0] 28) = w0 at HA HLS HX HR HW ⊢
    clear hw0
    obtain ⟨c0a, c0b, c0c, c0d⟩ := HX.out.cells
    have z0 := HX.out.le
    by_cases hv : t.kind = 1
    · have k1 : (t.kind == 1) = true := by rw [hv]; rfl
      have k4 : (t.kind == 4) = false := by rw [hv]; rfl
      have HPV := Lib.hid (putT_var (s := s) hv)
      have HRQ : Hid (w.heap.size + 1 < w0.heap.size) := Lib.hid (by have := HR.out.le; omega)
      have HGET := Lib.hid (specGet_any s _ t.num S w0 HLS.out hL)
      clear hv
      go_wp2_with fail
      refine HGET.out.mono ?_
      rintro e w1 ⟨gu, rfl, hu, hb⟩
      obtain ⟨ga, gc, rfl⟩ := hu.at.slice
      have hal : Below w1.heap.size w1 (w1.alloc (.cells #[.int .i64 (getT s t.num).kind, .int .i64 (getT s t.num).num, .string (getT s t.num).name, .slice ga (getT s t.num).args.length gc] 28)) := belowAlloc (Below.refl _ _) _
      have HU := Lib.hid (hu.kept hal)
      have HBX := Lib.hid (at_box_of w1 #[.int .i64 (getT s t.num).kind, .int .i64 (getT s t.num).num, .string (getT s t.num).name, .slice ga (getT s t.num).args.length gc] 28 (w1.heap.size) rfl)
      have HB1 := Lib.hid (belowOn hb (Nat.le_refl _) hal)
      replace HX := Lib.hid ((HX.out.read hb).read hal)
      replace HR := Lib.hid ((HR.out.read hb).read hal)
      replace HA := Lib.hid ((HA.out.kept hb).kept hal)
      clear hu hb hal HGET c0a c0b c0c c0d
      go_upto_region 3 with (fail)
      generalize hw1 : w1.alloc (.cells #[.int .i64 (getT s t.num).kind, .int .i64 (getT s t.num).num, .string (getT s t.num).name, .slice ga (getT s t.num).args.length gc] 28) = w2 at HU HBX HB1 HX HR HA ⊢
      clear hw1
      have HRE := Lib.hid HR.out.now
      obtain ⟨r0, r1, r2, r3, rf⟩ := box_cells HR.out.now
      cases hg : getB s t.num with
      | true =>
        have HQV : Hid (r = getT s t.num) := Lib.hid (by
          rw [HQ.out, HPV.out]
          cases ho : getO s t.num with
          | none => rw [← getB_none, hg] at ho; cases ho
          | some x => rw [(get_yes ho).1])
        obtain ⟨b0, b1, b2, b3, _⟩ := box_cells HBX.out.now
        clear hg
        go_wp2
        exact oldS_end (p := 4) (b := w.heap.size + 1) (W := w0) (by rw [HQV.out]) (by rw [HQV.out]) (by rw [HQV.out]) rfl rfl rfl Try.underlying28 (by kernel_rfl) HRE.out HSB.out HW.out HB1.out (by omega) HRQ.out (by rw [HQV.out]; exact HU.out.sub fun k hk => .inl hk)
      | false =>
        have HQV : Hid (r = t) := Lib.hid (by rw [HQ.out, HPV.out, getB_none.1 hg])
        obtain ⟨c0a, c0b, c0c, c0d⟩ := HX.out.cells
        clear hg
        go_wp2
        exact oldS_end (p := 4) (b := w.heap.size + 1) (W := w0) (by rw [HQV.out]) (by rw [HQV.out]) (by rw [HQV.out]) rfl rfl rfl Try.underlying28 (by kernel_rfl) HRE.out HSB.out HW.out HB1.out (by omega) HRQ.out (by rw [HQV.out]; exact HA.out.sub fun k hk => .inl hk)
    · by_cases hk : t.kind = 4
      · obtain ⟨x, y, hxy⟩ := HG.out.fit.pair hk
        obtain ⟨ga, offa, u1, u2, v1, v2, rfl, hga, hla, hcx, hcy, hax, hay⟩ := HA.out.two hxy
        have HGA : Hid (ga < w.heap.size) := Lib.hid (by
          obtain ⟨g, off, n, cap, hv, hS⟩ := HA.out.root (by rw [hxy]; simp)
          simp only [Value.slice.injEq, Option.some.injEq, Addr.mk.injEq] at hv
          obtain ⟨⟨rfl, _⟩, _⟩ := hv
          exact HSB.out _ hS)
        have HLA := Lib.hid hla
        have HPA := Lib.hid (And.intro hcx (And.intro hcy (And.intro hax hay)))
        have HGX := Lib.hid ((good_two HG.out.fit hxy).1 HG.out)
        have HNX : Hid (nodesL t.args = x.nodes + y.nodes ∧ szL t.args = 2 + x.sz + y.sz ∧ 1 ≤ x.nodes ∧ 1 ≤ y.nodes) := Lib.hid (by
          rw [hxy]; simp only [nodesL, szL]; have := nodes_pos x; have := nodes_pos y; omega)
        have HQV : Hid (r.kind = 4 ∧ r.num = 0 ∧ r.name = ⟨#[]⟩ ∧ r.args = [putT s x, putT s y]) := Lib.hid (by rw [HQ.out, putT_two hk hxy]; exact ⟨rfl, rfl, rfl, rfl⟩)
        rw [hk] at c0a
        have k1 : ((4 : Int) == 1) = false := rfl
        clear hxy hga hla hcx hcy hax hay hk hv
        have hself : Below w0.heap.size w0 w0 := Below.refl _ _
        have hdrew : Below w0.heap.size w0 w0.drew := hself.drew
        have HCE : Hid (∀ W, Below w0.heap.size w0 W → W.cell? ⟨w.heap.size, 3, none⟩ = some (.slice (some ⟨ga, offa, none⟩) t.args.length ca) ∧ W.cell? ⟨ga, offa, none⟩ = some (.int .i64 x.kind) ∧ W.cell? ⟨ga, offa + 1, none⟩ = some (.int .i64 x.num) ∧ W.cell? ⟨ga, offa + 2, none⟩ = some (.string x.name) ∧ W.cell? ⟨ga, offa + 3, none⟩ = some (.slice u1 x.args.length u2) ∧ W.cell? ⟨ga, offa + 4, none⟩ = some (.int .i64 y.kind) ∧ W.cell? ⟨ga, offa + 4 + 1, none⟩ = some (.int .i64 y.num) ∧ W.cell? ⟨ga, offa + 4 + 2, none⟩ = some (.string y.name) ∧ W.cell? ⟨ga, offa + 4 + 3, none⟩ = some (.slice v1 y.args.length v2)) := Lib.hid fun W hW => by
          obtain ⟨y0a, y0b, y0c, y0d⟩ := (HX.out.read hW).cells
          obtain ⟨d0, d1, d2, d3⟩ := HPA.out.1 W hW
          obtain ⟨e0, e1, e2, e3⟩ := HPA.out.2.1 W hW
          exact ⟨y0d, d0, d1, d2, d3, e0, e1, e2, e3⟩
        obtain ⟨k0, k1, k2, k3, k4, k5, k6, k7, k8⟩ := HCE.out w0 hself
        have HTR : Hid (∀ a b, Below w0.heap.size w0 a → Below a.heap.size a b → Below w0.heap.size w0 b) := Lib.hid fun a b h1 h2 => belowOn h1 (Nat.le_refl _) h2
        have HC0 : Hid (∀ W, Below w0.heap.size w0 W → Calls Try.prog 38 #[.slice sa s.length sc, .agg #[.int .i64 x.kind, .int .i64 x.num, .string x.name, .slice u1 x.args.length u2]] W fun e w' => ∃ u, e = .returned (.agg #[.int .i64 (putT s x).kind, .int .i64 (putT s x).num, .string (putT s x).name, u]) ∧ ArgsS w' (fun k => S k ∨ (w0.heap.size ≤ k ∧ k < w'.heap.size)) u (putT s x).args ∧ Below W.heap.size W w') := Lib.hid fun W hW =>
          (HI.out x _ _ S W (by have := HNX.out; have := HNE.out; omega) (fun k hk => Nat.lt_of_lt_of_le (HSB.out k hk) (below3 HW.out hW).size) (HLS.out.kept hW) (HPA.out.2.2.1.kept hW) (by have := HNX.out; have := HS.out; omega) HGX.out.1).mono fun e w' h => h.from hW.size
        have HC1 : Hid (∀ W, Below w0.heap.size w0 W → Calls Try.prog 38 #[.slice sa s.length sc, .agg #[.int .i64 y.kind, .int .i64 y.num, .string y.name, .slice v1 y.args.length v2]] W fun e w' => ∃ u, e = .returned (.agg #[.int .i64 (putT s y).kind, .int .i64 (putT s y).num, .string (putT s y).name, u]) ∧ ArgsS w' (fun k => S k ∨ (w0.heap.size ≤ k ∧ k < w'.heap.size)) u (putT s y).args ∧ Below W.heap.size W w') := Lib.hid fun W hW =>
          (HI.out y _ _ S W (by have := HNX.out; have := HNE.out; omega) (fun k hk => Nat.lt_of_lt_of_le (HSB.out k hk) (below3 HW.out hW).size) (HLS.out.kept hW) (HPA.out.2.2.2.kept hW) (by have := HNX.out; have := HS.out; omega) HGX.out.2).mono fun e w' h => h.from hW.size
        have HRB : Hid (∀ W, Below w0.heap.size w0 W → W.heap[w.heap.size + 1]? = some (Obj.cells #[.int .i64 0, .int .i64 0, .string ⟨#[]⟩, .slice none 0 0] 28)) := Lib.hid fun W hW => (HR.out.read hW).now
        have HRL : Hid (w.heap.size ≤ w.heap.size + 1 ∧ w.heap.size + 1 < w0.heap.size) := Lib.hid ⟨by omega, by have := HR.out.le; omega⟩
        have ne1 : ¬ w.heap.size = w.heap.size + 1 := by omega
        have ne2 : ¬ w.heap.size + 1 = w.heap.size := by omega
        have ne3 : ¬ ga = w.heap.size + 1 := by have := HGA.out; omega
        have ne4 : ¬ w.heap.size + 1 = ga := by have := HGA.out; omega
        have hl2 : 1 < t.args.length := by have := HLA.out; omega
        have hl3 : (1 : Int) < (t.args.length : Int) := by omega
        have hl4 : (0 : Int) < (t.args.length : Int) := by omega
        have hl5 : 0 < t.args.length := by omega
        clear HA HX HR HI HPA HLS
        go_upto_region 6 with (fail)
        clear c0a c0b c0c c0d
        go_region_held3 (fun w' => w'.cell? ⟨w.heap.size, 3, none⟩ = some (.slice (some ⟨ga, offa, none⟩) t.args.length ca) ∧ w'.cell? ⟨ga, offa, none⟩ = some (.int .i64 x.kind) ∧ w'.cell? ⟨ga, offa + 1, none⟩ = some (.int .i64 x.num) ∧ w'.cell? ⟨ga, offa + 2, none⟩ = some (.string x.name) ∧ w'.cell? ⟨ga, offa + 3, none⟩ = some (.slice u1 x.args.length u2) ∧ w'.cell? ⟨ga, offa + 4, none⟩ = some (.int .i64 y.kind) ∧ w'.cell? ⟨ga, offa + 4 + 1, none⟩ = some (.int .i64 y.num) ∧ w'.cell? ⟨ga, offa + 4 + 2, none⟩ = some (.string y.name) ∧ w'.cell? ⟨ga, offa + 4 + 3, none⟩ = some (.slice v1 y.args.length v2)) (go_keep)
          (first
            | (go_at_call 38; (with_reducible refine Calls.mono (HC0.out _ ?_) ?_); (assumption); rintro e wB ⟨u0, rfl, hn0, hb0⟩; have hB' := HTR.out _ _ (by assumption) hb0; obtain ⟨k0, k1, k2, k3, k4, k5, k6, k7, k8⟩ := HCE.out _ hB'; obtain ⟨a0, c0, rfl⟩ := hn0.at.slice; have HN0 := Lib.hid hn0; have HL0 := Lib.hid hB'.size; clear hn0)
            | (go_at_call 38; (with_reducible refine Calls.mono (HC1.out _ ?_) ?_); (assumption); rintro e wD ⟨u9, rfl, hn1, hb1⟩; have hD' := HTR.out _ _ (by assumption) hb1; obtain ⟨k0, k1, k2, k3, k4, k5, k6, k7, k8⟩ := HCE.out _ hD'; obtain ⟨a1, c1, rfl⟩ := hn1.at.slice; have HN1 := Lib.hid hn1; have HN2 := Lib.hid (HN0.out.kept hb1); have HL1 := Lib.hid hb1.size; clear hn1)
            | (go_at_call 66; (with_reducible refine Calls.mono (specPair_any _ _ _ _ _ _ _ _ _ _ _ _ _) ?_); rintro e wE ⟨gE, rfl, hg1, hg2, hgh, hbE⟩; have hE' := HTR.out _ _ (by assumption) hbE; obtain ⟨k0, k1, k2, k3, k4, k5, k6, k7, k8⟩ := HCE.out _ hE'; have HM0 := Lib.hid (HN2.out.kept hbE); have HM1 := Lib.hid (HN1.out.kept hbE); have HGH := Lib.hid hgh; have HGE := Lib.hid (And.intro hg1 (And.intro hg2 hbE.size)); have HE := Lib.hid hE'; have HRE := Lib.hid (HRB.out _ hE'); obtain ⟨r0, r1, r2, r3, rf⟩ := box_cells (HRB.out _ hE'); clear hg1 hg2 hgh hbE))
        all_goals (go_wp2_with fail; have HP := Lib.hid (argsS_pair (S := fun k => S k ∨ (w0.heap.size ≤ k ∧ k < _)) HGH.out HGE.out.2.1 (.inr ⟨by (have h1 := HGE.out; have h2 := HL0.out; have h3 := HL1.out; omega), HGE.out.2.1⟩) (HM0.out.sub fun k hk => hk.imp id fun h => ⟨h.1, by (have h1 := HGE.out; have h3 := HL1.out; have h4 := h.2; omega)⟩) (HM1.out.sub fun k hk => hk.imp id fun h => ⟨h.1, by (have h1 := HGE.out; have h4 := h.2; omega)⟩)); exact oldS_end (p := 4) (b := w.heap.size + 1) (W := w0) HQV.out.1 HQV.out.2.1 HQV.out.2.2.1 rfl rfl rfl Try.underlying28 (by kernel_rfl) HRE.out HSB.out HW.out HE.out HRL.out.1 HRL.out.2 (by rw [HQV.out.2.2.2]; exact HP.out))
      · have HQV : Hid (r = t) := Lib.hid (by rw [HQ.out, putT_atom hv hk])
        have HRE := Lib.hid HR.out.now
        obtain ⟨r0, r1, r2, r3, rf⟩ := box_cells HR.out.now
        have z2 := HR.out.le
        have k1 : (t.kind == 1) = false := beq_eq_false_iff_ne.2 hv
        have k4 : (t.kind == 4) = false := beq_eq_false_iff_ne.2 hk
        clear hv hk
        go_wp2
        exact oldS_end (p := 4) (b := w.heap.size + 1) (W := w0) (by rw [HQV.out]) (by rw [HQV.out]) (by rw [HQV.out]) rfl rfl rfl Try.underlying28 (by kernel_rfl) HRE.out HSB.out HW.out (Below.refl _ _) (by omega) (by have := HR.out.le; omega) (by rw [HQV.out]; exact HA.out.sub fun k hk => .inl hk)
end Go.Proofs.Ytnmdnajbafpfiaa

namespace Go.Proofs.Ytnmdnajbafpfiaa
open Go.RowKit
set_option linter.unusedVariables false
set_option linter.unusedSimpArgs false

def inB (n : Int) : Bool := decide (0 ≤ n ∧ n ≤ 100000)
theorem inB_true {n : Int} : inB n = true ↔ 0 ≤ n ∧ n ≤ 100000 := by simp [inB]
set_option maxHeartbeats 400000 in
theorem in_any (n : Int) (w : World) : Calls Try.prog 51 #[.int .i64 n, .int .i64 0, .int .i64 100000] w fun e w' => e = .returned (.bool (inB n)) ∧ w = w' := by
  by_cases h0 : 0 ≤ n
  · by_cases h1 : n ≤ 100000
    · have HI := Lib.hid (inB_true.2 ⟨h0, h1⟩)
      go_enter Try.func51, Try.ntmps51
      go_wp2
      go_ret
      exact ⟨by rw [HI.out]; rfl, rfl⟩
    · have HI : Hid (inB n = false) := Lib.hid (by rw [← Bool.not_eq_true, inB_true]; omega)
      go_enter Try.func51, Try.ntmps51
      go_wp2
      go_ret
      exact ⟨by rw [HI.out]; rfl, rfl⟩
  · have HI : Hid (inB n = false) := Lib.hid (by rw [← Bool.not_eq_true, inB_true]; omega)
    go_enter Try.func51, Try.ntmps51
    go_wp2
    go_ret
    exact ⟨by rw [HI.out]; rfl, rfl⟩

/-- Right as far as k. -/
def VP (s : List Bd) (k : Nat) : Prop := (∀ (i : Nat) (x : Bd), i < k → s[i]? = some x → inB x.v = true ∧ okB x.t = true) ∧ ∀ (i : Nat) (x y : Bd), i + 1 < k → s[i]? = some x → s[i + 1]? = some y → x.v < y.v
theorem vp_end {s : List Bd} (h : VP s s.length) : valuesB s = decide ((s.length : Int) ≤ 400) := by
  by_cases hl : s.length ≤ 400
  · rw [decide_eq_true (by omega), valuesB_true]
    refine ⟨fun k x hx => ?_, fun k x y hx hy => h.2 k x y (List.getElem?_eq_some_iff.1 hy).1 hx hy, hl⟩
    have := h.1 k x (List.getElem?_eq_some_iff.1 hx).1 hx
    exact ⟨inB_true.1 this.1, okB_true.1 this.2⟩
  · rw [decide_eq_false (by omega), valuesB_false]
    exact fun hv => hl hv.2.2
theorem vp_bad {s : List Bd} {k : Nat} {x : Bd} (hx : s[k]? = some x) (h : inB x.v = false ∨ okB x.t = false) : valuesB s = false := by
  rw [valuesB_false]
  intro hv
  have := hv.1 k x hx
  rcases h with h | h
  · rw [inB_true.2 this.1] at h; cases h
  · rw [okB_true.2 this.2] at h; cases h
theorem vp_desc {s : List Bd} {j : Nat} {x y : Bd} (hx : s[j]? = some x) (hy : s[j + 1]? = some y) (h : ¬ x.v < y.v) : valuesB s = false := by
  rw [valuesB_false]
  exact fun hv => h (hv.2.1 j x y hx hy)
theorem vp_next {s : List Bd} {k : Nat} {x : Bd} (h : VP s k) (hx : s[k]? = some x) (hi : inB x.v = true) (ho : okB x.t = true) (hd : ∀ (j : Nat) (y : Bd), k = j + 1 → s[j]? = some y → y.v < x.v) : VP s (k + 1) := by
  refine ⟨fun i y hi' hy => ?_, fun i y z hi' hy hz => ?_⟩
  · by_cases e : i = k
    · subst e
      cases hy.symm.trans hx
      exact ⟨hi, ho⟩
    · exact h.1 i y (by omega) hy
  · by_cases e : i + 1 = k
    · have hz' : s[k]? = some z := by rw [← e]; exact hz
      cases hz'.symm.trans hx
      exact hd i y e.symm hy
    · exact h.2 i y z (by omega) hy hz

end Go.Proofs.Ytnmdnajbafpfiaa

namespace Go.Proofs.Ytnmdnajbafpfiaa
open Go.RowKit
set_option linter.unusedVariables false
set_option linter.unusedSimpArgs false

/-- One binding against the list. -/
def FreeP (s : List Bd) (b : Bd) : Prop := ¬ (b.t.kind = 1 ∧ b.v ≤ b.t.num) ∧ ∀ v ∈ b.t.vl, getO s v = none
theorem subst_of {s : List Bd} (hv : valuesB s = true) (h : ∀ (i : Nat) (b : Bd), i < s.length → s[i]? = some b → FreeP s b) : substB s = true := by
  rw [substB_true]
  refine ⟨valuesB_true.1 hv, fun b hb => ?_⟩
  obtain ⟨i, hi⟩ := List.getElem?_of_mem hb
  exact h i b (List.getElem?_eq_some_iff.1 hi).1 hi
theorem subst_not {s : List Bd} {i : Nat} {b : Bd} (hb : s[i]? = some b) (h : ¬ FreeP s b) : substB s = false := by
  rw [substB_false]
  exact fun hs => h (hs.2 b (List.mem_of_getElem? hb))
theorem subst_values {s : List Bd} (h : valuesB s = false) : substB s = false := by
  rw [substB_false]
  exact fun hs => valuesB_false.1 h hs.1
def allVars (t : Tm) : List Int := t.vl.foldl insAsc []
theorem allVars_mem {t : Tm} {v : Int} : v ∈ allVars t ↔ v ∈ t.vl := by
  have := (insL_spec t.vl [] List.Pairwise.nil).2 v
  rw [allVars, this]; simp
theorem allVars_len (t : Tm) : (allVars t).length ≤ t.nodes := by
  have h1 := insL_len t.vl []
  have h2 := vl_len t
  simp at h1
  unfold allVars
  omega

end Go.Proofs.Ytnmdnajbafpfiaa

namespace Go.Proofs.Ytnmdnajbafpfiaa
open Go.RowKit
set_option linter.unusedVariables false
set_option linter.unusedSimpArgs false

theorem putT_good {s : List Bd} (hs : ∀ b ∈ s, Good b.t) : ∀ (n : Nat) (t : Tm), t.nodes ≤ n → Good t → Good (putT s t)
  | 0, t, h, _ => by have := nodes_pos t; omega
  | n + 1, t, h, hg => by
    by_cases h1 : t.kind = 1
    · rw [putT_var h1]
      split
      · rename_i x hx
        obtain ⟨b, hb, _, rfl⟩ := getO_some hx
        exact hs b hb
      · exact hg
    · by_cases h4 : t.kind = 4
      · obtain ⟨x, y, hxy⟩ := hg.fit.pair h4
        have hn := nodes_args2 hxy
        have h2 := (good_two hg.fit hxy).1 hg
        rw [putT_two h4 hxy]
        exact .pair _ _ (putT_good hs n x (by omega) h2.1) (putT_good hs n y (by omega) h2.2)
      · rw [putT_atom h1 h4]; exact hg
theorem putT_nodes {s : List Bd} {M : Nat} (hM : 1 ≤ M) (hs : ∀ b ∈ s, b.t.nodes ≤ M) : ∀ (n : Nat) (t : Tm), t.nodes ≤ n → Good t → (putT s t).nodes ≤ M * t.nodes
  | 0, t, h, _ => by have := nodes_pos t; omega
  | n + 1, t, h, hg => by
    have hp := nodes_pos t
    by_cases h1 : t.kind = 1
    · rw [putT_var h1]
      split
      · rename_i x hx
        obtain ⟨b, hb, _, rfl⟩ := getO_some hx
        exact Nat.le_trans (hs b hb) (Nat.le_mul_of_pos_right _ hp)
      · exact Nat.le_mul_of_pos_left _ hM
    · by_cases h4 : t.kind = 4
      · obtain ⟨x, y, hxy⟩ := hg.fit.pair h4
        have hn := nodes_args2 hxy
        have h2 := (good_two hg.fit hxy).1 hg
        have e : (Tm.mk 4 0 ⟨#[]⟩ [putT s x, putT s y]).nodes = 1 + (putT s x).nodes + (putT s y).nodes := nodes_args2 rfl
        have a := putT_nodes hM hs n x (by omega) h2.1
        have b := putT_nodes hM hs n y (by omega) h2.2
        rw [putT_two h4 hxy, e, hn, Nat.mul_add, Nat.mul_add]
        omega
      · rw [putT_atom h1 h4]; exact Nat.le_mul_of_pos_left _ hM
theorem SubstP.good {s : List Bd} (h : SubstP s) : ∀ b ∈ s, Good b.t := fun b hb => by
  obtain ⟨i, hi⟩ := List.getElem?_of_mem hb
  exact (h.1.1 i b hi).2.2
theorem SubstP.nodes {s : List Bd} (h : SubstP s) : ∀ b ∈ s, b.t.nodes ≤ 5000 := fun b hb => by
  obtain ⟨i, hi⟩ := List.getElem?_of_mem hb
  exact (h.1.1 i b hi).2.1
theorem putT_fineV {s : List Bd} {t : Tm} (hs : ∀ b ∈ s, Ok b.t) (ht : Ok t) : Good (putT s t) ∧ (putT s t).nodes ≤ 25000000 ∧ (putT s t).sz ≤ 1099511627776 := by
  have h1 := putT_good (fun b hb => (hs b hb).2) t.nodes t (Nat.le_refl _) ht.2
  have h2 := putT_nodes (by decide) (fun b hb => (hs b hb).1) t.nodes t (Nat.le_refl _) ht.2
  have h3 : 5000 * t.nodes ≤ 5000 * 5000 := Nat.mul_le_mul_left _ ht.1
  have h4 := good_sz h1
  exact ⟨h1, by omega, by omega⟩
theorem putT_fine {s : List Bd} {t : Tm} (hs : SubstP s) (ht : Ok t) : Good (putT s t) ∧ (putT s t).nodes ≤ 25000000 ∧ (putT s t).sz ≤ 1099511627776 :=
  putT_fineV (fun b hb => ⟨hs.nodes b hb, hs.good b hb⟩) ht

/-- A term, shared with what was there, and whether. -/
def OldS2 (S : Nat → Prop) (t : Tm) (b : Bool) (w : World) (e : Ending) (w' : World) : Prop :=
  ∃ u, e = .returned (.tuple #[.agg #[.int .i64 t.kind, .int .i64 t.num, .string t.name, u], .bool b]) ∧ ArgsS w' (fun k => S k ∨ (w.heap.size ≤ k ∧ k < w'.heap.size)) u t.args ∧ Below w.heap.size w w'
/-- The return of a struct of four cells that lies in the result's variable, and of a second result. -/
theorem bodyPost_row2 {P : Program} {fn : Func} {R : Ending → World → Prop} {a : Act} {w : World} {p q : Tmp} {ty e : TypeId} {b : Nat} {y0 y1 y2 y3 z : Value} {d : TypeDesc} (h : fn.results = #[.cell p ty, .tmp q]) (hp : a.tmps.getD p undef = .pointer (some ⟨b, 0, none⟩)) (hq : a.tmps.getD q undef = z) (hd : a.defers = [])
    (hu : P.underlying ty = some d) (hdd : (match d with | .struct _ | .array _ _ => true | _ => false) = true) (hi : (P.info? ty).map (·.size) = some 4) (hb : w.heap[b]? = some (Obj.cells #[y0, y1, y2, y3] e))
    (hR : R (.returned (.tuple #[.agg #[y0, y1, y2, y3], z])) w) : bodyPost P fn R .ret a w := by
  subst hq
  exact bodyPost_ret (results_cell_row2 h _ _ b e #[y0, y1, y2, y3] (0, 0) d hp hb hu hdd hi) hd hR
theorem only_store4 {w W : World} {b : Nat} (h : Only (fun k => k = b) w W) (y0 y1 y2 y3 : Value) : Only (fun k => k = b) w ((((W.setCell ⟨b, 0, none⟩ y0).setCell ⟨b, 1, none⟩ y1).setCell ⟨b, 2, none⟩ y2).setCell ⟨b, 3, none⟩ y3) := by
  have one : ∀ (W : World) (j : Nat) (u : Value), Only (fun k => k = b) W (W.setCell ⟨b, j, none⟩ u) := fun W j u => ⟨rfl, rfl, rfl, by simp, fun k _ hk => Below.heap_setCell _ _ _ _ hk⟩
  exact (((h.trans (one _ _ _)).trans (one _ _ _)).trans (one _ _ _)).trans (one _ _ _)
theorem fits_dec {n : Nat} : decide (n ≤ 5000) = true ∨ decide (n ≤ 5000) = false := by cases decide (n ≤ 5000) <;> simp

end Go.Proofs.Ytnmdnajbafpfiaa

namespace Go.Proofs.Ytnmdnajbafpfiaa
open Go.RowKit
set_option linter.unusedVariables false
set_option linter.unusedSimpArgs false

theorem ListS.lowB {w : World} {S : Nat → Prop} {V : Value} {s : List Bd} (h : ListS bdE w S V s) : ListS bdE w (fun k => k < w.heap.size) V s := by
  cases h with
  | nil a cap => exact .nil a cap
  | row g off n cap L l' hl hn hS hg hc hr => exact .row g off n cap L _ hl hn hg hg hc fun j p hj => (show ArgsS w S p.2 p.1.t.args from hr j p hj).low.sub fun k hk => hk.2

end Go.Proofs.Ytnmdnajbafpfiaa

namespace Go.Proofs.Ytnmdnajbafpfiaa
open Go.RowKit
set_option linter.unusedVariables false
set_option linter.unusedSimpArgs false

/-- The answer is a list that can be read. -/
def OldB (l : List Bd) (w : World) (e : Ending) (w' : World) : Prop := ∃ v, e = .returned v ∧ ListS bdE w' Any v l ∧ Below w.heap.size w w'
theorem rowK_start {α : Type} {E : El α} {e : TypeId} {w : World} : RowK E e (w.alloc (.cells #[] e)) w.heap.size (.slice (some ⟨w.heap.size, 0, none⟩) 0 0) [] :=
  ⟨[], rfl, ⟨by simp [cellsE], .inr ⟨w.heap.size, 0, #[], rfl, Nat.le_refl _, heap_new w _, Nat.le_refl _, Nat.zero_le _, by simp, by simp [cellsE]⟩⟩, fun j p hj => by simp at hj⟩
theorem rowK_block {α : Type} {E : El α} {e : TypeId} {w : World} {lo : Nat} {v : Value} {xs : List α} (h : RowK E e w lo v xs) : ∀ k, v.ownBlock = some k → lo ≤ k ∧ k < w.heap.size := by
  obtain ⟨L, _, hrow, _⟩ := h
  exact fun k hk => World.ownsRow.lt hrow k hk

/-- The bindings of some variables. -/
def keep (s : List Bd) (vs : List Int) : List Bd := s.filter fun b => decide (b.v ∈ vs)
open Classical in
noncomputable def rsB (s : List Bd) (vs : List Int) : List Bd := if SubstP s then keep s vs else []
open Classical in
theorem rs_yes {s : List Bd} {vs : List Int} (h : SubstP s) : rsB s vs = keep s vs := by rw [rsB, if_pos h]
open Classical in
theorem rs_no {s : List Bd} {vs : List Int} (h : ¬ SubstP s) : rsB s vs = [] := by rw [rsB, if_neg h]
theorem keep_each {s : List Bd} {vs : List Int} (h : EachB s) : EachB (keep s vs) := ⟨Nat.le_trans (List.length_filter_le _ _) h.1, fun b hb => h.2 b (List.mem_filter.1 hb).1⟩
theorem keep_yes {s : List Bd} {vs : List Int} {k : Nat} {x : Bd} (hx : s[k]? = some x) (h : decide (x.v ∈ vs) = true) : keep (s.take (k + 1)) vs = keep (s.take k) vs ++ [x] := by
  rw [keep, takeE hx, List.filter_append]
  simp only [keep, List.filter_cons, h, List.filter_nil, if_true]
theorem keep_not {s : List Bd} {vs : List Int} {k : Nat} {x : Bd} (hx : s[k]? = some x) (h : decide (x.v ∈ vs) = false) : keep (s.take (k + 1)) vs = keep (s.take k) vs := by
  rw [keep, takeE hx, List.filter_append]
  simp [keep, List.filter_cons, h]
theorem keep_len (s : List Bd) (vs : List Int) (k : Nat) : (keep (s.take k) vs).length ≤ s.length := Nat.le_trans (List.length_filter_le _ _) (by rw [List.length_take]; omega)

end Go.Proofs.Ytnmdnajbafpfiaa

