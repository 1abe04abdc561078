/-
  Substitutions, plain: what is bound, when a list of bindings is a substitution, what a substitution makes of a term.
  The model's l04Get.
  The model's l04Put: all variables replaced at once, what they are replaced by shared.
  The model's l04Values. (Written by wip/tools/gen_values.py.)
  The model's SubstOk.
  The model's l04Apply, Lookup, ApplySubst.
  The model's Lookup, ApplySubst.
  The model's l04Copy, l02Has, RestrictSubst.
-/
import Derived.Test.YtnmdnajbafpfiaaGreatRows3
import Derived.Test.YtnmdnajbafpfiaaGreatVarsP
import Derived.Test.YtnmdnajbafpfiaaGreatPuts
import Derived.Deep.RegionHeld3
import Derived.Deep.Cut
import Derived.IntWalk
import Derived.Test.YtnmdnajbafpfiaaGreatItems
import Derived.Deep.RegionLaw
namespace Go.Proofs.YtnmdnajbafpfiaaGreat
open Go.RowKit
set_option linter.unusedVariables false
set_option linter.unusedSimpArgs false

def getO : List Bd → Int → Option Tm
  | [], _ => none
  | b :: l, v => if b.v = v then some b.t else getO l v
theorem getO_some : ∀ {s : List Bd} {v : Int} {t : Tm}, getO s v = some t → ∃ b ∈ s, b.v = v ∧ b.t = t
  | [], _, _, h => by cases h
  | b :: s, v, t, h => by
    rw [getO] at h
    split at h
    · rename_i e
      cases h
      exact ⟨b, by simp, e, rfl⟩
    · obtain ⟨c, hc, h1⟩ := getO_some h
      exact ⟨c, by simp [hc], h1⟩
theorem getO_none : ∀ {s : List Bd} {v : Int}, getO s v = none ↔ ∀ b ∈ s, b.v ≠ v
  | [], v => by simp [getO]
  | b :: s, v => by
    rw [getO]
    by_cases h : b.v = v
    · rw [if_pos h]; simp [h]
    · rw [if_neg h, getO_none]; simp [h]
theorem getO_at {s : List Bd} {v : Int} : ∀ {k : Nat} {x : Bd}, s[k]? = some x → x.v = v → (∀ i y, i < k → s[i]? = some y → y.v ≠ v) → getO s v = some x.t := by
  induction s with
  | nil => intro k x hx; simp at hx
  | cons b s ih =>
    intro k x hx hv hn
    rw [getO]
    cases k with
    | zero => simp at hx; subst hx; rw [if_pos hv]
    | succ k =>
      rw [if_neg (hn 0 b (by omega) rfl)]
      exact ih (k := k) (by simpa using hx) hv fun i y hi hy => hn (i + 1) y (by omega) (by simpa using hy)
theorem getO_out {s : List Bd} {v : Int} (h : ∀ i y, i < s.length → s[i]? = some y → y.v ≠ v) : getO s v = none := by
  rw [getO_none]
  intro b hb
  obtain ⟨i, hi⟩ := List.getElem?_of_mem hb
  exact h i b (List.getElem?_eq_some_iff.1 hi).1 hi
def orZero (o : Option Tm) : Tm := o.getD zeroTm
def getT (s : List Bd) (v : Int) : Tm := orZero (getO s v)
def getB (s : List Bd) (v : Int) : Bool := (getO s v).isSome
theorem get_yes {s : List Bd} {v : Int} {t : Tm} (h : getO s v = some t) : getT s v = t ∧ getB s v = true := by rw [getT, getB, h]; exact ⟨rfl, rfl⟩
theorem get_no {s : List Bd} {v : Int} (h : getO s v = none) : getT s v = zeroTm ∧ getB s v = false := by rw [getT, getB, h]; exact ⟨rfl, rfl⟩
theorem getB_none {s : List Bd} {v : Int} : getB s v = false ↔ getO s v = none := by
  unfold getB
  cases getO s v <;> simp

/-- Variables in order and in range, valid terms, not too many. -/
def ValuesP (s : List Bd) : Prop :=
  (∀ (k : Nat) (x : Bd), s[k]? = some x → (0 ≤ x.v ∧ x.v ≤ 100000) ∧ Ok x.t) ∧ (∀ (k : Nat) (x y : Bd), s[k]? = some x → s[k + 1]? = some y → x.v < y.v) ∧ s.length ≤ 400
def SubstP (s : List Bd) : Prop := ValuesP s ∧ ∀ b ∈ s, ¬ (b.t.kind = 1 ∧ b.v ≤ b.t.num) ∧ ∀ v ∈ b.t.vl, getO s v = none
open Classical in
noncomputable def valuesB (s : List Bd) : Bool := decide (ValuesP s)
open Classical in
noncomputable def substB (s : List Bd) : Bool := decide (SubstP s)
theorem valuesB_true {s : List Bd} : valuesB s = true ↔ ValuesP s := by simp [valuesB]
theorem valuesB_false {s : List Bd} : valuesB s = false ↔ ¬ ValuesP s := by simp [valuesB]
theorem substB_true {s : List Bd} : substB s = true ↔ SubstP s := by simp [substB]
theorem substB_false {s : List Bd} : substB s = false ↔ ¬ SubstP s := by simp [substB]
theorem substP_nil : SubstP [] := ⟨⟨fun k x h => by simp at h, fun k x y h => by simp at h, by simp⟩, fun b hb => by simp at hb⟩

/-- All variables replaced at once. -/
def putN (s : List Bd) : Nat → Tm → Tm
  | 0, t => t
  | n + 1, t => if t.kind = 1 then (match getO s t.num with | some x => x | none => t) else if t.kind = 4 then .mk 4 0 ⟨#[]⟩ (t.args.map (putN s n)) else t
def putT (s : List Bd) (t : Tm) : Tm := putN s t.nodes t
theorem putN_stable (s : List Bd) : ∀ (n m : Nat) (t : Tm), t.nodes ≤ n → t.nodes ≤ m → putN s n t = putN s m t
  | 0, m, t, h, _ => by have := nodes_pos t; omega
  | n + 1, 0, t, _, h => by have := nodes_pos t; omega
  | n + 1, m + 1, t, h1, h2 => by
    rw [putN, putN]
    split
    · rfl
    · split
      · congr 1
        apply List.map_congr_left
        intro x hx
        obtain ⟨j, hj⟩ := List.getElem?_of_mem hx
        have := nodes_at hj
        rw [nodes_eq] at h1 h2
        exact putN_stable s n m x (by omega) (by omega)
      · rfl
theorem putT_var {s : List Bd} {t : Tm} (h : t.kind = 1) : putT s t = (match getO s t.num with | some x => x | none => t) := by
  obtain ⟨n, hn⟩ : ∃ n, t.nodes = n + 1 := ⟨t.nodes - 1, by have := nodes_pos t; omega⟩
  rw [putT, hn, putN, if_pos h]
theorem putT_pair {s : List Bd} {t : Tm} (h : t.kind = 4) : putT s t = .mk 4 0 ⟨#[]⟩ (t.args.map (putT s)) := by
  obtain ⟨n, hn⟩ : ∃ n, t.nodes = n + 1 := ⟨t.nodes - 1, by have := nodes_pos t; omega⟩
  rw [putT, hn, putN, if_neg (by omega), if_pos h]
  congr 1
  apply List.map_congr_left
  intro x hx
  obtain ⟨j, hj⟩ := List.getElem?_of_mem hx
  have := nodes_at hj
  rw [nodes_eq] at hn
  exact putN_stable s n x.nodes x (by omega) (Nat.le_refl _)
theorem putT_two {s : List Bd} {t x y : Tm} (h : t.kind = 4) (hl : t.args = [x, y]) : putT s t = .mk 4 0 ⟨#[]⟩ [putT s x, putT s y] := by rw [putT_pair h, hl]; rfl
theorem putT_atom {s : List Bd} {t : Tm} (h1 : ¬ t.kind = 1) (h4 : ¬ t.kind = 4) : putT s t = t := by
  obtain ⟨n, hn⟩ : ∃ n, t.nodes = n + 1 := ⟨t.nodes - 1, by have := nodes_pos t; omega⟩
  rw [putT, hn, putN, if_neg h1, if_neg h4]

/-! What a substitution makes of a term, and whether. -/
open Classical in
noncomputable def apB (s : List Bd) (t : Tm) : Bool := decide (SubstP s ∧ Ok t ∧ (putT s t).nodes ≤ 5000)
open Classical in
noncomputable def apT (s : List Bd) (t : Tm) : Tm := if SubstP s ∧ Ok t ∧ (putT s t).nodes ≤ 5000 then putT s t else zeroTm
open Classical in
theorem ap_yes {s : List Bd} {t : Tm} (h : SubstP s ∧ Ok t ∧ (putT s t).nodes ≤ 5000) : apT s t = putT s t ∧ apB s t = true := ⟨by rw [apT, if_pos h], by rw [apB, decide_eq_true h]⟩
open Classical in
theorem ap_no {s : List Bd} {t : Tm} (h : ¬ (SubstP s ∧ Ok t ∧ (putT s t).nodes ≤ 5000)) : apT s t = zeroTm ∧ apB s t = false := ⟨by rw [apT, if_neg h], by rw [apB, decide_eq_false h]⟩
/-! The To of a variable, where the list is a substitution. -/
open Classical in
noncomputable def luB (s : List Bd) (v : Int) : Bool := decide (getB s v = true ∧ SubstP s)
open Classical in
noncomputable def luT (s : List Bd) (v : Int) : Tm := if getB s v = true ∧ SubstP s then getT s v else zeroTm
open Classical in
theorem lu_yes {s : List Bd} {v : Int} (h : getB s v = true ∧ SubstP s) : luT s v = getT s v ∧ luB s v = true := ⟨by rw [luT, if_pos h], by rw [luB, decide_eq_true h]⟩
open Classical in
theorem lu_no {s : List Bd} {v : Int} (h : ¬ (getB s v = true ∧ SubstP s)) : luT s v = zeroTm ∧ luB s v = false := ⟨by rw [luT, if_neg h], by rw [luB, decide_eq_false h]⟩
theorem getT_sz {s : List Bd} (v : Int) (h : szB s ≤ 1048576) : (getT s v).sz ≤ 1048576 := by
  cases hg : getO s v with
  | none => rw [(get_no hg).1, zeroTm, Tm.sz, szL]; exact Nat.zero_le _
  | some t =>
    obtain ⟨b, hb, _, rfl⟩ := getO_some hg
    obtain ⟨j, hj⟩ := List.getElem?_of_mem hb
    rw [(get_yes hg).1]
    have := szB_at hj
    omega
theorem lu_sz {s : List Bd} (v : Int) (h : szB s ≤ 1048576) : (luT s v).sz ≤ 1048576 := by
  unfold luT
  split
  · exact getT_sz v h
  · rw [zeroTm, Tm.sz, szL]; exact Nat.zero_le _
end Go.Proofs.YtnmdnajbafpfiaaGreat

namespace Go.Proofs.YtnmdnajbafpfiaaGreat
open Go.RowKit
set_option linter.unusedVariables false
set_option linter.unusedSimpArgs false

theorem ArgsS.low {w : World} {S : Nat → Prop} {v : Value} {l : List Tm} (h : ArgsS w S v l) : ArgsS w (fun k => S k ∧ k < w.heap.size) v l := by
  induction h with
  | nil a cap => exact .nil a cap
  | row g off n cap V l hn hS hg hc hr ih => exact .row g off n cap V l hn ⟨hS, hg⟩ hg hc ih
/-- A term that lies where the list lies, and whether. -/
def Held2 (t : Tm) (b : Bool) (S : Nat → Prop) (w : World) (e : Ending) (w' : World) : Prop :=
  ∃ u, e = .returned (.tuple #[.agg #[.int .i64 t.kind, .int .i64 t.num, .string t.name, u], .bool b]) ∧ ArgsS w' S u t.args ∧ Below w.heap.size w w'

set_option maxRecDepth 100000 in
set_option maxHeartbeats 2000000 in
theorem specGet_any (s : List Bd) (V : Value) (v : Int) (S : Nat → Prop) (w : World) (hA : ListS bdE w S V s) (hL : s.length ≤ 1048576) :
    Calls Tryz.prog 69 #[V, .int .i64 v] w (Held2 (getT s v) (getB s v) S w) := by
  obtain ⟨a, cap, rfl⟩ := hA.slice
  have hal : Below w.heap.size w (w.alloc (.cells #[.int .i64 0, .int .i64 0, .string ⟨#[]⟩, .slice none 0 0] 38)) := belowAlloc (Below.refl _ _) _
  have HR := Lib.hid (at_box w #[.int .i64 0, .int .i64 0, .string ⟨#[]⟩, .slice none 0 0] 38)
  have HW := Lib.hid hal
  have HA := Lib.hid hA
  have HAT := Lib.hid (fun (k : Nat) (x : Bd) (h1 : s[k]? = some x) (h2 : x.v = v) (h3 : ∀ i y, i < k → s[i]? = some y → y.v ≠ v) => get_yes (getO_at h1 h2 h3))
  have HNO := Lib.hid (fun (h : ∀ i y, i < s.length → s[i]? = some y → y.v ≠ v) => get_no (getO_out h))
  have END : ∀ (y : Tm) (bb : Bool) (ya : Option Addr) (yc : Nat) (w1 w' : World), Below w.heap.size w w1 → Only (fun k => k = w.heap.size) w1 w' → ArgsS w1 (fun k => S k ∧ k < w.heap.size) (.slice ya y.args.length yc) y.args → Held2 y bb S w (.returned (.tuple #[.agg #[.int .i64 y.kind, .int .i64 y.num, .string y.name, .slice ya y.args.length yc], .bool bb])) w' := fun y bb ya yc w1 w' h1 ho ha =>
    ⟨_, rfl, (ha.frame ho.size fun k hk hks => ho.block k hks fun e => by have := hk.2; omega).sub fun k hk => hk.1, h1.trans (ho.below (fun k hk => by omega) h1.size)⟩
  have HEND := Lib.hid END
  generalize getT s v = rt at HAT HNO ⊢
  generalize getB s v = rb at HAT HNO ⊢
  clear hal hA END
  go_enter Tryz.func69, Tryz.ntmps69
  go_upto_region 1 with (fail)
  generalize hw0 : w.alloc (.cells #[.int .i64 0, .int .i64 0, .string ⟨#[]⟩, .slice none 0 0] 38) = w0 at HR HW ⊢
  clear hw0
  go_wp2
  go_loopw [10] (fun iv wr => ∃ k : Nat, k ≤ s.length ∧ iv = .int .i64 k ∧ Hid (∀ i y, i < k → s[i]? = some y → y.v ≠ v) ∧ Hid (At wr w.heap.size (w.heap.size + 1) (BoxP w.heap.size #[.int .i64 0, .int .i64 0, .string ⟨#[]⟩, .slice none 0 0] 38)) ∧ Hid (Below w.heap.size w wr)) (fun iv _ => s.length - (intOf iv).toNat)
  case atStart => exact ⟨0, Nat.zero_le _, rfl, Lib.hid (fun i y hi => absurd hi (Nat.not_lt_zero _)), HR, HW⟩
  case round =>
    obtain ⟨k, hk, rfl, HN, HB, HWr⟩ := hrel
    clear HR HW
    by_cases hlt : k < s.length
    · have hltI : (k : Int) < (s.length : Int) := by omega
      obtain ⟨x, hx⟩ : ∃ x, s[k]? = some x := ⟨_, List.getElem?_eq_getElem hlt⟩
      obtain ⟨g, off, u1, u2, rfl, hg, hq, hc, hu⟩ := HA.out.bd hx
      obtain ⟨d0, d1, d2, d3, d4⟩ := hc wr HWr.out
      have HX := Lib.hid hx
      have HU := Lib.hid (hu.low.kept HWr.out)
      clear hx hq hc hu
      go_upto_region 4 with (fail)
      have hal : Below wr.heap.size wr (wr.alloc (.cells #[.int .i64 x.v, .int .i64 x.t.kind, .int .i64 x.t.num, .string x.t.name, .slice u1 x.t.args.length u2] 69)) := belowAlloc (Below.refl _ _) _
      have h5 := heap_new wr (.cells #[.int .i64 x.v, .int .i64 x.t.kind, .int .i64 x.t.num, .string x.t.name, .slice u1 x.t.args.length u2] 69)
      have HB1 := Lib.hid (HB.out.read hal)
      have HW1 := Lib.hid (belowOn HWr.out (Nat.le_refl _) hal)
      have HU1 := Lib.hid (HU.out.kept hal)
      clear hal d0 d1 d2 d3 d4 HB HWr HU
      generalize hw1 : wr.alloc (.cells #[.int .i64 x.v, .int .i64 x.t.kind, .int .i64 x.t.num, .string x.t.name, .slice u1 x.t.args.length u2] 69) = w1 at h5 HB1 HW1 HU1 ⊢
      clear hw1
      obtain ⟨e0, e1, e2, e3, e4, ef⟩ := box_cells5 h5
      obtain ⟨r0, r1, r2, r3, rf⟩ := box_cells HB1.out.now
      clear h5
      by_cases hv : x.v = v
      · obtain ⟨rfl, rfl⟩ := HAT.out k x HX.out hv HN.out
        have dv : (x.v == v) = true := by rw [hv]; exact beq_self_eq_true _
        clear hv
        go_wp2
        refine bodyPost_four2 (p := 4) (q := 5) (b := w.heap.size) (z := .bool true) rfl rfl rfl rfl Tryz.underlying38 rfl (by kernel_rfl) HB1.out.now fun w' hw => ?_
        exact HEND.out x.t true u1 u2 w1 w' HW1.out hw HU1.out
      · have dv : (x.v == v) = false := beq_eq_false_iff_ne.2 hv
        have HV := Lib.hid hv
        clear hv
        go_wp2
        go_roundw
        case rel =>
          refine ⟨k + 1, by omega, by go_num, Lib.hid fun i y hi hy => ?_, HB1, HW1⟩
          by_cases e : i = k
          · subst e
            have := hy.symm.trans HX.out
            cases this
            exact HV.out
          · exact HN.out i y (by omega) hy
        case measure => simp [intOf]; omega
    · obtain rfl : k = s.length := by omega
      obtain ⟨rfl, rfl⟩ := HNO.out HN.out
      obtain ⟨r0, r1, r2, r3, rf⟩ := box_cells HB.out.now
      go_wp2
      refine bodyPost_four2 (p := 4) (q := 5) (b := w.heap.size) (z := .bool false) rfl rfl rfl rfl Tryz.underlying38 rfl (by kernel_rfl) HB.out.now fun w' hw => ?_
      exact HEND.out zeroTm false none 0 wr w' HWr.out hw (.nil _ _)
end Go.Proofs.YtnmdnajbafpfiaaGreat

namespace Go.Proofs.YtnmdnajbafpfiaaGreat
open Go.RowKit
set_option linter.unusedVariables false
set_option linter.unusedSimpArgs false

set_option maxRecDepth 100000 in
set_option maxHeartbeats 4000000 in
theorem specPut4_any (s : List Bd) (hL : s.length ≤ 1048576) (N : Nat) : ∀ (t : Tm) (Vs V : Value) (S : Nat → Prop) (w : World), t.nodes < N → (∀ k, S k → k < w.heap.size) → ListS bdE w S Vs s → ArgsS w S V t.args → t.sz ≤ 1048576 → Good t →
    Calls Tryz.prog 86 #[Vs, .agg #[.int .i64 t.kind, .int .i64 t.num, .string t.name, V]] w (OldS S (putT s t) w) := by
  induction N with
  | zero => intro t Vs V S w hN; omega
  | succ N ih =>
    intro t Vs V S w hN hSB hLS hA hZ hG
    obtain ⟨aa, ca, rfl⟩ := hA.at.slice
    obtain ⟨sa, sc, rfl⟩ := hLS.slice
    obtain ⟨r, hr⟩ : ∃ r, r = putT s t := ⟨_, rfl⟩
    rw [← hr]
    have HQ := Lib.hid hr
    have HI := Lib.hid ih
    have HG := Lib.hid hG
    have HS := Lib.hid (sz_eq t)
    have HNE := Lib.hid (nodes_eq t)
    have HSB := Lib.hid hSB
    have HA := Lib.hid hA
    have HLS := Lib.hid hLS
    have HW : Hid (Below w.heap.size w w) := Lib.hid (Below.refl _ _)
    clear hA ih hG hr hSB hLS
    have hal : Below w.heap.size w (w.alloc (.cells #[.int .i64 t.kind, .int .i64 t.num, .string t.name, .slice aa t.args.length ca] 38)) := (Below.refl _ _).alloc (Nat.le_refl _) _
    replace HA := Lib.hid (HA.out.kept hal)
    replace HLS := Lib.hid (HLS.out.kept hal)
    replace HW := Lib.hid (belowOn HW.out (Nat.le_refl _) hal)
    have HX := Lib.hid (at_box_of w #[.int .i64 t.kind, .int .i64 t.num, .string t.name, .slice aa t.args.length ca] 38 (w.heap.size) (by simp))
    clear hal
    have hal : Below (w.alloc (.cells #[.int .i64 t.kind, .int .i64 t.num, .string t.name, .slice aa t.args.length ca] 38)).heap.size (w.alloc (.cells #[.int .i64 t.kind, .int .i64 t.num, .string t.name, .slice aa t.args.length ca] 38)) ((w.alloc (.cells #[.int .i64 t.kind, .int .i64 t.num, .string t.name, .slice aa t.args.length ca] 38)).alloc (.cells #[.int .i64 0, .int .i64 0, .string ⟨#[]⟩, .slice none 0 0] 38)) := (Below.refl _ _).alloc (Nat.le_refl _) _
    replace HA := Lib.hid (HA.out.kept hal)
    replace HLS := Lib.hid (HLS.out.kept hal)
    replace HX := Lib.hid (HX.out.read hal)
    replace HW := Lib.hid (belowOn HW.out (Nat.le_refl _) hal)
    have HR := Lib.hid (at_box_of (w.alloc (.cells #[.int .i64 t.kind, .int .i64 t.num, .string t.name, .slice aa t.args.length ca] 38)) #[.int .i64 0, .int .i64 0, .string ⟨#[]⟩, .slice none 0 0] 38 (w.heap.size + 1) (by simp))
    clear hal
    go_enter Tryz.func86, Tryz.ntmps86
    go_upto_region 1 with (fail)
    generalize hw0 : (w.alloc (.cells #[.int .i64 t.kind, .int .i64 t.num, .string t.name, .slice aa t.args.length ca] 38)).alloc (.cells #[.int .i64 0, .int .i64 0, .string ⟨#[]⟩, .slice none 0 0] 38) = w0 at HA HLS HX HR HW ⊢
    clear hw0
    obtain ⟨c0a, c0b, c0c, c0d⟩ := HX.out.cells
    have z0 := HX.out.le
    by_cases hv : t.kind = 1
    · have k1 : (t.kind == 1) = true := by rw [hv]; rfl
      have k4 : (t.kind == 4) = false := by rw [hv]; rfl
      have HPV := Lib.hid (putT_var (s := s) hv)
      have HRQ : Hid (w.heap.size + 1 < w0.heap.size) := Lib.hid (by have := HR.out.le; omega)
      have HGET := Lib.hid (specGet_any s _ t.num S w0 HLS.out hL)
      clear hv
      go_wp2_with fail
      refine HGET.out.mono ?_
      rintro e w1 ⟨gu, rfl, hu, hb⟩
      obtain ⟨ga, gc, rfl⟩ := hu.at.slice
      have hal : Below w1.heap.size w1 (w1.alloc (.cells #[.int .i64 (getT s t.num).kind, .int .i64 (getT s t.num).num, .string (getT s t.num).name, .slice ga (getT s t.num).args.length gc] 38)) := belowAlloc (Below.refl _ _) _
      have HU := Lib.hid (hu.kept hal)
      have HBX := Lib.hid (at_box_of w1 #[.int .i64 (getT s t.num).kind, .int .i64 (getT s t.num).num, .string (getT s t.num).name, .slice ga (getT s t.num).args.length gc] 38 (w1.heap.size) rfl)
      have HB1 := Lib.hid (belowOn hb (Nat.le_refl _) hal)
      replace HX := Lib.hid ((HX.out.read hb).read hal)
      replace HR := Lib.hid ((HR.out.read hb).read hal)
      replace HA := Lib.hid ((HA.out.kept hb).kept hal)
      clear hu hb hal HGET c0a c0b c0c c0d
      go_upto_region 3 with (fail)
      generalize hw1 : w1.alloc (.cells #[.int .i64 (getT s t.num).kind, .int .i64 (getT s t.num).num, .string (getT s t.num).name, .slice ga (getT s t.num).args.length gc] 38) = w2 at HU HBX HB1 HX HR HA ⊢
      clear hw1
      have HRE := Lib.hid HR.out.now
      obtain ⟨r0, r1, r2, r3, rf⟩ := box_cells HR.out.now
      cases hg : getB s t.num with
      | true =>
        have HQV : Hid (r = getT s t.num) := Lib.hid (by
          rw [HQ.out, HPV.out]
          cases ho : getO s t.num with
          | none => rw [← getB_none, hg] at ho; cases ho
          | some x => rw [(get_yes ho).1])
        obtain ⟨b0, b1, b2, b3, _⟩ := box_cells HBX.out.now
        clear hg
        go_wp2
        exact oldS_end (p := 4) (b := w.heap.size + 1) (W := w0) (by rw [HQV.out]) (by rw [HQV.out]) (by rw [HQV.out]) rfl rfl rfl Tryz.underlying38 (by kernel_rfl) HRE.out HSB.out HW.out HB1.out (by omega) HRQ.out (by rw [HQV.out]; exact HU.out.sub fun k hk => .inl hk)
      | false =>
        have HQV : Hid (r = t) := Lib.hid (by rw [HQ.out, HPV.out, getB_none.1 hg])
        obtain ⟨c0a, c0b, c0c, c0d⟩ := HX.out.cells
        clear hg
        go_wp2
        exact oldS_end (p := 4) (b := w.heap.size + 1) (W := w0) (by rw [HQV.out]) (by rw [HQV.out]) (by rw [HQV.out]) rfl rfl rfl Tryz.underlying38 (by kernel_rfl) HRE.out HSB.out HW.out HB1.out (by omega) HRQ.out (by rw [HQV.out]; exact HA.out.sub fun k hk => .inl hk)
    · by_cases hk : t.kind = 4
      · obtain ⟨x, y, hxy⟩ := HG.out.fit.pair hk
        obtain ⟨ga, offa, u1, u2, v1, v2, rfl, hga, hla, hcx, hcy, hax, hay⟩ := HA.out.two hxy
        have HGA : Hid (ga < w.heap.size) := Lib.hid (by
          obtain ⟨g, off, n, cap, hv, hS⟩ := HA.out.root (by rw [hxy]; simp)
          simp only [Value.slice.injEq, Option.some.injEq, Addr.mk.injEq] at hv
          obtain ⟨⟨rfl, _⟩, _⟩ := hv
          exact HSB.out _ hS)
        have HLA := Lib.hid hla
        have HPA := Lib.hid (And.intro hcx (And.intro hcy (And.intro hax hay)))
        have HGX := Lib.hid ((good_two HG.out.fit hxy).1 HG.out)
        have HNX : Hid (nodesL t.args = x.nodes + y.nodes ∧ szL t.args = 2 + x.sz + y.sz ∧ 1 ≤ x.nodes ∧ 1 ≤ y.nodes) := Lib.hid (by
          rw [hxy]; simp only [nodesL, szL]; have := nodes_pos x; have := nodes_pos y; omega)
        have HQV : Hid (r.kind = 4 ∧ r.num = 0 ∧ r.name = ⟨#[]⟩ ∧ r.args = [putT s x, putT s y]) := Lib.hid (by rw [HQ.out, putT_two hk hxy]; exact ⟨rfl, rfl, rfl, rfl⟩)
        rw [hk] at c0a
        have k1 : ((4 : Int) == 1) = false := rfl
        clear hxy hga hla hcx hcy hax hay hk hv
        have hself : Below w0.heap.size w0 w0 := Below.refl _ _
        have hdrew : Below w0.heap.size w0 w0.drew := hself.drew
        have HCE : Hid (∀ W, Below w0.heap.size w0 W → W.cell? ⟨w.heap.size, 3, none⟩ = some (.slice (some ⟨ga, offa, none⟩) t.args.length ca) ∧ W.cell? ⟨ga, offa, none⟩ = some (.int .i64 x.kind) ∧ W.cell? ⟨ga, offa + 1, none⟩ = some (.int .i64 x.num) ∧ W.cell? ⟨ga, offa + 2, none⟩ = some (.string x.name) ∧ W.cell? ⟨ga, offa + 3, none⟩ = some (.slice u1 x.args.length u2) ∧ W.cell? ⟨ga, offa + 4, none⟩ = some (.int .i64 y.kind) ∧ W.cell? ⟨ga, offa + 4 + 1, none⟩ = some (.int .i64 y.num) ∧ W.cell? ⟨ga, offa + 4 + 2, none⟩ = some (.string y.name) ∧ W.cell? ⟨ga, offa + 4 + 3, none⟩ = some (.slice v1 y.args.length v2)) := Lib.hid fun W hW => by
          obtain ⟨y0a, y0b, y0c, y0d⟩ := (HX.out.read hW).cells
          obtain ⟨d0, d1, d2, d3⟩ := HPA.out.1 W hW
          obtain ⟨e0, e1, e2, e3⟩ := HPA.out.2.1 W hW
          exact ⟨y0d, d0, d1, d2, d3, e0, e1, e2, e3⟩
        obtain ⟨k0, k1, k2, k3, k4, k5, k6, k7, k8⟩ := HCE.out w0 hself
        have HTR : Hid (∀ a b, Below w0.heap.size w0 a → Below a.heap.size a b → Below w0.heap.size w0 b) := Lib.hid fun a b h1 h2 => belowOn h1 (Nat.le_refl _) h2
        have HC0 : Hid (∀ W, Below w0.heap.size w0 W → Calls Tryz.prog 86 #[.slice sa s.length sc, .agg #[.int .i64 x.kind, .int .i64 x.num, .string x.name, .slice u1 x.args.length u2]] W fun e w' => ∃ u, e = .returned (.agg #[.int .i64 (putT s x).kind, .int .i64 (putT s x).num, .string (putT s x).name, u]) ∧ ArgsS w' (fun k => S k ∨ (w0.heap.size ≤ k ∧ k < w'.heap.size)) u (putT s x).args ∧ Below W.heap.size W w') := Lib.hid fun W hW =>
          (HI.out x _ _ S W (by have := HNX.out; have := HNE.out; omega) (fun k hk => Nat.lt_of_lt_of_le (HSB.out k hk) (below3 HW.out hW).size) (HLS.out.kept hW) (HPA.out.2.2.1.kept hW) (by have := HNX.out; have := HS.out; omega) HGX.out.1).mono fun e w' h => h.from hW.size
        have HC1 : Hid (∀ W, Below w0.heap.size w0 W → Calls Tryz.prog 86 #[.slice sa s.length sc, .agg #[.int .i64 y.kind, .int .i64 y.num, .string y.name, .slice v1 y.args.length v2]] W fun e w' => ∃ u, e = .returned (.agg #[.int .i64 (putT s y).kind, .int .i64 (putT s y).num, .string (putT s y).name, u]) ∧ ArgsS w' (fun k => S k ∨ (w0.heap.size ≤ k ∧ k < w'.heap.size)) u (putT s y).args ∧ Below W.heap.size W w') := Lib.hid fun W hW =>
          (HI.out y _ _ S W (by have := HNX.out; have := HNE.out; omega) (fun k hk => Nat.lt_of_lt_of_le (HSB.out k hk) (below3 HW.out hW).size) (HLS.out.kept hW) (HPA.out.2.2.2.kept hW) (by have := HNX.out; have := HS.out; omega) HGX.out.2).mono fun e w' h => h.from hW.size
        have HRB : Hid (∀ W, Below w0.heap.size w0 W → W.heap[w.heap.size + 1]? = some (Obj.cells #[.int .i64 0, .int .i64 0, .string ⟨#[]⟩, .slice none 0 0] 38)) := Lib.hid fun W hW => (HR.out.read hW).now
        have HRL : Hid (w.heap.size ≤ w.heap.size + 1 ∧ w.heap.size + 1 < w0.heap.size) := Lib.hid ⟨by omega, by have := HR.out.le; omega⟩
        have ne1 : ¬ w.heap.size = w.heap.size + 1 := by omega
        have ne2 : ¬ w.heap.size + 1 = w.heap.size := by omega
        have ne3 : ¬ ga = w.heap.size + 1 := by have := HGA.out; omega
        have ne4 : ¬ w.heap.size + 1 = ga := by have := HGA.out; omega
        have hl2 : 1 < t.args.length := by have := HLA.out; omega
        have hl3 : (1 : Int) < (t.args.length : Int) := by omega
        have hl4 : (0 : Int) < (t.args.length : Int) := by omega
        have hl5 : 0 < t.args.length := by omega
        clear HA HX HR HI HPA HLS
        go_upto_region 6 with (fail)
        clear c0a c0b c0c c0d
        go_region_held3 (fun w' => w'.cell? ⟨w.heap.size, 3, none⟩ = some (.slice (some ⟨ga, offa, none⟩) t.args.length ca) ∧ w'.cell? ⟨ga, offa, none⟩ = some (.int .i64 x.kind) ∧ w'.cell? ⟨ga, offa + 1, none⟩ = some (.int .i64 x.num) ∧ w'.cell? ⟨ga, offa + 2, none⟩ = some (.string x.name) ∧ w'.cell? ⟨ga, offa + 3, none⟩ = some (.slice u1 x.args.length u2) ∧ w'.cell? ⟨ga, offa + 4, none⟩ = some (.int .i64 y.kind) ∧ w'.cell? ⟨ga, offa + 4 + 1, none⟩ = some (.int .i64 y.num) ∧ w'.cell? ⟨ga, offa + 4 + 2, none⟩ = some (.string y.name) ∧ w'.cell? ⟨ga, offa + 4 + 3, none⟩ = some (.slice v1 y.args.length v2)) (go_keep)
          (first
            | (go_at_call 86; (with_reducible refine Calls.mono (HC0.out _ ?_) ?_); (assumption); rintro e wB ⟨u0, rfl, hn0, hb0⟩; have hB' := HTR.out _ _ (by assumption) hb0; obtain ⟨k0, k1, k2, k3, k4, k5, k6, k7, k8⟩ := HCE.out _ hB'; obtain ⟨a0, c0, rfl⟩ := hn0.at.slice; have HN0 := Lib.hid hn0; have HL0 := Lib.hid hB'.size; clear hn0)
            | (go_at_call 86; (with_reducible refine Calls.mono (HC1.out _ ?_) ?_); (assumption); rintro e wD ⟨u9, rfl, hn1, hb1⟩; have hD' := HTR.out _ _ (by assumption) hb1; obtain ⟨k0, k1, k2, k3, k4, k5, k6, k7, k8⟩ := HCE.out _ hD'; obtain ⟨a1, c1, rfl⟩ := hn1.at.slice; have HN1 := Lib.hid hn1; have HN2 := Lib.hid (HN0.out.kept hb1); have HL1 := Lib.hid hb1.size; clear hn1)
            | (go_at_call 100; (with_reducible refine Calls.mono (specPair_any _ _ _ _ _ _ _ _ _ _ _ _ _) ?_); rintro e wE ⟨gE, rfl, hg1, hg2, hgh, hbE⟩; have hE' := HTR.out _ _ (by assumption) hbE; obtain ⟨k0, k1, k2, k3, k4, k5, k6, k7, k8⟩ := HCE.out _ hE'; have HM0 := Lib.hid (HN2.out.kept hbE); have HM1 := Lib.hid (HN1.out.kept hbE); have HGH := Lib.hid hgh; have HGE := Lib.hid (And.intro hg1 (And.intro hg2 hbE.size)); have HE := Lib.hid hE'; have HRE := Lib.hid (HRB.out _ hE'); obtain ⟨r0, r1, r2, r3, rf⟩ := box_cells (HRB.out _ hE'); clear hg1 hg2 hgh hbE))
        all_goals (go_wp2_with fail; have HP := Lib.hid (argsS_pair (S := fun k => S k ∨ (w0.heap.size ≤ k ∧ k < _)) HGH.out HGE.out.2.1 (.inr ⟨by (have h1 := HGE.out; have h2 := HL0.out; have h3 := HL1.out; omega), HGE.out.2.1⟩) (HM0.out.sub fun k hk => hk.imp id fun h => ⟨h.1, by (have h1 := HGE.out; have h3 := HL1.out; have h4 := h.2; omega)⟩) (HM1.out.sub fun k hk => hk.imp id fun h => ⟨h.1, by (have h1 := HGE.out; have h4 := h.2; omega)⟩)); exact oldS_end (p := 4) (b := w.heap.size + 1) (W := w0) HQV.out.1 HQV.out.2.1 HQV.out.2.2.1 rfl rfl rfl Tryz.underlying38 (by kernel_rfl) HRE.out HSB.out HW.out HE.out HRL.out.1 HRL.out.2 (by rw [HQV.out.2.2.2]; exact HP.out))
      · have HQV : Hid (r = t) := Lib.hid (by rw [HQ.out, putT_atom hv hk])
        have HRE := Lib.hid HR.out.now
        obtain ⟨r0, r1, r2, r3, rf⟩ := box_cells HR.out.now
        have z2 := HR.out.le
        have k1 : (t.kind == 1) = false := beq_eq_false_iff_ne.2 hv
        have k4 : (t.kind == 4) = false := beq_eq_false_iff_ne.2 hk
        clear hv hk
        go_wp2
        exact oldS_end (p := 4) (b := w.heap.size + 1) (W := w0) (by rw [HQV.out]) (by rw [HQV.out]) (by rw [HQV.out]) rfl rfl rfl Tryz.underlying38 (by kernel_rfl) HRE.out HSB.out HW.out (Below.refl _ _) (by omega) (by have := HR.out.le; omega) (by rw [HQV.out]; exact HA.out.sub fun k hk => .inl hk)
end Go.Proofs.YtnmdnajbafpfiaaGreat

namespace Go.Proofs.YtnmdnajbafpfiaaGreat
open Go.RowKit
set_option linter.unusedVariables false
set_option linter.unusedSimpArgs false

def inB (n : Int) : Bool := decide (0 ≤ n ∧ n ≤ 100000)
theorem inB_true {n : Int} : inB n = true ↔ 0 ≤ n ∧ n ≤ 100000 := by simp [inB]
set_option maxHeartbeats 400000 in
theorem in_any (n : Int) (w : World) : Calls Tryz.prog 62 #[.int .i64 n, .int .i64 0, .int .i64 100000] w fun e w' => e = .returned (.bool (inB n)) ∧ w = w' := by
  by_cases h0 : 0 ≤ n
  · by_cases h1 : n ≤ 100000
    · have HI := Lib.hid (inB_true.2 ⟨h0, h1⟩)
      go_enter Tryz.func62, Tryz.ntmps62
      go_wp2
      go_ret
      exact ⟨by rw [HI.out]; rfl, rfl⟩
    · have HI : Hid (inB n = false) := Lib.hid (by rw [← Bool.not_eq_true, inB_true]; omega)
      go_enter Tryz.func62, Tryz.ntmps62
      go_wp2
      go_ret
      exact ⟨by rw [HI.out]; rfl, rfl⟩
  · have HI : Hid (inB n = false) := Lib.hid (by rw [← Bool.not_eq_true, inB_true]; omega)
    go_enter Tryz.func62, Tryz.ntmps62
    go_wp2
    go_ret
    exact ⟨by rw [HI.out]; rfl, rfl⟩

/-- Right as far as k. -/
def VP (s : List Bd) (k : Nat) : Prop := (∀ (i : Nat) (x : Bd), i < k → s[i]? = some x → inB x.v = true ∧ okB x.t = true) ∧ ∀ (i : Nat) (x y : Bd), i + 1 < k → s[i]? = some x → s[i + 1]? = some y → x.v < y.v
theorem vp_end {s : List Bd} (h : VP s s.length) : valuesB s = decide ((s.length : Int) ≤ 400) := by
  by_cases hl : s.length ≤ 400
  · rw [decide_eq_true (by omega), valuesB_true]
    refine ⟨fun k x hx => ?_, fun k x y hx hy => h.2 k x y (List.getElem?_eq_some_iff.1 hy).1 hx hy, hl⟩
    have := h.1 k x (List.getElem?_eq_some_iff.1 hx).1 hx
    exact ⟨inB_true.1 this.1, okB_true.1 this.2⟩
  · rw [decide_eq_false (by omega), valuesB_false]
    exact fun hv => hl hv.2.2
theorem vp_bad {s : List Bd} {k : Nat} {x : Bd} (hx : s[k]? = some x) (h : inB x.v = false ∨ okB x.t = false) : valuesB s = false := by
  rw [valuesB_false]
  intro hv
  have := hv.1 k x hx
  rcases h with h | h
  · rw [inB_true.2 this.1] at h; cases h
  · rw [okB_true.2 this.2] at h; cases h
theorem vp_desc {s : List Bd} {j : Nat} {x y : Bd} (hx : s[j]? = some x) (hy : s[j + 1]? = some y) (h : ¬ x.v < y.v) : valuesB s = false := by
  rw [valuesB_false]
  exact fun hv => h (hv.2.1 j x y hx hy)
theorem vp_next {s : List Bd} {k : Nat} {x : Bd} (h : VP s k) (hx : s[k]? = some x) (hi : inB x.v = true) (ho : okB x.t = true) (hd : ∀ (j : Nat) (y : Bd), k = j + 1 → s[j]? = some y → y.v < x.v) : VP s (k + 1) := by
  refine ⟨fun i y hi' hy => ?_, fun i y z hi' hy hz => ?_⟩
  · by_cases e : i = k
    · subst e
      cases hy.symm.trans hx
      exact ⟨hi, ho⟩
    · exact h.1 i y (by omega) hy
  · by_cases e : i + 1 = k
    · have hz' : s[k]? = some z := by rw [← e]; exact hz
      cases hz'.symm.trans hx
      exact hd i y e.symm hy
    · exact h.2 i y z (by omega) hy hz

set_option maxRecDepth 100000 in
set_option maxHeartbeats 16000000 in
theorem specValues_any (s : List Bd) (V : Value) (w : World) (hA : ListS bdE w Any V s) (hE : EachB s) :
    Calls Tryz.prog 67 #[V] w fun e w' => e = .returned (.bool (valuesB s)) ∧ Below w.heap.size w w' := by
  obtain ⟨a, cap, rfl⟩ := hA.slice
  have HA := Lib.hid hA
  have hL : s.length ≤ 1048576 := hE.1
  have HW : Hid (Below w.heap.size w w) := Lib.hid (Below.refl _ _)
  clear hA
  go_enter Tryz.func67, Tryz.ntmps67
  go_wp2
  go_loopw [7] (fun iv wr => ∃ k : Nat, k ≤ s.length ∧ iv = .int .i64 k ∧ Hid (VP s k) ∧ Hid (Below w.heap.size w wr)) (fun iv _ => s.length - (intOf iv).toNat)
  case atStart => exact ⟨0, Nat.zero_le _, rfl, Lib.hid ⟨fun i x hi => absurd hi (Nat.not_lt_zero _), fun i x y hi => absurd hi (Nat.not_lt_zero _)⟩, HW⟩
  case round =>
    obtain ⟨k, hk, rfl, HV, HB⟩ := hrel
    clear HW
    by_cases hlt : k < s.length
    · have hltI : (k : Int) < (s.length : Int) := by omega
      have hk0 : (0 : Int) ≤ (k : Int) := by omega
      obtain ⟨x, hx⟩ : ∃ x, s[k]? = some x := ⟨_, List.getElem?_eq_getElem hlt⟩
      obtain ⟨g, off, u1, u2, rfl, hg, hq, hc, hu⟩ := HA.out.bd hx
      obtain ⟨d0, d1, d2, d3, d4⟩ := hc wr HB.out
      have HX := Lib.hid hx
      have HU := Lib.hid (hu.kept HB.out)
      have HCC := Lib.hid hc
      have hxz : x.t.sz ≤ 1048576 := by have := hE.2 x (List.mem_of_getElem? hx); omega
      clear hx hq hc hu
      go_upto_region 4 with (fail)
      have hal : Below wr.heap.size wr (wr.alloc (.cells #[.int .i64 x.v, .int .i64 x.t.kind, .int .i64 x.t.num, .string x.t.name, .slice u1 x.t.args.length u2] 69)) := belowAlloc (Below.refl _ _) _
      have HBX := Lib.hid (at_box_of wr #[.int .i64 x.v, .int .i64 x.t.kind, .int .i64 x.t.num, .string x.t.name, .slice u1 x.t.args.length u2] 69 wr.heap.size rfl)
      have HW1 := Lib.hid (belowOn HB.out (Nat.le_refl _) hal)
      have HU1 := Lib.hid (HU.out.kept hal)
      obtain ⟨nb, hnb⟩ : ∃ n : Nat, n = wr.heap.size := ⟨_, rfl⟩
      clear hal d0 d1 d2 d3 d4 HU
      rw [← hnb] at HBX ⊢
      have hgb : g < nb := by have := HB.out.size; omega
      clear hnb HB
      generalize hw1 : wr.alloc (.cells #[.int .i64 x.v, .int .i64 x.t.kind, .int .i64 x.t.num, .string x.t.name, .slice u1 x.t.args.length u2] 69) = w1 at HBX HW1 HU1 ⊢
      clear hw1
      have hself : Below w1.heap.size w1 w1 := Below.refl _ _
      have hdrew : Below w1.heap.size w1 w1.drew := hself.drew
      have HIN : Hid (∀ W, Calls Tryz.prog 62 #[.int .i64 x.v, .int .i64 0, .int .i64 100000] W fun e w' => e = .returned (.bool (inB x.v)) ∧ W = w') := Lib.hid fun W => in_any x.v W
      have HOK : Hid (∀ W, Below w1.heap.size w1 W → Calls Tryz.prog 59 #[.agg #[.int .i64 x.t.kind, .int .i64 x.t.num, .string x.t.name, .slice u1 x.t.args.length u2]] W fun e w' => e = .returned (.bool (okB x.t)) ∧ Below W.heap.size W w') := Lib.hid fun W hW => specTermOk_any x.t _ W (HU1.out.kept hW).at hxz
      have HTR : Hid (∀ a b, Below w1.heap.size w1 a → Below a.heap.size a b → Below w1.heap.size w1 b) := Lib.hid fun a b h1 h2 => belowOn h1 (Nat.le_refl _) h2
      have HCB : Hid (∀ W, Below w1.heap.size w1 W → W.cell? ⟨nb, 0, none⟩ = some (.int .i64 x.v) ∧ W.cell? ⟨nb, 1, none⟩ = some (.int .i64 x.t.kind) ∧ W.cell? ⟨nb, 2, none⟩ = some (.int .i64 x.t.num) ∧ W.cell? ⟨nb, 3, none⟩ = some (.string x.t.name) ∧ W.cell? ⟨nb, 4, none⟩ = some (.slice u1 x.t.args.length u2)) := Lib.hid fun W hW => by
        obtain ⟨y0, y1, y2, y3, y4, _⟩ := box_cells5 (HBX.out.read hW).now
        exact ⟨y0, y1, y2, y3, y4⟩
      have HEND : Hid (∀ W, Below w1.heap.size w1 W → Below w.heap.size w W) := Lib.hid fun W hW => belowOn HW1.out (Nat.le_refl _) hW
      obtain ⟨e0, e1, e2, e3, e4⟩ := HCB.out w1 hself
      by_cases hkz : k = 0
      · have HK0 : Hid (∀ {j : Nat}, ¬ k = j + 1) := Lib.hid (fun {j} => by omega)
        have g0 : decide ((0 : Int) < (k : Int)) = false := decide_eq_false (by omega)
        have g0n : decide (0 < k) = false := decide_eq_false (by omega)
        clear hkz
        cases hin : inB x.v with
        | false =>
          have HF := Lib.hid (vp_bad HX.out (.inl hin))
          rw [hin] at HIN
          clear hin HOK HCC HA HU1 HV HBX
          refine wp_region_held_drew (S := (fun w' => Below w1.heap.size w1 w' ∧ w'.cell? ⟨nb, 0, none⟩ = some (.int .i64 x.v) ∧ w'.cell? ⟨nb, 1, none⟩ = some (.int .i64 x.t.kind) ∧ w'.cell? ⟨nb, 2, none⟩ = some (.int .i64 x.t.num) ∧ w'.cell? ⟨nb, 3, none⟩ = some (.string x.t.name) ∧ w'.cell? ⟨nb, 4, none⟩ = some (.slice u1 x.t.args.length u2))) (by kernel_rfl) (by (try dsimp only); go_keep) (fun hHeld => ?_)
          (refine wpAnyH_take (i := 0) (oi := ⟨_, _, _, _, _, _⟩) (v := ?_) rfl (by kernel_rfl) (by kernel_rfl) (by kernel_rfl) (fun _ _ _ h => h) (Or.inl ⟨by rfl, ?_⟩) (by assumption) ?_; rotate_left; focus ((intro w' hSw; (try dsimp only at hSw); go_simp; (try with_reducible rfl)))); (try simp only [Act.put, List.setIfInBounds_toArray, List.set_cons_zero, List.set_cons_succ])
          (refine wpAnyH_take (i := 1) (oi := ⟨_, _, _, _, _, _⟩) (v := ?_) rfl (by kernel_rfl) (by kernel_rfl) (by kernel_rfl) (fun _ _ _ h => h) (Or.inl ⟨by rfl, ?_⟩) (by assumption) ?_; rotate_left; focus ((intro w' hSw; (try dsimp only at hSw); go_simp; (try with_reducible rfl)))); (try simp only [Act.put, List.setIfInBounds_toArray, List.set_cons_zero, List.set_cons_succ])
          (refine wpAnyH_take (i := 2) (oi := ⟨_, _, _, _, _, _⟩) (v := ?_) rfl (by kernel_rfl) (by kernel_rfl) (by kernel_rfl) (fun _ _ _ h => h) (Or.inl ⟨by rfl, ?_⟩) (by assumption) ?_; rotate_left; focus ((intro w' hSw; (try dsimp only at hSw); go_simp; (try with_reducible rfl)))); (try simp only [Act.put, List.setIfInBounds_toArray, List.set_cons_zero, List.set_cons_succ])
          (refine wpAnyH_take (i := 3) (oi := ⟨_, _, _, _, _, _⟩) (v := undef) rfl (by kernel_rfl) (by kernel_rfl) (by kernel_rfl) (fun _ _ _ h => h) (Or.inr ⟨by rfl, rfl⟩) (by assumption) ?_); (try simp only [Act.put, List.setIfInBounds_toArray, List.set_cons_zero, List.set_cons_succ])
          (refine wpAnyH_take (i := 4) (oi := ⟨_, _, _, _, _, _⟩) (v := undef) rfl (by kernel_rfl) (by kernel_rfl) (by kernel_rfl) (fun _ _ _ h => h) (Or.inr ⟨by rfl, rfl⟩) (by assumption) ?_); (try simp only [Act.put, List.setIfInBounds_toArray, List.set_cons_zero, List.set_cons_succ])
          (refine wpAnyH_take (i := 5) (oi := ⟨_, _, _, _, _, _⟩) (v := undef) rfl (by kernel_rfl) (by kernel_rfl) (by kernel_rfl) (fun _ _ _ h => h) (Or.inr ⟨by rfl, rfl⟩) (by assumption) ?_); (try simp only [Act.put, List.setIfInBounds_toArray, List.set_cons_zero, List.set_cons_succ])
          (refine wpAnyH_take (i := 6) (oi := ⟨_, _, _, _, _, _⟩) (v := undef) rfl (by kernel_rfl) (by kernel_rfl) (by kernel_rfl) (fun _ _ _ h => h) (Or.inr ⟨by rfl, rfl⟩) (by assumption) ?_); (try simp only [Act.put, List.setIfInBounds_toArray, List.set_cons_zero, List.set_cons_succ])
          (refine wpAnyH_take (i := 7) (oi := ⟨_, _, _, _, _, _⟩) (v := undef) rfl (by kernel_rfl) (by kernel_rfl) (by kernel_rfl) (fun _ _ _ h => h) (Or.inr ⟨by rfl, rfl⟩) (by assumption) ?_); (try simp only [Act.put, List.setIfInBounds_toArray, List.set_cons_zero, List.set_cons_succ])
          (refine wpAnyH_take (i := 8) (oi := ⟨_, _, _, _, _, _⟩) (v := undef) rfl (by kernel_rfl) (by kernel_rfl) (by kernel_rfl) (fun _ _ _ h => h) (Or.inr ⟨by rfl, rfl⟩) (by assumption) ?_); (try simp only [Act.put, List.setIfInBounds_toArray, List.set_cons_zero, List.set_cons_succ])
          (refine wpAnyH_take (i := 9) (oi := ⟨_, _, _, _, _, _⟩) (v := undef) rfl (by kernel_rfl) (by kernel_rfl) (by kernel_rfl) (fun _ _ _ h => h) (Or.inr ⟨by rfl, rfl⟩) (by assumption) ?_); (try simp only [Act.put, List.setIfInBounds_toArray, List.set_cons_zero, List.set_cons_succ])
          (refine wpAnyH_take (i := 10) (oi := ⟨_, _, _, _, _, _⟩) (v := undef) rfl (by kernel_rfl) (by kernel_rfl) (by kernel_rfl) (fun _ _ _ h => h) (Or.inr ⟨by rfl, rfl⟩) (by assumption) ?_); (try simp only [Act.put, List.setIfInBounds_toArray, List.set_cons_zero, List.set_cons_succ])
          (refine wpAnyH_take (i := 11) (oi := ⟨_, _, _, _, _, _⟩) (v := undef) rfl (by kernel_rfl) (by kernel_rfl) (by kernel_rfl) (fun _ _ _ h => h) (Or.inr ⟨by rfl, rfl⟩) (by assumption) ?_); (try simp only [Act.put, List.setIfInBounds_toArray, List.set_cons_zero, List.set_cons_succ])
          (refine wpAnyH_take (i := 12) (oi := ⟨_, _, _, _, _, _⟩) (v := ?_) rfl (by kernel_rfl) (by kernel_rfl) (by kernel_rfl) (fun _ _ _ h => h) (Or.inl ⟨by rfl, ?_⟩) (by assumption) ?_; rotate_left; focus ((intro w' hSw; (try dsimp only at hSw); go_simp; (try with_reducible rfl)))); (try simp only [Act.put, List.setIfInBounds_toArray, List.set_cons_zero, List.set_cons_succ])
          (refine wpAnyH_take (i := 13) (oi := ⟨_, _, _, _, _, _⟩) (v := ?_) rfl (by kernel_rfl) (by kernel_rfl) (by kernel_rfl) (fun _ _ _ h => h) (Or.inl ⟨by rfl, ?_⟩) (by assumption) ?_; rotate_left; focus ((intro w' hSw; (try dsimp only at hSw); go_simp; (try with_reducible rfl)))); (try simp only [Act.put, List.setIfInBounds_toArray, List.set_cons_zero, List.set_cons_succ])
          (refine wpAnyH_take (i := 14) (oi := ⟨_, _, _, _, _, _⟩) (v := ?_) rfl (by kernel_rfl) (by kernel_rfl) (by kernel_rfl) (fun _ _ _ h => h) (Or.inl ⟨by rfl, ?_⟩) (by assumption) ?_; rotate_left; focus ((intro w' hSw; (try dsimp only at hSw); go_simp; (try with_reducible rfl)))); (try simp only [Act.put, List.setIfInBounds_toArray, List.set_cons_zero, List.set_cons_succ])
          (refine wpAnyH_take (i := 15) (oi := ⟨_, _, _, _, _, _⟩) (v := ?_) rfl (by kernel_rfl) (by kernel_rfl) (by kernel_rfl) (fun _ _ _ h => h) (Or.inl ⟨by rfl, ?_⟩) (by assumption) ?_; rotate_left; focus ((intro w' hSw; (try dsimp only at hSw); go_simp; (try with_reducible rfl)))); (try simp only [Act.put, List.setIfInBounds_toArray, List.set_cons_zero, List.set_cons_succ])
          refine wpAnyH_ready (rs := [16]) (by kernel_rfl) (by simp) ?_
          refine AllReadyH.cons (o := ⟨_, _, _, _, _, _⟩) rfl (fun K hK => ?_) AllReadyH.nil
          go_simp
          (first | (go_at_call 62; (with_reducible refine Calls.mono (HIN.out _) ?_); rintro e w' ⟨rfl, rfl⟩) | (go_at_call 59; (with_reducible refine Calls.mono (HOK.out _ ?_) ?_); (assumption); rintro e w' ⟨rfl, hb⟩; have hB' := HTR.out _ _ (by assumption) hb; obtain ⟨k0, k1, k2, k3, k4⟩ := HCB.out _ hB'))
          (try go_wp2_with fail)
          refine hK.out _ _ (by (try dsimp only); (first | go_keep | (refine ⟨by assumption, ?_⟩; go_keep))) (fun hHeld => ?_)
          clear hK K
          (try simp only [Act.put, List.setIfInBounds_toArray, List.set_cons_zero, List.set_cons_succ])
          (refine wpAnyH_take (i := 17) (oi := ⟨_, _, _, _, _, _⟩) (v := ?_) rfl (by kernel_rfl) (by kernel_rfl) (by kernel_rfl) (fun _ _ _ h => h) (Or.inl ⟨by rfl, ?_⟩) (by assumption) ?_; rotate_left; focus ((intro w' hSw; (try dsimp only at hSw); go_simp; (try with_reducible rfl)))); (try simp only [Act.put, List.setIfInBounds_toArray, List.set_cons_zero, List.set_cons_succ])
          (refine wpAnyH_take (i := 18) (oi := ⟨_, _, _, _, _, _⟩) (v := ?_) rfl (by kernel_rfl) (by kernel_rfl) (by kernel_rfl) (fun _ _ _ h => h) (Or.inl ⟨by rfl, ?_⟩) (by assumption) ?_; rotate_left; focus ((intro w' hSw; (try dsimp only at hSw); go_simp; (try with_reducible rfl)))); (try simp only [Act.put, List.setIfInBounds_toArray, List.set_cons_zero, List.set_cons_succ])
          (refine wpAnyH_take (i := 19) (oi := ⟨_, _, _, _, _, _⟩) (v := ?_) rfl (by kernel_rfl) (by kernel_rfl) (by kernel_rfl) (fun _ _ _ h => h) (Or.inl ⟨by rfl, ?_⟩) (by assumption) ?_; rotate_left; focus ((intro w' hSw; (try dsimp only at hSw); go_simp; (try with_reducible rfl)))); (try simp only [Act.put, List.setIfInBounds_toArray, List.set_cons_zero, List.set_cons_succ])
          (refine wpAnyH_take (i := 20) (oi := ⟨_, _, _, _, _, _⟩) (v := undef) rfl (by kernel_rfl) (by kernel_rfl) (by kernel_rfl) (fun _ _ _ h => h) (Or.inr ⟨by rfl, rfl⟩) (by assumption) ?_); (try simp only [Act.put, List.setIfInBounds_toArray, List.set_cons_zero, List.set_cons_succ])
          (refine wpAnyH_take (i := 21) (oi := ⟨_, _, _, _, _, _⟩) (v := undef) rfl (by kernel_rfl) (by kernel_rfl) (by kernel_rfl) (fun _ _ _ h => h) (Or.inr ⟨by rfl, rfl⟩) (by assumption) ?_); (try simp only [Act.put, List.setIfInBounds_toArray, List.set_cons_zero, List.set_cons_succ])
          (refine wpAnyH_take (i := 22) (oi := ⟨_, _, _, _, _, _⟩) (v := undef) rfl (by kernel_rfl) (by kernel_rfl) (by kernel_rfl) (fun _ _ _ h => h) (Or.inr ⟨by rfl, rfl⟩) (by assumption) ?_); (try simp only [Act.put, List.setIfInBounds_toArray, List.set_cons_zero, List.set_cons_succ])
          (refine wpAnyH_take (i := 23) (oi := ⟨_, _, _, _, _, _⟩) (v := undef) rfl (by kernel_rfl) (by kernel_rfl) (by kernel_rfl) (fun _ _ _ h => h) (Or.inr ⟨by rfl, rfl⟩) (by assumption) ?_); (try simp only [Act.put, List.setIfInBounds_toArray, List.set_cons_zero, List.set_cons_succ])
          (refine wpAnyH_take (i := 24) (oi := ⟨_, _, _, _, _, _⟩) (v := ?_) rfl (by kernel_rfl) (by kernel_rfl) (by kernel_rfl) (fun _ _ _ h => h) (Or.inl ⟨by rfl, ?_⟩) (by assumption) ?_; rotate_left; focus ((intro w' hSw; (try dsimp only at hSw); go_simp; (try with_reducible rfl)))); (try simp only [Act.put, List.setIfInBounds_toArray, List.set_cons_zero, List.set_cons_succ])
          refine wpAnyH_done (by kernel_rfl) ?_ _
          go_wp2
          go_ret
          exact ⟨by rw [HF.out]; rfl, HEND.out _ (by assumption)⟩
        | true =>
          cases hok : okB x.t with
          | false =>
            have HF := Lib.hid (vp_bad HX.out (.inr hok))
            rw [hin] at HIN
            rw [hok] at HOK
            clear hin hok HCC HA HU1 HV HBX
            refine wp_region_held_drew (S := (fun w' => Below w1.heap.size w1 w' ∧ w'.cell? ⟨nb, 0, none⟩ = some (.int .i64 x.v) ∧ w'.cell? ⟨nb, 1, none⟩ = some (.int .i64 x.t.kind) ∧ w'.cell? ⟨nb, 2, none⟩ = some (.int .i64 x.t.num) ∧ w'.cell? ⟨nb, 3, none⟩ = some (.string x.t.name) ∧ w'.cell? ⟨nb, 4, none⟩ = some (.slice u1 x.t.args.length u2))) (by kernel_rfl) (by (try dsimp only); go_keep) (fun hHeld => ?_)
            (refine wpAnyH_take (i := 0) (oi := ⟨_, _, _, _, _, _⟩) (v := ?_) rfl (by kernel_rfl) (by kernel_rfl) (by kernel_rfl) (fun _ _ _ h => h) (Or.inl ⟨by rfl, ?_⟩) (by assumption) ?_; rotate_left; focus ((intro w' hSw; (try dsimp only at hSw); go_simp; (try with_reducible rfl)))); (try simp only [Act.put, List.setIfInBounds_toArray, List.set_cons_zero, List.set_cons_succ])
            (refine wpAnyH_take (i := 1) (oi := ⟨_, _, _, _, _, _⟩) (v := ?_) rfl (by kernel_rfl) (by kernel_rfl) (by kernel_rfl) (fun _ _ _ h => h) (Or.inl ⟨by rfl, ?_⟩) (by assumption) ?_; rotate_left; focus ((intro w' hSw; (try dsimp only at hSw); go_simp; (try with_reducible rfl)))); (try simp only [Act.put, List.setIfInBounds_toArray, List.set_cons_zero, List.set_cons_succ])
            (refine wpAnyH_take (i := 2) (oi := ⟨_, _, _, _, _, _⟩) (v := ?_) rfl (by kernel_rfl) (by kernel_rfl) (by kernel_rfl) (fun _ _ _ h => h) (Or.inl ⟨by rfl, ?_⟩) (by assumption) ?_; rotate_left; focus ((intro w' hSw; (try dsimp only at hSw); go_simp; (try with_reducible rfl)))); (try simp only [Act.put, List.setIfInBounds_toArray, List.set_cons_zero, List.set_cons_succ])
            (refine wpAnyH_take (i := 3) (oi := ⟨_, _, _, _, _, _⟩) (v := undef) rfl (by kernel_rfl) (by kernel_rfl) (by kernel_rfl) (fun _ _ _ h => h) (Or.inr ⟨by rfl, rfl⟩) (by assumption) ?_); (try simp only [Act.put, List.setIfInBounds_toArray, List.set_cons_zero, List.set_cons_succ])
            (refine wpAnyH_take (i := 4) (oi := ⟨_, _, _, _, _, _⟩) (v := undef) rfl (by kernel_rfl) (by kernel_rfl) (by kernel_rfl) (fun _ _ _ h => h) (Or.inr ⟨by rfl, rfl⟩) (by assumption) ?_); (try simp only [Act.put, List.setIfInBounds_toArray, List.set_cons_zero, List.set_cons_succ])
            (refine wpAnyH_take (i := 5) (oi := ⟨_, _, _, _, _, _⟩) (v := undef) rfl (by kernel_rfl) (by kernel_rfl) (by kernel_rfl) (fun _ _ _ h => h) (Or.inr ⟨by rfl, rfl⟩) (by assumption) ?_); (try simp only [Act.put, List.setIfInBounds_toArray, List.set_cons_zero, List.set_cons_succ])
            (refine wpAnyH_take (i := 6) (oi := ⟨_, _, _, _, _, _⟩) (v := undef) rfl (by kernel_rfl) (by kernel_rfl) (by kernel_rfl) (fun _ _ _ h => h) (Or.inr ⟨by rfl, rfl⟩) (by assumption) ?_); (try simp only [Act.put, List.setIfInBounds_toArray, List.set_cons_zero, List.set_cons_succ])
            (refine wpAnyH_take (i := 7) (oi := ⟨_, _, _, _, _, _⟩) (v := undef) rfl (by kernel_rfl) (by kernel_rfl) (by kernel_rfl) (fun _ _ _ h => h) (Or.inr ⟨by rfl, rfl⟩) (by assumption) ?_); (try simp only [Act.put, List.setIfInBounds_toArray, List.set_cons_zero, List.set_cons_succ])
            (refine wpAnyH_take (i := 8) (oi := ⟨_, _, _, _, _, _⟩) (v := undef) rfl (by kernel_rfl) (by kernel_rfl) (by kernel_rfl) (fun _ _ _ h => h) (Or.inr ⟨by rfl, rfl⟩) (by assumption) ?_); (try simp only [Act.put, List.setIfInBounds_toArray, List.set_cons_zero, List.set_cons_succ])
            (refine wpAnyH_take (i := 9) (oi := ⟨_, _, _, _, _, _⟩) (v := undef) rfl (by kernel_rfl) (by kernel_rfl) (by kernel_rfl) (fun _ _ _ h => h) (Or.inr ⟨by rfl, rfl⟩) (by assumption) ?_); (try simp only [Act.put, List.setIfInBounds_toArray, List.set_cons_zero, List.set_cons_succ])
            (refine wpAnyH_take (i := 10) (oi := ⟨_, _, _, _, _, _⟩) (v := undef) rfl (by kernel_rfl) (by kernel_rfl) (by kernel_rfl) (fun _ _ _ h => h) (Or.inr ⟨by rfl, rfl⟩) (by assumption) ?_); (try simp only [Act.put, List.setIfInBounds_toArray, List.set_cons_zero, List.set_cons_succ])
            (refine wpAnyH_take (i := 11) (oi := ⟨_, _, _, _, _, _⟩) (v := undef) rfl (by kernel_rfl) (by kernel_rfl) (by kernel_rfl) (fun _ _ _ h => h) (Or.inr ⟨by rfl, rfl⟩) (by assumption) ?_); (try simp only [Act.put, List.setIfInBounds_toArray, List.set_cons_zero, List.set_cons_succ])
            (refine wpAnyH_take (i := 12) (oi := ⟨_, _, _, _, _, _⟩) (v := ?_) rfl (by kernel_rfl) (by kernel_rfl) (by kernel_rfl) (fun _ _ _ h => h) (Or.inl ⟨by rfl, ?_⟩) (by assumption) ?_; rotate_left; focus ((intro w' hSw; (try dsimp only at hSw); go_simp; (try with_reducible rfl)))); (try simp only [Act.put, List.setIfInBounds_toArray, List.set_cons_zero, List.set_cons_succ])
            (refine wpAnyH_take (i := 13) (oi := ⟨_, _, _, _, _, _⟩) (v := ?_) rfl (by kernel_rfl) (by kernel_rfl) (by kernel_rfl) (fun _ _ _ h => h) (Or.inl ⟨by rfl, ?_⟩) (by assumption) ?_; rotate_left; focus ((intro w' hSw; (try dsimp only at hSw); go_simp; (try with_reducible rfl)))); (try simp only [Act.put, List.setIfInBounds_toArray, List.set_cons_zero, List.set_cons_succ])
            (refine wpAnyH_take (i := 14) (oi := ⟨_, _, _, _, _, _⟩) (v := ?_) rfl (by kernel_rfl) (by kernel_rfl) (by kernel_rfl) (fun _ _ _ h => h) (Or.inl ⟨by rfl, ?_⟩) (by assumption) ?_; rotate_left; focus ((intro w' hSw; (try dsimp only at hSw); go_simp; (try with_reducible rfl)))); (try simp only [Act.put, List.setIfInBounds_toArray, List.set_cons_zero, List.set_cons_succ])
            (refine wpAnyH_take (i := 15) (oi := ⟨_, _, _, _, _, _⟩) (v := ?_) rfl (by kernel_rfl) (by kernel_rfl) (by kernel_rfl) (fun _ _ _ h => h) (Or.inl ⟨by rfl, ?_⟩) (by assumption) ?_; rotate_left; focus ((intro w' hSw; (try dsimp only at hSw); go_simp; (try with_reducible rfl)))); (try simp only [Act.put, List.setIfInBounds_toArray, List.set_cons_zero, List.set_cons_succ])
            refine wpAnyH_ready (rs := [16]) (by kernel_rfl) (by simp) ?_
            refine AllReadyH.cons (o := ⟨_, _, _, _, _, _⟩) rfl (fun K hK => ?_) AllReadyH.nil
            go_simp
            (first | (go_at_call 62; (with_reducible refine Calls.mono (HIN.out _) ?_); rintro e w' ⟨rfl, rfl⟩) | (go_at_call 59; (with_reducible refine Calls.mono (HOK.out _ ?_) ?_); (assumption); rintro e w' ⟨rfl, hb⟩; have hB' := HTR.out _ _ (by assumption) hb; obtain ⟨k0, k1, k2, k3, k4⟩ := HCB.out _ hB'))
            (try go_wp2_with fail)
            refine hK.out _ _ (by (try dsimp only); (first | go_keep | (refine ⟨by assumption, ?_⟩; go_keep))) (fun hHeld => ?_)
            clear hK K
            (try simp only [Act.put, List.setIfInBounds_toArray, List.set_cons_zero, List.set_cons_succ])
            (refine wpAnyH_take (i := 17) (oi := ⟨_, _, _, _, _, _⟩) (v := ?_) rfl (by kernel_rfl) (by kernel_rfl) (by kernel_rfl) (fun _ _ _ h => h) (Or.inl ⟨by rfl, ?_⟩) (by assumption) ?_; rotate_left; focus ((intro w' hSw; (try dsimp only at hSw); go_simp; (try with_reducible rfl)))); (try simp only [Act.put, List.setIfInBounds_toArray, List.set_cons_zero, List.set_cons_succ])
            (refine wpAnyH_take (i := 18) (oi := ⟨_, _, _, _, _, _⟩) (v := ?_) rfl (by kernel_rfl) (by kernel_rfl) (by kernel_rfl) (fun _ _ _ h => h) (Or.inl ⟨by rfl, ?_⟩) (by assumption) ?_; rotate_left; focus ((intro w' hSw; (try dsimp only at hSw); go_simp; (try with_reducible rfl)))); (try simp only [Act.put, List.setIfInBounds_toArray, List.set_cons_zero, List.set_cons_succ])
            (refine wpAnyH_take (i := 19) (oi := ⟨_, _, _, _, _, _⟩) (v := ?_) rfl (by kernel_rfl) (by kernel_rfl) (by kernel_rfl) (fun _ _ _ h => h) (Or.inl ⟨by rfl, ?_⟩) (by assumption) ?_; rotate_left; focus ((intro w' hSw; (try dsimp only at hSw); go_simp; (try with_reducible rfl)))); (try simp only [Act.put, List.setIfInBounds_toArray, List.set_cons_zero, List.set_cons_succ])
            (refine wpAnyH_take (i := 20) (oi := ⟨_, _, _, _, _, _⟩) (v := ?_) rfl (by kernel_rfl) (by kernel_rfl) (by kernel_rfl) (fun _ _ _ h => h) (Or.inl ⟨by rfl, ?_⟩) (by assumption) ?_; rotate_left; focus ((intro w' hSw; (try dsimp only at hSw); go_simp; (try with_reducible rfl)))); (try simp only [Act.put, List.setIfInBounds_toArray, List.set_cons_zero, List.set_cons_succ])
            (refine wpAnyH_take (i := 21) (oi := ⟨_, _, _, _, _, _⟩) (v := ?_) rfl (by kernel_rfl) (by kernel_rfl) (by kernel_rfl) (fun _ _ _ h => h) (Or.inl ⟨by rfl, ?_⟩) (by assumption) ?_; rotate_left; focus ((intro w' hSw; (try dsimp only at hSw); go_simp; (try with_reducible rfl)))); (try simp only [Act.put, List.setIfInBounds_toArray, List.set_cons_zero, List.set_cons_succ])
            refine wpAnyH_ready (rs := [22]) (by kernel_rfl) (by simp) ?_
            refine AllReadyH.cons (o := ⟨_, _, _, _, _, _⟩) rfl (fun K hK => ?_) AllReadyH.nil
            go_simp
            (first | (go_at_call 62; (with_reducible refine Calls.mono (HIN.out _) ?_); rintro e w' ⟨rfl, rfl⟩) | (go_at_call 59; (with_reducible refine Calls.mono (HOK.out _ ?_) ?_); (assumption); rintro e w' ⟨rfl, hb⟩; have hB' := HTR.out _ _ (by assumption) hb; obtain ⟨k0, k1, k2, k3, k4⟩ := HCB.out _ hB'))
            (try go_wp2_with fail)
            refine hK.out _ _ (by (try dsimp only); (first | go_keep | (refine ⟨by assumption, ?_⟩; go_keep))) (fun hHeld => ?_)
            clear hK K
            (try simp only [Act.put, List.setIfInBounds_toArray, List.set_cons_zero, List.set_cons_succ])
            (refine wpAnyH_take (i := 23) (oi := ⟨_, _, _, _, _, _⟩) (v := ?_) rfl (by kernel_rfl) (by kernel_rfl) (by kernel_rfl) (fun _ _ _ h => h) (Or.inl ⟨by rfl, ?_⟩) (by assumption) ?_; rotate_left; focus ((intro w' hSw; (try dsimp only at hSw); go_simp; (try with_reducible rfl)))); (try simp only [Act.put, List.setIfInBounds_toArray, List.set_cons_zero, List.set_cons_succ])
            (refine wpAnyH_take (i := 24) (oi := ⟨_, _, _, _, _, _⟩) (v := ?_) rfl (by kernel_rfl) (by kernel_rfl) (by kernel_rfl) (fun _ _ _ h => h) (Or.inl ⟨by rfl, ?_⟩) (by assumption) ?_; rotate_left; focus ((intro w' hSw; (try dsimp only at hSw); go_simp; (try with_reducible rfl)))); (try simp only [Act.put, List.setIfInBounds_toArray, List.set_cons_zero, List.set_cons_succ])
            refine wpAnyH_done (by kernel_rfl) ?_ _
            go_wp2
            go_ret
            exact ⟨by rw [HF.out]; rfl, HEND.out _ (by assumption)⟩
          | true =>
            have HNX := Lib.hid (vp_next HV.out HX.out hin hok (fun j y e hy => absurd e HK0.out))
            rw [hin] at HIN
            rw [hok] at HOK
            clear hin hok HCC HU1 HV HBX
            refine wp_region_held_drew (S := (fun w' => Below w1.heap.size w1 w' ∧ w'.cell? ⟨nb, 0, none⟩ = some (.int .i64 x.v) ∧ w'.cell? ⟨nb, 1, none⟩ = some (.int .i64 x.t.kind) ∧ w'.cell? ⟨nb, 2, none⟩ = some (.int .i64 x.t.num) ∧ w'.cell? ⟨nb, 3, none⟩ = some (.string x.t.name) ∧ w'.cell? ⟨nb, 4, none⟩ = some (.slice u1 x.t.args.length u2))) (by kernel_rfl) (by (try dsimp only); go_keep) (fun hHeld => ?_)
            (refine wpAnyH_take (i := 0) (oi := ⟨_, _, _, _, _, _⟩) (v := ?_) rfl (by kernel_rfl) (by kernel_rfl) (by kernel_rfl) (fun _ _ _ h => h) (Or.inl ⟨by rfl, ?_⟩) (by assumption) ?_; rotate_left; focus ((intro w' hSw; (try dsimp only at hSw); go_simp; (try with_reducible rfl)))); (try simp only [Act.put, List.setIfInBounds_toArray, List.set_cons_zero, List.set_cons_succ])
            (refine wpAnyH_take (i := 1) (oi := ⟨_, _, _, _, _, _⟩) (v := ?_) rfl (by kernel_rfl) (by kernel_rfl) (by kernel_rfl) (fun _ _ _ h => h) (Or.inl ⟨by rfl, ?_⟩) (by assumption) ?_; rotate_left; focus ((intro w' hSw; (try dsimp only at hSw); go_simp; (try with_reducible rfl)))); (try simp only [Act.put, List.setIfInBounds_toArray, List.set_cons_zero, List.set_cons_succ])
            (refine wpAnyH_take (i := 2) (oi := ⟨_, _, _, _, _, _⟩) (v := ?_) rfl (by kernel_rfl) (by kernel_rfl) (by kernel_rfl) (fun _ _ _ h => h) (Or.inl ⟨by rfl, ?_⟩) (by assumption) ?_; rotate_left; focus ((intro w' hSw; (try dsimp only at hSw); go_simp; (try with_reducible rfl)))); (try simp only [Act.put, List.setIfInBounds_toArray, List.set_cons_zero, List.set_cons_succ])
            (refine wpAnyH_take (i := 3) (oi := ⟨_, _, _, _, _, _⟩) (v := undef) rfl (by kernel_rfl) (by kernel_rfl) (by kernel_rfl) (fun _ _ _ h => h) (Or.inr ⟨by rfl, rfl⟩) (by assumption) ?_); (try simp only [Act.put, List.setIfInBounds_toArray, List.set_cons_zero, List.set_cons_succ])
            (refine wpAnyH_take (i := 4) (oi := ⟨_, _, _, _, _, _⟩) (v := undef) rfl (by kernel_rfl) (by kernel_rfl) (by kernel_rfl) (fun _ _ _ h => h) (Or.inr ⟨by rfl, rfl⟩) (by assumption) ?_); (try simp only [Act.put, List.setIfInBounds_toArray, List.set_cons_zero, List.set_cons_succ])
            (refine wpAnyH_take (i := 5) (oi := ⟨_, _, _, _, _, _⟩) (v := undef) rfl (by kernel_rfl) (by kernel_rfl) (by kernel_rfl) (fun _ _ _ h => h) (Or.inr ⟨by rfl, rfl⟩) (by assumption) ?_); (try simp only [Act.put, List.setIfInBounds_toArray, List.set_cons_zero, List.set_cons_succ])
            (refine wpAnyH_take (i := 6) (oi := ⟨_, _, _, _, _, _⟩) (v := undef) rfl (by kernel_rfl) (by kernel_rfl) (by kernel_rfl) (fun _ _ _ h => h) (Or.inr ⟨by rfl, rfl⟩) (by assumption) ?_); (try simp only [Act.put, List.setIfInBounds_toArray, List.set_cons_zero, List.set_cons_succ])
            (refine wpAnyH_take (i := 7) (oi := ⟨_, _, _, _, _, _⟩) (v := undef) rfl (by kernel_rfl) (by kernel_rfl) (by kernel_rfl) (fun _ _ _ h => h) (Or.inr ⟨by rfl, rfl⟩) (by assumption) ?_); (try simp only [Act.put, List.setIfInBounds_toArray, List.set_cons_zero, List.set_cons_succ])
            (refine wpAnyH_take (i := 8) (oi := ⟨_, _, _, _, _, _⟩) (v := undef) rfl (by kernel_rfl) (by kernel_rfl) (by kernel_rfl) (fun _ _ _ h => h) (Or.inr ⟨by rfl, rfl⟩) (by assumption) ?_); (try simp only [Act.put, List.setIfInBounds_toArray, List.set_cons_zero, List.set_cons_succ])
            (refine wpAnyH_take (i := 9) (oi := ⟨_, _, _, _, _, _⟩) (v := undef) rfl (by kernel_rfl) (by kernel_rfl) (by kernel_rfl) (fun _ _ _ h => h) (Or.inr ⟨by rfl, rfl⟩) (by assumption) ?_); (try simp only [Act.put, List.setIfInBounds_toArray, List.set_cons_zero, List.set_cons_succ])
            (refine wpAnyH_take (i := 10) (oi := ⟨_, _, _, _, _, _⟩) (v := undef) rfl (by kernel_rfl) (by kernel_rfl) (by kernel_rfl) (fun _ _ _ h => h) (Or.inr ⟨by rfl, rfl⟩) (by assumption) ?_); (try simp only [Act.put, List.setIfInBounds_toArray, List.set_cons_zero, List.set_cons_succ])
            (refine wpAnyH_take (i := 11) (oi := ⟨_, _, _, _, _, _⟩) (v := undef) rfl (by kernel_rfl) (by kernel_rfl) (by kernel_rfl) (fun _ _ _ h => h) (Or.inr ⟨by rfl, rfl⟩) (by assumption) ?_); (try simp only [Act.put, List.setIfInBounds_toArray, List.set_cons_zero, List.set_cons_succ])
            (refine wpAnyH_take (i := 12) (oi := ⟨_, _, _, _, _, _⟩) (v := ?_) rfl (by kernel_rfl) (by kernel_rfl) (by kernel_rfl) (fun _ _ _ h => h) (Or.inl ⟨by rfl, ?_⟩) (by assumption) ?_; rotate_left; focus ((intro w' hSw; (try dsimp only at hSw); go_simp; (try with_reducible rfl)))); (try simp only [Act.put, List.setIfInBounds_toArray, List.set_cons_zero, List.set_cons_succ])
            (refine wpAnyH_take (i := 13) (oi := ⟨_, _, _, _, _, _⟩) (v := ?_) rfl (by kernel_rfl) (by kernel_rfl) (by kernel_rfl) (fun _ _ _ h => h) (Or.inl ⟨by rfl, ?_⟩) (by assumption) ?_; rotate_left; focus ((intro w' hSw; (try dsimp only at hSw); go_simp; (try with_reducible rfl)))); (try simp only [Act.put, List.setIfInBounds_toArray, List.set_cons_zero, List.set_cons_succ])
            (refine wpAnyH_take (i := 14) (oi := ⟨_, _, _, _, _, _⟩) (v := ?_) rfl (by kernel_rfl) (by kernel_rfl) (by kernel_rfl) (fun _ _ _ h => h) (Or.inl ⟨by rfl, ?_⟩) (by assumption) ?_; rotate_left; focus ((intro w' hSw; (try dsimp only at hSw); go_simp; (try with_reducible rfl)))); (try simp only [Act.put, List.setIfInBounds_toArray, List.set_cons_zero, List.set_cons_succ])
            (refine wpAnyH_take (i := 15) (oi := ⟨_, _, _, _, _, _⟩) (v := ?_) rfl (by kernel_rfl) (by kernel_rfl) (by kernel_rfl) (fun _ _ _ h => h) (Or.inl ⟨by rfl, ?_⟩) (by assumption) ?_; rotate_left; focus ((intro w' hSw; (try dsimp only at hSw); go_simp; (try with_reducible rfl)))); (try simp only [Act.put, List.setIfInBounds_toArray, List.set_cons_zero, List.set_cons_succ])
            refine wpAnyH_ready (rs := [16]) (by kernel_rfl) (by simp) ?_
            refine AllReadyH.cons (o := ⟨_, _, _, _, _, _⟩) rfl (fun K hK => ?_) AllReadyH.nil
            go_simp
            (first | (go_at_call 62; (with_reducible refine Calls.mono (HIN.out _) ?_); rintro e w' ⟨rfl, rfl⟩) | (go_at_call 59; (with_reducible refine Calls.mono (HOK.out _ ?_) ?_); (assumption); rintro e w' ⟨rfl, hb⟩; have hB' := HTR.out _ _ (by assumption) hb; obtain ⟨k0, k1, k2, k3, k4⟩ := HCB.out _ hB'))
            (try go_wp2_with fail)
            refine hK.out _ _ (by (try dsimp only); (first | go_keep | (refine ⟨by assumption, ?_⟩; go_keep))) (fun hHeld => ?_)
            clear hK K
            (try simp only [Act.put, List.setIfInBounds_toArray, List.set_cons_zero, List.set_cons_succ])
            (refine wpAnyH_take (i := 17) (oi := ⟨_, _, _, _, _, _⟩) (v := ?_) rfl (by kernel_rfl) (by kernel_rfl) (by kernel_rfl) (fun _ _ _ h => h) (Or.inl ⟨by rfl, ?_⟩) (by assumption) ?_; rotate_left; focus ((intro w' hSw; (try dsimp only at hSw); go_simp; (try with_reducible rfl)))); (try simp only [Act.put, List.setIfInBounds_toArray, List.set_cons_zero, List.set_cons_succ])
            (refine wpAnyH_take (i := 18) (oi := ⟨_, _, _, _, _, _⟩) (v := ?_) rfl (by kernel_rfl) (by kernel_rfl) (by kernel_rfl) (fun _ _ _ h => h) (Or.inl ⟨by rfl, ?_⟩) (by assumption) ?_; rotate_left; focus ((intro w' hSw; (try dsimp only at hSw); go_simp; (try with_reducible rfl)))); (try simp only [Act.put, List.setIfInBounds_toArray, List.set_cons_zero, List.set_cons_succ])
            (refine wpAnyH_take (i := 19) (oi := ⟨_, _, _, _, _, _⟩) (v := ?_) rfl (by kernel_rfl) (by kernel_rfl) (by kernel_rfl) (fun _ _ _ h => h) (Or.inl ⟨by rfl, ?_⟩) (by assumption) ?_; rotate_left; focus ((intro w' hSw; (try dsimp only at hSw); go_simp; (try with_reducible rfl)))); (try simp only [Act.put, List.setIfInBounds_toArray, List.set_cons_zero, List.set_cons_succ])
            (refine wpAnyH_take (i := 20) (oi := ⟨_, _, _, _, _, _⟩) (v := ?_) rfl (by kernel_rfl) (by kernel_rfl) (by kernel_rfl) (fun _ _ _ h => h) (Or.inl ⟨by rfl, ?_⟩) (by assumption) ?_; rotate_left; focus ((intro w' hSw; (try dsimp only at hSw); go_simp; (try with_reducible rfl)))); (try simp only [Act.put, List.setIfInBounds_toArray, List.set_cons_zero, List.set_cons_succ])
            (refine wpAnyH_take (i := 21) (oi := ⟨_, _, _, _, _, _⟩) (v := ?_) rfl (by kernel_rfl) (by kernel_rfl) (by kernel_rfl) (fun _ _ _ h => h) (Or.inl ⟨by rfl, ?_⟩) (by assumption) ?_; rotate_left; focus ((intro w' hSw; (try dsimp only at hSw); go_simp; (try with_reducible rfl)))); (try simp only [Act.put, List.setIfInBounds_toArray, List.set_cons_zero, List.set_cons_succ])
            refine wpAnyH_ready (rs := [22]) (by kernel_rfl) (by simp) ?_
            refine AllReadyH.cons (o := ⟨_, _, _, _, _, _⟩) rfl (fun K hK => ?_) AllReadyH.nil
            go_simp
            (first | (go_at_call 62; (with_reducible refine Calls.mono (HIN.out _) ?_); rintro e w' ⟨rfl, rfl⟩) | (go_at_call 59; (with_reducible refine Calls.mono (HOK.out _ ?_) ?_); (assumption); rintro e w' ⟨rfl, hb⟩; have hB' := HTR.out _ _ (by assumption) hb; obtain ⟨k0, k1, k2, k3, k4⟩ := HCB.out _ hB'))
            (try go_wp2_with fail)
            refine hK.out _ _ (by (try dsimp only); (first | go_keep | (refine ⟨by assumption, ?_⟩; go_keep))) (fun hHeld => ?_)
            clear hK K
            (try simp only [Act.put, List.setIfInBounds_toArray, List.set_cons_zero, List.set_cons_succ])
            (refine wpAnyH_take (i := 23) (oi := ⟨_, _, _, _, _, _⟩) (v := ?_) rfl (by kernel_rfl) (by kernel_rfl) (by kernel_rfl) (fun _ _ _ h => h) (Or.inl ⟨by rfl, ?_⟩) (by assumption) ?_; rotate_left; focus ((intro w' hSw; (try dsimp only at hSw); go_simp; (try with_reducible rfl)))); (try simp only [Act.put, List.setIfInBounds_toArray, List.set_cons_zero, List.set_cons_succ])
            (refine wpAnyH_take (i := 24) (oi := ⟨_, _, _, _, _, _⟩) (v := ?_) rfl (by kernel_rfl) (by kernel_rfl) (by kernel_rfl) (fun _ _ _ h => h) (Or.inl ⟨by rfl, ?_⟩) (by assumption) ?_; rotate_left; focus ((intro w' hSw; (try dsimp only at hSw); go_simp; (try with_reducible rfl)))); (try simp only [Act.put, List.setIfInBounds_toArray, List.set_cons_zero, List.set_cons_succ])
            refine wpAnyH_done (by kernel_rfl) ?_ _
            go_wp2
            go_roundw
            case rel => exact ⟨k + 1, by omega, by go_num, HNX, Lib.hid (HEND.out _ (by assumption))⟩
            case measure => simp [intOf]; omega
      · obtain ⟨j, hj⟩ : ∃ j, k = j + 1 := ⟨k - 1, by omega⟩
        have g0 : decide ((0 : Int) < (k : Int)) = true := decide_eq_true (by omega)
        have g0n : decide (0 < k) = true := decide_eq_true (by omega)
        obtain ⟨y, hy⟩ : ∃ y, s[j]? = some y := ⟨_, List.getElem?_eq_getElem (by omega)⟩
        obtain ⟨g', off', v1, v2, he, _, _, hcy, _⟩ := HA.out.bd hy
        simp only [Option.some.injEq, Addr.mk.injEq, and_true] at he
        obtain ⟨rfl, rfl⟩ := he
        have HCY : Hid (∀ W, Below w1.heap.size w1 W → W.cell? ⟨g, off + j * 5, none⟩ = some (.int .i64 y.v)) := Lib.hid fun W hW => (hcy W (HEND.out W hW)).1
        have HY := Lib.hid hy
        have m0 : (0 : Int) ≤ (j : Int) := by omega
        have m1 : (j : Int) < (s.length : Int) := by omega
        have HKJ := Lib.hid hj
        have m2 : IntKind.i64.wrap ((k : Int) - 1) = (j : Int) := by rw [IntWalk.i64_in _ (by omega)]; omega
        have c0 := HCY.out w1 hself
        clear hcy hy hj hkz
        by_cases hd : y.v < x.v
        · have g1 : decide (x.v ≤ y.v) = false := decide_eq_false (by omega)
          have HLT := Lib.hid hd
          clear hd
          cases hin : inB x.v with
          | false =>
            have HF := Lib.hid (vp_bad HX.out (.inl hin))
            rw [hin] at HIN
            clear hin HOK HCC HA HU1 HV HBX HY HLT
            refine wp_region_held_drew (S := (fun w' => Below w1.heap.size w1 w' ∧ w'.cell? ⟨nb, 0, none⟩ = some (.int .i64 x.v) ∧ w'.cell? ⟨nb, 1, none⟩ = some (.int .i64 x.t.kind) ∧ w'.cell? ⟨nb, 2, none⟩ = some (.int .i64 x.t.num) ∧ w'.cell? ⟨nb, 3, none⟩ = some (.string x.t.name) ∧ w'.cell? ⟨nb, 4, none⟩ = some (.slice u1 x.t.args.length u2) ∧ w'.cell? ⟨g, off + j * 5, none⟩ = some (.int .i64 y.v))) (by kernel_rfl) (by (try dsimp only); go_keep) (fun hHeld => ?_)
            (refine wpAnyH_take (i := 0) (oi := ⟨_, _, _, _, _, _⟩) (v := ?_) rfl (by kernel_rfl) (by kernel_rfl) (by kernel_rfl) (fun _ _ _ h => h) (Or.inl ⟨by rfl, ?_⟩) (by assumption) ?_; rotate_left; focus ((intro w' hSw; (try dsimp only at hSw); go_simp; (try with_reducible rfl)))); (try simp only [Act.put, List.setIfInBounds_toArray, List.set_cons_zero, List.set_cons_succ])
            (refine wpAnyH_take (i := 1) (oi := ⟨_, _, _, _, _, _⟩) (v := ?_) rfl (by kernel_rfl) (by kernel_rfl) (by kernel_rfl) (fun _ _ _ h => h) (Or.inl ⟨by rfl, ?_⟩) (by assumption) ?_; rotate_left; focus ((intro w' hSw; (try dsimp only at hSw); go_simp; (try with_reducible rfl)))); (try simp only [Act.put, List.setIfInBounds_toArray, List.set_cons_zero, List.set_cons_succ])
            (refine wpAnyH_take (i := 2) (oi := ⟨_, _, _, _, _, _⟩) (v := ?_) rfl (by kernel_rfl) (by kernel_rfl) (by kernel_rfl) (fun _ _ _ h => h) (Or.inl ⟨by rfl, ?_⟩) (by assumption) ?_; rotate_left; focus ((intro w' hSw; (try dsimp only at hSw); go_simp; (try with_reducible rfl)))); (try simp only [Act.put, List.setIfInBounds_toArray, List.set_cons_zero, List.set_cons_succ])
            (refine wpAnyH_take (i := 3) (oi := ⟨_, _, _, _, _, _⟩) (v := ?_) rfl (by kernel_rfl) (by kernel_rfl) (by kernel_rfl) (fun _ _ _ h => h) (Or.inl ⟨by rfl, ?_⟩) (by assumption) ?_; rotate_left; focus ((intro w' hSw; (try dsimp only at hSw); go_simp; (try with_reducible rfl)))); (try simp only [Act.put, List.setIfInBounds_toArray, List.set_cons_zero, List.set_cons_succ])
            (refine wpAnyH_take (i := 4) (oi := ⟨_, _, _, _, _, _⟩) (v := ?_) rfl (by kernel_rfl) (by kernel_rfl) (by kernel_rfl) (fun _ _ _ h => h) (Or.inl ⟨by rfl, ?_⟩) (by assumption) ?_; rotate_left; focus ((intro w' hSw; (try dsimp only at hSw); go_simp; (try with_reducible rfl)))); (try simp only [Act.put, List.setIfInBounds_toArray, List.set_cons_zero, List.set_cons_succ])
            (refine wpAnyH_take (i := 5) (oi := ⟨_, _, _, _, _, _⟩) (v := ?_) rfl (by kernel_rfl) (by kernel_rfl) (by kernel_rfl) (fun _ _ _ h => h) (Or.inl ⟨by rfl, ?_⟩) (by assumption) ?_; rotate_left; focus ((intro w' hSw; (try dsimp only at hSw); go_simp; (try with_reducible rfl)))); (try simp only [Act.put, List.setIfInBounds_toArray, List.set_cons_zero, List.set_cons_succ])
            (refine wpAnyH_take (i := 6) (oi := ⟨_, _, _, _, _, _⟩) (v := ?_) rfl (by kernel_rfl) (by kernel_rfl) (by kernel_rfl) (fun _ _ _ h => h) (Or.inl ⟨by rfl, ?_⟩) (by assumption) ?_; rotate_left; focus ((intro w' hSw; (try dsimp only at hSw); go_simp; (try with_reducible rfl)))); (try simp only [Act.put, List.setIfInBounds_toArray, List.set_cons_zero, List.set_cons_succ])
            (refine wpAnyH_take (i := 7) (oi := ⟨_, _, _, _, _, _⟩) (v := ?_) rfl (by kernel_rfl) (by kernel_rfl) (by kernel_rfl) (fun _ _ _ h => h) (Or.inl ⟨by rfl, ?_⟩) (by assumption) ?_; rotate_left; focus ((intro w' hSw; (try dsimp only at hSw); go_simp; (try with_reducible rfl)))); (try simp only [Act.put, List.setIfInBounds_toArray, List.set_cons_zero, List.set_cons_succ])
            (refine wpAnyH_take (i := 8) (oi := ⟨_, _, _, _, _, _⟩) (v := ?_) rfl (by kernel_rfl) (by kernel_rfl) (by kernel_rfl) (fun _ _ _ h => h) (Or.inl ⟨by rfl, ?_⟩) (by assumption) ?_; rotate_left; focus ((intro w' hSw; (try dsimp only at hSw); go_simp; (try with_reducible rfl)))); (try simp only [Act.put, List.setIfInBounds_toArray, List.set_cons_zero, List.set_cons_succ])
            (refine wpAnyH_take (i := 9) (oi := ⟨_, _, _, _, _, _⟩) (v := ?_) rfl (by kernel_rfl) (by kernel_rfl) (by kernel_rfl) (fun _ _ _ h => h) (Or.inl ⟨by rfl, ?_⟩) (by assumption) ?_; rotate_left; focus ((intro w' hSw; (try dsimp only at hSw); go_simp; (try with_reducible rfl)))); (try simp only [Act.put, List.setIfInBounds_toArray, List.set_cons_zero, List.set_cons_succ])
            (refine wpAnyH_take (i := 10) (oi := ⟨_, _, _, _, _, _⟩) (v := ?_) rfl (by kernel_rfl) (by kernel_rfl) (by kernel_rfl) (fun _ _ _ h => h) (Or.inl ⟨by rfl, ?_⟩) (by assumption) ?_; rotate_left; focus ((intro w' hSw; (try dsimp only at hSw); go_simp; (try with_reducible rfl)))); (try simp only [Act.put, List.setIfInBounds_toArray, List.set_cons_zero, List.set_cons_succ])
            (refine wpAnyH_take (i := 11) (oi := ⟨_, _, _, _, _, _⟩) (v := ?_) rfl (by kernel_rfl) (by kernel_rfl) (by kernel_rfl) (fun _ _ _ h => h) (Or.inl ⟨by rfl, ?_⟩) (by assumption) ?_; rotate_left; focus ((intro w' hSw; (try dsimp only at hSw); go_simp; (try with_reducible rfl)))); (try simp only [Act.put, List.setIfInBounds_toArray, List.set_cons_zero, List.set_cons_succ])
            (refine wpAnyH_take (i := 12) (oi := ⟨_, _, _, _, _, _⟩) (v := ?_) rfl (by kernel_rfl) (by kernel_rfl) (by kernel_rfl) (fun _ _ _ h => h) (Or.inl ⟨by rfl, ?_⟩) (by assumption) ?_; rotate_left; focus ((intro w' hSw; (try dsimp only at hSw); go_simp; (try with_reducible rfl)))); (try simp only [Act.put, List.setIfInBounds_toArray, List.set_cons_zero, List.set_cons_succ])
            (refine wpAnyH_take (i := 13) (oi := ⟨_, _, _, _, _, _⟩) (v := ?_) rfl (by kernel_rfl) (by kernel_rfl) (by kernel_rfl) (fun _ _ _ h => h) (Or.inl ⟨by rfl, ?_⟩) (by assumption) ?_; rotate_left; focus ((intro w' hSw; (try dsimp only at hSw); go_simp; (try with_reducible rfl)))); (try simp only [Act.put, List.setIfInBounds_toArray, List.set_cons_zero, List.set_cons_succ])
            (refine wpAnyH_take (i := 14) (oi := ⟨_, _, _, _, _, _⟩) (v := ?_) rfl (by kernel_rfl) (by kernel_rfl) (by kernel_rfl) (fun _ _ _ h => h) (Or.inl ⟨by rfl, ?_⟩) (by assumption) ?_; rotate_left; focus ((intro w' hSw; (try dsimp only at hSw); go_simp; (try with_reducible rfl)))); (try simp only [Act.put, List.setIfInBounds_toArray, List.set_cons_zero, List.set_cons_succ])
            (refine wpAnyH_take (i := 15) (oi := ⟨_, _, _, _, _, _⟩) (v := ?_) rfl (by kernel_rfl) (by kernel_rfl) (by kernel_rfl) (fun _ _ _ h => h) (Or.inl ⟨by rfl, ?_⟩) (by assumption) ?_; rotate_left; focus ((intro w' hSw; (try dsimp only at hSw); go_simp; (try with_reducible rfl)))); (try simp only [Act.put, List.setIfInBounds_toArray, List.set_cons_zero, List.set_cons_succ])
            refine wpAnyH_ready (rs := [16]) (by kernel_rfl) (by simp) ?_
            refine AllReadyH.cons (o := ⟨_, _, _, _, _, _⟩) rfl (fun K hK => ?_) AllReadyH.nil
            go_simp
            (first | (go_at_call 62; (with_reducible refine Calls.mono (HIN.out _) ?_); rintro e w' ⟨rfl, rfl⟩) | (go_at_call 59; (with_reducible refine Calls.mono (HOK.out _ ?_) ?_); (assumption); rintro e w' ⟨rfl, hb⟩; have hB' := HTR.out _ _ (by assumption) hb; obtain ⟨k0, k1, k2, k3, k4⟩ := HCB.out _ hB'; have c0 := HCY.out _ hB'))
            (try go_wp2_with fail)
            refine hK.out _ _ (by (try dsimp only); (first | go_keep | (refine ⟨by assumption, ?_⟩; go_keep))) (fun hHeld => ?_)
            clear hK K
            (try simp only [Act.put, List.setIfInBounds_toArray, List.set_cons_zero, List.set_cons_succ])
            (refine wpAnyH_take (i := 17) (oi := ⟨_, _, _, _, _, _⟩) (v := ?_) rfl (by kernel_rfl) (by kernel_rfl) (by kernel_rfl) (fun _ _ _ h => h) (Or.inl ⟨by rfl, ?_⟩) (by assumption) ?_; rotate_left; focus ((intro w' hSw; (try dsimp only at hSw); go_simp; (try with_reducible rfl)))); (try simp only [Act.put, List.setIfInBounds_toArray, List.set_cons_zero, List.set_cons_succ])
            (refine wpAnyH_take (i := 18) (oi := ⟨_, _, _, _, _, _⟩) (v := ?_) rfl (by kernel_rfl) (by kernel_rfl) (by kernel_rfl) (fun _ _ _ h => h) (Or.inl ⟨by rfl, ?_⟩) (by assumption) ?_; rotate_left; focus ((intro w' hSw; (try dsimp only at hSw); go_simp; (try with_reducible rfl)))); (try simp only [Act.put, List.setIfInBounds_toArray, List.set_cons_zero, List.set_cons_succ])
            (refine wpAnyH_take (i := 19) (oi := ⟨_, _, _, _, _, _⟩) (v := ?_) rfl (by kernel_rfl) (by kernel_rfl) (by kernel_rfl) (fun _ _ _ h => h) (Or.inl ⟨by rfl, ?_⟩) (by assumption) ?_; rotate_left; focus ((intro w' hSw; (try dsimp only at hSw); go_simp; (try with_reducible rfl)))); (try simp only [Act.put, List.setIfInBounds_toArray, List.set_cons_zero, List.set_cons_succ])
            (refine wpAnyH_take (i := 20) (oi := ⟨_, _, _, _, _, _⟩) (v := undef) rfl (by kernel_rfl) (by kernel_rfl) (by kernel_rfl) (fun _ _ _ h => h) (Or.inr ⟨by rfl, rfl⟩) (by assumption) ?_); (try simp only [Act.put, List.setIfInBounds_toArray, List.set_cons_zero, List.set_cons_succ])
            (refine wpAnyH_take (i := 21) (oi := ⟨_, _, _, _, _, _⟩) (v := undef) rfl (by kernel_rfl) (by kernel_rfl) (by kernel_rfl) (fun _ _ _ h => h) (Or.inr ⟨by rfl, rfl⟩) (by assumption) ?_); (try simp only [Act.put, List.setIfInBounds_toArray, List.set_cons_zero, List.set_cons_succ])
            (refine wpAnyH_take (i := 22) (oi := ⟨_, _, _, _, _, _⟩) (v := undef) rfl (by kernel_rfl) (by kernel_rfl) (by kernel_rfl) (fun _ _ _ h => h) (Or.inr ⟨by rfl, rfl⟩) (by assumption) ?_); (try simp only [Act.put, List.setIfInBounds_toArray, List.set_cons_zero, List.set_cons_succ])
            (refine wpAnyH_take (i := 23) (oi := ⟨_, _, _, _, _, _⟩) (v := undef) rfl (by kernel_rfl) (by kernel_rfl) (by kernel_rfl) (fun _ _ _ h => h) (Or.inr ⟨by rfl, rfl⟩) (by assumption) ?_); (try simp only [Act.put, List.setIfInBounds_toArray, List.set_cons_zero, List.set_cons_succ])
            (refine wpAnyH_take (i := 24) (oi := ⟨_, _, _, _, _, _⟩) (v := ?_) rfl (by kernel_rfl) (by kernel_rfl) (by kernel_rfl) (fun _ _ _ h => h) (Or.inl ⟨by rfl, ?_⟩) (by assumption) ?_; rotate_left; focus ((intro w' hSw; (try dsimp only at hSw); go_simp; (try with_reducible rfl)))); (try simp only [Act.put, List.setIfInBounds_toArray, List.set_cons_zero, List.set_cons_succ])
            refine wpAnyH_done (by kernel_rfl) ?_ _
            go_wp2
            go_ret
            exact ⟨by rw [HF.out]; rfl, HEND.out _ (by assumption)⟩
          | true =>
            cases hok : okB x.t with
            | false =>
              have HF := Lib.hid (vp_bad HX.out (.inr hok))
              rw [hin] at HIN
              rw [hok] at HOK
              clear hin hok HCC HA HU1 HV HBX HY HLT
              refine wp_region_held_drew (S := (fun w' => Below w1.heap.size w1 w' ∧ w'.cell? ⟨nb, 0, none⟩ = some (.int .i64 x.v) ∧ w'.cell? ⟨nb, 1, none⟩ = some (.int .i64 x.t.kind) ∧ w'.cell? ⟨nb, 2, none⟩ = some (.int .i64 x.t.num) ∧ w'.cell? ⟨nb, 3, none⟩ = some (.string x.t.name) ∧ w'.cell? ⟨nb, 4, none⟩ = some (.slice u1 x.t.args.length u2) ∧ w'.cell? ⟨g, off + j * 5, none⟩ = some (.int .i64 y.v))) (by kernel_rfl) (by (try dsimp only); go_keep) (fun hHeld => ?_)
              (refine wpAnyH_take (i := 0) (oi := ⟨_, _, _, _, _, _⟩) (v := ?_) rfl (by kernel_rfl) (by kernel_rfl) (by kernel_rfl) (fun _ _ _ h => h) (Or.inl ⟨by rfl, ?_⟩) (by assumption) ?_; rotate_left; focus ((intro w' hSw; (try dsimp only at hSw); go_simp; (try with_reducible rfl)))); (try simp only [Act.put, List.setIfInBounds_toArray, List.set_cons_zero, List.set_cons_succ])
              (refine wpAnyH_take (i := 1) (oi := ⟨_, _, _, _, _, _⟩) (v := ?_) rfl (by kernel_rfl) (by kernel_rfl) (by kernel_rfl) (fun _ _ _ h => h) (Or.inl ⟨by rfl, ?_⟩) (by assumption) ?_; rotate_left; focus ((intro w' hSw; (try dsimp only at hSw); go_simp; (try with_reducible rfl)))); (try simp only [Act.put, List.setIfInBounds_toArray, List.set_cons_zero, List.set_cons_succ])
              (refine wpAnyH_take (i := 2) (oi := ⟨_, _, _, _, _, _⟩) (v := ?_) rfl (by kernel_rfl) (by kernel_rfl) (by kernel_rfl) (fun _ _ _ h => h) (Or.inl ⟨by rfl, ?_⟩) (by assumption) ?_; rotate_left; focus ((intro w' hSw; (try dsimp only at hSw); go_simp; (try with_reducible rfl)))); (try simp only [Act.put, List.setIfInBounds_toArray, List.set_cons_zero, List.set_cons_succ])
              (refine wpAnyH_take (i := 3) (oi := ⟨_, _, _, _, _, _⟩) (v := ?_) rfl (by kernel_rfl) (by kernel_rfl) (by kernel_rfl) (fun _ _ _ h => h) (Or.inl ⟨by rfl, ?_⟩) (by assumption) ?_; rotate_left; focus ((intro w' hSw; (try dsimp only at hSw); go_simp; (try with_reducible rfl)))); (try simp only [Act.put, List.setIfInBounds_toArray, List.set_cons_zero, List.set_cons_succ])
              (refine wpAnyH_take (i := 4) (oi := ⟨_, _, _, _, _, _⟩) (v := ?_) rfl (by kernel_rfl) (by kernel_rfl) (by kernel_rfl) (fun _ _ _ h => h) (Or.inl ⟨by rfl, ?_⟩) (by assumption) ?_; rotate_left; focus ((intro w' hSw; (try dsimp only at hSw); go_simp; (try with_reducible rfl)))); (try simp only [Act.put, List.setIfInBounds_toArray, List.set_cons_zero, List.set_cons_succ])
              (refine wpAnyH_take (i := 5) (oi := ⟨_, _, _, _, _, _⟩) (v := ?_) rfl (by kernel_rfl) (by kernel_rfl) (by kernel_rfl) (fun _ _ _ h => h) (Or.inl ⟨by rfl, ?_⟩) (by assumption) ?_; rotate_left; focus ((intro w' hSw; (try dsimp only at hSw); go_simp; (try with_reducible rfl)))); (try simp only [Act.put, List.setIfInBounds_toArray, List.set_cons_zero, List.set_cons_succ])
              (refine wpAnyH_take (i := 6) (oi := ⟨_, _, _, _, _, _⟩) (v := ?_) rfl (by kernel_rfl) (by kernel_rfl) (by kernel_rfl) (fun _ _ _ h => h) (Or.inl ⟨by rfl, ?_⟩) (by assumption) ?_; rotate_left; focus ((intro w' hSw; (try dsimp only at hSw); go_simp; (try with_reducible rfl)))); (try simp only [Act.put, List.setIfInBounds_toArray, List.set_cons_zero, List.set_cons_succ])
              (refine wpAnyH_take (i := 7) (oi := ⟨_, _, _, _, _, _⟩) (v := ?_) rfl (by kernel_rfl) (by kernel_rfl) (by kernel_rfl) (fun _ _ _ h => h) (Or.inl ⟨by rfl, ?_⟩) (by assumption) ?_; rotate_left; focus ((intro w' hSw; (try dsimp only at hSw); go_simp; (try with_reducible rfl)))); (try simp only [Act.put, List.setIfInBounds_toArray, List.set_cons_zero, List.set_cons_succ])
              (refine wpAnyH_take (i := 8) (oi := ⟨_, _, _, _, _, _⟩) (v := ?_) rfl (by kernel_rfl) (by kernel_rfl) (by kernel_rfl) (fun _ _ _ h => h) (Or.inl ⟨by rfl, ?_⟩) (by assumption) ?_; rotate_left; focus ((intro w' hSw; (try dsimp only at hSw); go_simp; (try with_reducible rfl)))); (try simp only [Act.put, List.setIfInBounds_toArray, List.set_cons_zero, List.set_cons_succ])
              (refine wpAnyH_take (i := 9) (oi := ⟨_, _, _, _, _, _⟩) (v := ?_) rfl (by kernel_rfl) (by kernel_rfl) (by kernel_rfl) (fun _ _ _ h => h) (Or.inl ⟨by rfl, ?_⟩) (by assumption) ?_; rotate_left; focus ((intro w' hSw; (try dsimp only at hSw); go_simp; (try with_reducible rfl)))); (try simp only [Act.put, List.setIfInBounds_toArray, List.set_cons_zero, List.set_cons_succ])
              (refine wpAnyH_take (i := 10) (oi := ⟨_, _, _, _, _, _⟩) (v := ?_) rfl (by kernel_rfl) (by kernel_rfl) (by kernel_rfl) (fun _ _ _ h => h) (Or.inl ⟨by rfl, ?_⟩) (by assumption) ?_; rotate_left; focus ((intro w' hSw; (try dsimp only at hSw); go_simp; (try with_reducible rfl)))); (try simp only [Act.put, List.setIfInBounds_toArray, List.set_cons_zero, List.set_cons_succ])
              (refine wpAnyH_take (i := 11) (oi := ⟨_, _, _, _, _, _⟩) (v := ?_) rfl (by kernel_rfl) (by kernel_rfl) (by kernel_rfl) (fun _ _ _ h => h) (Or.inl ⟨by rfl, ?_⟩) (by assumption) ?_; rotate_left; focus ((intro w' hSw; (try dsimp only at hSw); go_simp; (try with_reducible rfl)))); (try simp only [Act.put, List.setIfInBounds_toArray, List.set_cons_zero, List.set_cons_succ])
              (refine wpAnyH_take (i := 12) (oi := ⟨_, _, _, _, _, _⟩) (v := ?_) rfl (by kernel_rfl) (by kernel_rfl) (by kernel_rfl) (fun _ _ _ h => h) (Or.inl ⟨by rfl, ?_⟩) (by assumption) ?_; rotate_left; focus ((intro w' hSw; (try dsimp only at hSw); go_simp; (try with_reducible rfl)))); (try simp only [Act.put, List.setIfInBounds_toArray, List.set_cons_zero, List.set_cons_succ])
              (refine wpAnyH_take (i := 13) (oi := ⟨_, _, _, _, _, _⟩) (v := ?_) rfl (by kernel_rfl) (by kernel_rfl) (by kernel_rfl) (fun _ _ _ h => h) (Or.inl ⟨by rfl, ?_⟩) (by assumption) ?_; rotate_left; focus ((intro w' hSw; (try dsimp only at hSw); go_simp; (try with_reducible rfl)))); (try simp only [Act.put, List.setIfInBounds_toArray, List.set_cons_zero, List.set_cons_succ])
              (refine wpAnyH_take (i := 14) (oi := ⟨_, _, _, _, _, _⟩) (v := ?_) rfl (by kernel_rfl) (by kernel_rfl) (by kernel_rfl) (fun _ _ _ h => h) (Or.inl ⟨by rfl, ?_⟩) (by assumption) ?_; rotate_left; focus ((intro w' hSw; (try dsimp only at hSw); go_simp; (try with_reducible rfl)))); (try simp only [Act.put, List.setIfInBounds_toArray, List.set_cons_zero, List.set_cons_succ])
              (refine wpAnyH_take (i := 15) (oi := ⟨_, _, _, _, _, _⟩) (v := ?_) rfl (by kernel_rfl) (by kernel_rfl) (by kernel_rfl) (fun _ _ _ h => h) (Or.inl ⟨by rfl, ?_⟩) (by assumption) ?_; rotate_left; focus ((intro w' hSw; (try dsimp only at hSw); go_simp; (try with_reducible rfl)))); (try simp only [Act.put, List.setIfInBounds_toArray, List.set_cons_zero, List.set_cons_succ])
              refine wpAnyH_ready (rs := [16]) (by kernel_rfl) (by simp) ?_
              refine AllReadyH.cons (o := ⟨_, _, _, _, _, _⟩) rfl (fun K hK => ?_) AllReadyH.nil
              go_simp
              (first | (go_at_call 62; (with_reducible refine Calls.mono (HIN.out _) ?_); rintro e w' ⟨rfl, rfl⟩) | (go_at_call 59; (with_reducible refine Calls.mono (HOK.out _ ?_) ?_); (assumption); rintro e w' ⟨rfl, hb⟩; have hB' := HTR.out _ _ (by assumption) hb; obtain ⟨k0, k1, k2, k3, k4⟩ := HCB.out _ hB'; have c0 := HCY.out _ hB'))
              (try go_wp2_with fail)
              refine hK.out _ _ (by (try dsimp only); (first | go_keep | (refine ⟨by assumption, ?_⟩; go_keep))) (fun hHeld => ?_)
              clear hK K
              (try simp only [Act.put, List.setIfInBounds_toArray, List.set_cons_zero, List.set_cons_succ])
              (refine wpAnyH_take (i := 17) (oi := ⟨_, _, _, _, _, _⟩) (v := ?_) rfl (by kernel_rfl) (by kernel_rfl) (by kernel_rfl) (fun _ _ _ h => h) (Or.inl ⟨by rfl, ?_⟩) (by assumption) ?_; rotate_left; focus ((intro w' hSw; (try dsimp only at hSw); go_simp; (try with_reducible rfl)))); (try simp only [Act.put, List.setIfInBounds_toArray, List.set_cons_zero, List.set_cons_succ])
              (refine wpAnyH_take (i := 18) (oi := ⟨_, _, _, _, _, _⟩) (v := ?_) rfl (by kernel_rfl) (by kernel_rfl) (by kernel_rfl) (fun _ _ _ h => h) (Or.inl ⟨by rfl, ?_⟩) (by assumption) ?_; rotate_left; focus ((intro w' hSw; (try dsimp only at hSw); go_simp; (try with_reducible rfl)))); (try simp only [Act.put, List.setIfInBounds_toArray, List.set_cons_zero, List.set_cons_succ])
              (refine wpAnyH_take (i := 19) (oi := ⟨_, _, _, _, _, _⟩) (v := ?_) rfl (by kernel_rfl) (by kernel_rfl) (by kernel_rfl) (fun _ _ _ h => h) (Or.inl ⟨by rfl, ?_⟩) (by assumption) ?_; rotate_left; focus ((intro w' hSw; (try dsimp only at hSw); go_simp; (try with_reducible rfl)))); (try simp only [Act.put, List.setIfInBounds_toArray, List.set_cons_zero, List.set_cons_succ])
              (refine wpAnyH_take (i := 20) (oi := ⟨_, _, _, _, _, _⟩) (v := ?_) rfl (by kernel_rfl) (by kernel_rfl) (by kernel_rfl) (fun _ _ _ h => h) (Or.inl ⟨by rfl, ?_⟩) (by assumption) ?_; rotate_left; focus ((intro w' hSw; (try dsimp only at hSw); go_simp; (try with_reducible rfl)))); (try simp only [Act.put, List.setIfInBounds_toArray, List.set_cons_zero, List.set_cons_succ])
              (refine wpAnyH_take (i := 21) (oi := ⟨_, _, _, _, _, _⟩) (v := ?_) rfl (by kernel_rfl) (by kernel_rfl) (by kernel_rfl) (fun _ _ _ h => h) (Or.inl ⟨by rfl, ?_⟩) (by assumption) ?_; rotate_left; focus ((intro w' hSw; (try dsimp only at hSw); go_simp; (try with_reducible rfl)))); (try simp only [Act.put, List.setIfInBounds_toArray, List.set_cons_zero, List.set_cons_succ])
              refine wpAnyH_ready (rs := [22]) (by kernel_rfl) (by simp) ?_
              refine AllReadyH.cons (o := ⟨_, _, _, _, _, _⟩) rfl (fun K hK => ?_) AllReadyH.nil
              go_simp
              (first | (go_at_call 62; (with_reducible refine Calls.mono (HIN.out _) ?_); rintro e w' ⟨rfl, rfl⟩) | (go_at_call 59; (with_reducible refine Calls.mono (HOK.out _ ?_) ?_); (assumption); rintro e w' ⟨rfl, hb⟩; have hB' := HTR.out _ _ (by assumption) hb; obtain ⟨k0, k1, k2, k3, k4⟩ := HCB.out _ hB'; have c0 := HCY.out _ hB'))
              (try go_wp2_with fail)
              refine hK.out _ _ (by (try dsimp only); (first | go_keep | (refine ⟨by assumption, ?_⟩; go_keep))) (fun hHeld => ?_)
              clear hK K
              (try simp only [Act.put, List.setIfInBounds_toArray, List.set_cons_zero, List.set_cons_succ])
              (refine wpAnyH_take (i := 23) (oi := ⟨_, _, _, _, _, _⟩) (v := ?_) rfl (by kernel_rfl) (by kernel_rfl) (by kernel_rfl) (fun _ _ _ h => h) (Or.inl ⟨by rfl, ?_⟩) (by assumption) ?_; rotate_left; focus ((intro w' hSw; (try dsimp only at hSw); go_simp; (try with_reducible rfl)))); (try simp only [Act.put, List.setIfInBounds_toArray, List.set_cons_zero, List.set_cons_succ])
              (refine wpAnyH_take (i := 24) (oi := ⟨_, _, _, _, _, _⟩) (v := ?_) rfl (by kernel_rfl) (by kernel_rfl) (by kernel_rfl) (fun _ _ _ h => h) (Or.inl ⟨by rfl, ?_⟩) (by assumption) ?_; rotate_left; focus ((intro w' hSw; (try dsimp only at hSw); go_simp; (try with_reducible rfl)))); (try simp only [Act.put, List.setIfInBounds_toArray, List.set_cons_zero, List.set_cons_succ])
              refine wpAnyH_done (by kernel_rfl) ?_ _
              go_wp2
              go_ret
              exact ⟨by rw [HF.out]; rfl, HEND.out _ (by assumption)⟩
            | true =>
              have HNX := Lib.hid (vp_next HV.out HX.out hin hok (fun j' y' e hy => by (obtain rfl : j' = j := (by have := HKJ.out; omega)); cases hy.symm.trans HY.out; exact HLT.out))
              rw [hin] at HIN
              rw [hok] at HOK
              clear hin hok HCC HU1 HV HBX HY HLT
              refine wp_region_held_drew (S := (fun w' => Below w1.heap.size w1 w' ∧ w'.cell? ⟨nb, 0, none⟩ = some (.int .i64 x.v) ∧ w'.cell? ⟨nb, 1, none⟩ = some (.int .i64 x.t.kind) ∧ w'.cell? ⟨nb, 2, none⟩ = some (.int .i64 x.t.num) ∧ w'.cell? ⟨nb, 3, none⟩ = some (.string x.t.name) ∧ w'.cell? ⟨nb, 4, none⟩ = some (.slice u1 x.t.args.length u2) ∧ w'.cell? ⟨g, off + j * 5, none⟩ = some (.int .i64 y.v))) (by kernel_rfl) (by (try dsimp only); go_keep) (fun hHeld => ?_)
              (refine wpAnyH_take (i := 0) (oi := ⟨_, _, _, _, _, _⟩) (v := ?_) rfl (by kernel_rfl) (by kernel_rfl) (by kernel_rfl) (fun _ _ _ h => h) (Or.inl ⟨by rfl, ?_⟩) (by assumption) ?_; rotate_left; focus ((intro w' hSw; (try dsimp only at hSw); go_simp; (try with_reducible rfl)))); (try simp only [Act.put, List.setIfInBounds_toArray, List.set_cons_zero, List.set_cons_succ])
              (refine wpAnyH_take (i := 1) (oi := ⟨_, _, _, _, _, _⟩) (v := ?_) rfl (by kernel_rfl) (by kernel_rfl) (by kernel_rfl) (fun _ _ _ h => h) (Or.inl ⟨by rfl, ?_⟩) (by assumption) ?_; rotate_left; focus ((intro w' hSw; (try dsimp only at hSw); go_simp; (try with_reducible rfl)))); (try simp only [Act.put, List.setIfInBounds_toArray, List.set_cons_zero, List.set_cons_succ])
              (refine wpAnyH_take (i := 2) (oi := ⟨_, _, _, _, _, _⟩) (v := ?_) rfl (by kernel_rfl) (by kernel_rfl) (by kernel_rfl) (fun _ _ _ h => h) (Or.inl ⟨by rfl, ?_⟩) (by assumption) ?_; rotate_left; focus ((intro w' hSw; (try dsimp only at hSw); go_simp; (try with_reducible rfl)))); (try simp only [Act.put, List.setIfInBounds_toArray, List.set_cons_zero, List.set_cons_succ])
              (refine wpAnyH_take (i := 3) (oi := ⟨_, _, _, _, _, _⟩) (v := ?_) rfl (by kernel_rfl) (by kernel_rfl) (by kernel_rfl) (fun _ _ _ h => h) (Or.inl ⟨by rfl, ?_⟩) (by assumption) ?_; rotate_left; focus ((intro w' hSw; (try dsimp only at hSw); go_simp; (try with_reducible rfl)))); (try simp only [Act.put, List.setIfInBounds_toArray, List.set_cons_zero, List.set_cons_succ])
              (refine wpAnyH_take (i := 4) (oi := ⟨_, _, _, _, _, _⟩) (v := ?_) rfl (by kernel_rfl) (by kernel_rfl) (by kernel_rfl) (fun _ _ _ h => h) (Or.inl ⟨by rfl, ?_⟩) (by assumption) ?_; rotate_left; focus ((intro w' hSw; (try dsimp only at hSw); go_simp; (try with_reducible rfl)))); (try simp only [Act.put, List.setIfInBounds_toArray, List.set_cons_zero, List.set_cons_succ])
              (refine wpAnyH_take (i := 5) (oi := ⟨_, _, _, _, _, _⟩) (v := ?_) rfl (by kernel_rfl) (by kernel_rfl) (by kernel_rfl) (fun _ _ _ h => h) (Or.inl ⟨by rfl, ?_⟩) (by assumption) ?_; rotate_left; focus ((intro w' hSw; (try dsimp only at hSw); go_simp; (try with_reducible rfl)))); (try simp only [Act.put, List.setIfInBounds_toArray, List.set_cons_zero, List.set_cons_succ])
              (refine wpAnyH_take (i := 6) (oi := ⟨_, _, _, _, _, _⟩) (v := ?_) rfl (by kernel_rfl) (by kernel_rfl) (by kernel_rfl) (fun _ _ _ h => h) (Or.inl ⟨by rfl, ?_⟩) (by assumption) ?_; rotate_left; focus ((intro w' hSw; (try dsimp only at hSw); go_simp; (try with_reducible rfl)))); (try simp only [Act.put, List.setIfInBounds_toArray, List.set_cons_zero, List.set_cons_succ])
              (refine wpAnyH_take (i := 7) (oi := ⟨_, _, _, _, _, _⟩) (v := ?_) rfl (by kernel_rfl) (by kernel_rfl) (by kernel_rfl) (fun _ _ _ h => h) (Or.inl ⟨by rfl, ?_⟩) (by assumption) ?_; rotate_left; focus ((intro w' hSw; (try dsimp only at hSw); go_simp; (try with_reducible rfl)))); (try simp only [Act.put, List.setIfInBounds_toArray, List.set_cons_zero, List.set_cons_succ])
              (refine wpAnyH_take (i := 8) (oi := ⟨_, _, _, _, _, _⟩) (v := ?_) rfl (by kernel_rfl) (by kernel_rfl) (by kernel_rfl) (fun _ _ _ h => h) (Or.inl ⟨by rfl, ?_⟩) (by assumption) ?_; rotate_left; focus ((intro w' hSw; (try dsimp only at hSw); go_simp; (try with_reducible rfl)))); (try simp only [Act.put, List.setIfInBounds_toArray, List.set_cons_zero, List.set_cons_succ])
              (refine wpAnyH_take (i := 9) (oi := ⟨_, _, _, _, _, _⟩) (v := ?_) rfl (by kernel_rfl) (by kernel_rfl) (by kernel_rfl) (fun _ _ _ h => h) (Or.inl ⟨by rfl, ?_⟩) (by assumption) ?_; rotate_left; focus ((intro w' hSw; (try dsimp only at hSw); go_simp; (try with_reducible rfl)))); (try simp only [Act.put, List.setIfInBounds_toArray, List.set_cons_zero, List.set_cons_succ])
              (refine wpAnyH_take (i := 10) (oi := ⟨_, _, _, _, _, _⟩) (v := ?_) rfl (by kernel_rfl) (by kernel_rfl) (by kernel_rfl) (fun _ _ _ h => h) (Or.inl ⟨by rfl, ?_⟩) (by assumption) ?_; rotate_left; focus ((intro w' hSw; (try dsimp only at hSw); go_simp; (try with_reducible rfl)))); (try simp only [Act.put, List.setIfInBounds_toArray, List.set_cons_zero, List.set_cons_succ])
              (refine wpAnyH_take (i := 11) (oi := ⟨_, _, _, _, _, _⟩) (v := ?_) rfl (by kernel_rfl) (by kernel_rfl) (by kernel_rfl) (fun _ _ _ h => h) (Or.inl ⟨by rfl, ?_⟩) (by assumption) ?_; rotate_left; focus ((intro w' hSw; (try dsimp only at hSw); go_simp; (try with_reducible rfl)))); (try simp only [Act.put, List.setIfInBounds_toArray, List.set_cons_zero, List.set_cons_succ])
              (refine wpAnyH_take (i := 12) (oi := ⟨_, _, _, _, _, _⟩) (v := ?_) rfl (by kernel_rfl) (by kernel_rfl) (by kernel_rfl) (fun _ _ _ h => h) (Or.inl ⟨by rfl, ?_⟩) (by assumption) ?_; rotate_left; focus ((intro w' hSw; (try dsimp only at hSw); go_simp; (try with_reducible rfl)))); (try simp only [Act.put, List.setIfInBounds_toArray, List.set_cons_zero, List.set_cons_succ])
              (refine wpAnyH_take (i := 13) (oi := ⟨_, _, _, _, _, _⟩) (v := ?_) rfl (by kernel_rfl) (by kernel_rfl) (by kernel_rfl) (fun _ _ _ h => h) (Or.inl ⟨by rfl, ?_⟩) (by assumption) ?_; rotate_left; focus ((intro w' hSw; (try dsimp only at hSw); go_simp; (try with_reducible rfl)))); (try simp only [Act.put, List.setIfInBounds_toArray, List.set_cons_zero, List.set_cons_succ])
              (refine wpAnyH_take (i := 14) (oi := ⟨_, _, _, _, _, _⟩) (v := ?_) rfl (by kernel_rfl) (by kernel_rfl) (by kernel_rfl) (fun _ _ _ h => h) (Or.inl ⟨by rfl, ?_⟩) (by assumption) ?_; rotate_left; focus ((intro w' hSw; (try dsimp only at hSw); go_simp; (try with_reducible rfl)))); (try simp only [Act.put, List.setIfInBounds_toArray, List.set_cons_zero, List.set_cons_succ])
              (refine wpAnyH_take (i := 15) (oi := ⟨_, _, _, _, _, _⟩) (v := ?_) rfl (by kernel_rfl) (by kernel_rfl) (by kernel_rfl) (fun _ _ _ h => h) (Or.inl ⟨by rfl, ?_⟩) (by assumption) ?_; rotate_left; focus ((intro w' hSw; (try dsimp only at hSw); go_simp; (try with_reducible rfl)))); (try simp only [Act.put, List.setIfInBounds_toArray, List.set_cons_zero, List.set_cons_succ])
              refine wpAnyH_ready (rs := [16]) (by kernel_rfl) (by simp) ?_
              refine AllReadyH.cons (o := ⟨_, _, _, _, _, _⟩) rfl (fun K hK => ?_) AllReadyH.nil
              go_simp
              (first | (go_at_call 62; (with_reducible refine Calls.mono (HIN.out _) ?_); rintro e w' ⟨rfl, rfl⟩) | (go_at_call 59; (with_reducible refine Calls.mono (HOK.out _ ?_) ?_); (assumption); rintro e w' ⟨rfl, hb⟩; have hB' := HTR.out _ _ (by assumption) hb; obtain ⟨k0, k1, k2, k3, k4⟩ := HCB.out _ hB'; have c0 := HCY.out _ hB'))
              (try go_wp2_with fail)
              refine hK.out _ _ (by (try dsimp only); (first | go_keep | (refine ⟨by assumption, ?_⟩; go_keep))) (fun hHeld => ?_)
              clear hK K
              (try simp only [Act.put, List.setIfInBounds_toArray, List.set_cons_zero, List.set_cons_succ])
              (refine wpAnyH_take (i := 17) (oi := ⟨_, _, _, _, _, _⟩) (v := ?_) rfl (by kernel_rfl) (by kernel_rfl) (by kernel_rfl) (fun _ _ _ h => h) (Or.inl ⟨by rfl, ?_⟩) (by assumption) ?_; rotate_left; focus ((intro w' hSw; (try dsimp only at hSw); go_simp; (try with_reducible rfl)))); (try simp only [Act.put, List.setIfInBounds_toArray, List.set_cons_zero, List.set_cons_succ])
              (refine wpAnyH_take (i := 18) (oi := ⟨_, _, _, _, _, _⟩) (v := ?_) rfl (by kernel_rfl) (by kernel_rfl) (by kernel_rfl) (fun _ _ _ h => h) (Or.inl ⟨by rfl, ?_⟩) (by assumption) ?_; rotate_left; focus ((intro w' hSw; (try dsimp only at hSw); go_simp; (try with_reducible rfl)))); (try simp only [Act.put, List.setIfInBounds_toArray, List.set_cons_zero, List.set_cons_succ])
              (refine wpAnyH_take (i := 19) (oi := ⟨_, _, _, _, _, _⟩) (v := ?_) rfl (by kernel_rfl) (by kernel_rfl) (by kernel_rfl) (fun _ _ _ h => h) (Or.inl ⟨by rfl, ?_⟩) (by assumption) ?_; rotate_left; focus ((intro w' hSw; (try dsimp only at hSw); go_simp; (try with_reducible rfl)))); (try simp only [Act.put, List.setIfInBounds_toArray, List.set_cons_zero, List.set_cons_succ])
              (refine wpAnyH_take (i := 20) (oi := ⟨_, _, _, _, _, _⟩) (v := ?_) rfl (by kernel_rfl) (by kernel_rfl) (by kernel_rfl) (fun _ _ _ h => h) (Or.inl ⟨by rfl, ?_⟩) (by assumption) ?_; rotate_left; focus ((intro w' hSw; (try dsimp only at hSw); go_simp; (try with_reducible rfl)))); (try simp only [Act.put, List.setIfInBounds_toArray, List.set_cons_zero, List.set_cons_succ])
              (refine wpAnyH_take (i := 21) (oi := ⟨_, _, _, _, _, _⟩) (v := ?_) rfl (by kernel_rfl) (by kernel_rfl) (by kernel_rfl) (fun _ _ _ h => h) (Or.inl ⟨by rfl, ?_⟩) (by assumption) ?_; rotate_left; focus ((intro w' hSw; (try dsimp only at hSw); go_simp; (try with_reducible rfl)))); (try simp only [Act.put, List.setIfInBounds_toArray, List.set_cons_zero, List.set_cons_succ])
              refine wpAnyH_ready (rs := [22]) (by kernel_rfl) (by simp) ?_
              refine AllReadyH.cons (o := ⟨_, _, _, _, _, _⟩) rfl (fun K hK => ?_) AllReadyH.nil
              go_simp
              (first | (go_at_call 62; (with_reducible refine Calls.mono (HIN.out _) ?_); rintro e w' ⟨rfl, rfl⟩) | (go_at_call 59; (with_reducible refine Calls.mono (HOK.out _ ?_) ?_); (assumption); rintro e w' ⟨rfl, hb⟩; have hB' := HTR.out _ _ (by assumption) hb; obtain ⟨k0, k1, k2, k3, k4⟩ := HCB.out _ hB'; have c0 := HCY.out _ hB'))
              (try go_wp2_with fail)
              refine hK.out _ _ (by (try dsimp only); (first | go_keep | (refine ⟨by assumption, ?_⟩; go_keep))) (fun hHeld => ?_)
              clear hK K
              (try simp only [Act.put, List.setIfInBounds_toArray, List.set_cons_zero, List.set_cons_succ])
              (refine wpAnyH_take (i := 23) (oi := ⟨_, _, _, _, _, _⟩) (v := ?_) rfl (by kernel_rfl) (by kernel_rfl) (by kernel_rfl) (fun _ _ _ h => h) (Or.inl ⟨by rfl, ?_⟩) (by assumption) ?_; rotate_left; focus ((intro w' hSw; (try dsimp only at hSw); go_simp; (try with_reducible rfl)))); (try simp only [Act.put, List.setIfInBounds_toArray, List.set_cons_zero, List.set_cons_succ])
              (refine wpAnyH_take (i := 24) (oi := ⟨_, _, _, _, _, _⟩) (v := ?_) rfl (by kernel_rfl) (by kernel_rfl) (by kernel_rfl) (fun _ _ _ h => h) (Or.inl ⟨by rfl, ?_⟩) (by assumption) ?_; rotate_left; focus ((intro w' hSw; (try dsimp only at hSw); go_simp; (try with_reducible rfl)))); (try simp only [Act.put, List.setIfInBounds_toArray, List.set_cons_zero, List.set_cons_succ])
              refine wpAnyH_done (by kernel_rfl) ?_ _
              go_wp2
              go_roundw
              case rel => exact ⟨k + 1, by omega, by go_num, HNX, Lib.hid (HEND.out _ (by assumption))⟩
              case measure => simp [intOf]; omega
        · have g1 : decide (x.v ≤ y.v) = true := decide_eq_true (by omega)
          have HF : Hid (valuesB s = false) := Lib.hid (by refine vp_desc HY.out ?_ hd; rw [← HKJ.out]; exact HX.out)
          clear hd HIN HOK HCC HA HU1 HV HBX HY
          refine wp_region_held_drew (S := (fun w' => Below w1.heap.size w1 w' ∧ w'.cell? ⟨nb, 0, none⟩ = some (.int .i64 x.v) ∧ w'.cell? ⟨nb, 1, none⟩ = some (.int .i64 x.t.kind) ∧ w'.cell? ⟨nb, 2, none⟩ = some (.int .i64 x.t.num) ∧ w'.cell? ⟨nb, 3, none⟩ = some (.string x.t.name) ∧ w'.cell? ⟨nb, 4, none⟩ = some (.slice u1 x.t.args.length u2) ∧ w'.cell? ⟨g, off + j * 5, none⟩ = some (.int .i64 y.v))) (by kernel_rfl) (by (try dsimp only); go_keep) (fun hHeld => ?_)
          (refine wpAnyH_take (i := 0) (oi := ⟨_, _, _, _, _, _⟩) (v := ?_) rfl (by kernel_rfl) (by kernel_rfl) (by kernel_rfl) (fun _ _ _ h => h) (Or.inl ⟨by rfl, ?_⟩) (by assumption) ?_; rotate_left; focus ((intro w' hSw; (try dsimp only at hSw); go_simp; (try with_reducible rfl)))); (try simp only [Act.put, List.setIfInBounds_toArray, List.set_cons_zero, List.set_cons_succ])
          (refine wpAnyH_take (i := 1) (oi := ⟨_, _, _, _, _, _⟩) (v := ?_) rfl (by kernel_rfl) (by kernel_rfl) (by kernel_rfl) (fun _ _ _ h => h) (Or.inl ⟨by rfl, ?_⟩) (by assumption) ?_; rotate_left; focus ((intro w' hSw; (try dsimp only at hSw); go_simp; (try with_reducible rfl)))); (try simp only [Act.put, List.setIfInBounds_toArray, List.set_cons_zero, List.set_cons_succ])
          (refine wpAnyH_take (i := 2) (oi := ⟨_, _, _, _, _, _⟩) (v := ?_) rfl (by kernel_rfl) (by kernel_rfl) (by kernel_rfl) (fun _ _ _ h => h) (Or.inl ⟨by rfl, ?_⟩) (by assumption) ?_; rotate_left; focus ((intro w' hSw; (try dsimp only at hSw); go_simp; (try with_reducible rfl)))); (try simp only [Act.put, List.setIfInBounds_toArray, List.set_cons_zero, List.set_cons_succ])
          (refine wpAnyH_take (i := 3) (oi := ⟨_, _, _, _, _, _⟩) (v := ?_) rfl (by kernel_rfl) (by kernel_rfl) (by kernel_rfl) (fun _ _ _ h => h) (Or.inl ⟨by rfl, ?_⟩) (by assumption) ?_; rotate_left; focus ((intro w' hSw; (try dsimp only at hSw); go_simp; (try with_reducible rfl)))); (try simp only [Act.put, List.setIfInBounds_toArray, List.set_cons_zero, List.set_cons_succ])
          (refine wpAnyH_take (i := 4) (oi := ⟨_, _, _, _, _, _⟩) (v := ?_) rfl (by kernel_rfl) (by kernel_rfl) (by kernel_rfl) (fun _ _ _ h => h) (Or.inl ⟨by rfl, ?_⟩) (by assumption) ?_; rotate_left; focus ((intro w' hSw; (try dsimp only at hSw); go_simp; (try with_reducible rfl)))); (try simp only [Act.put, List.setIfInBounds_toArray, List.set_cons_zero, List.set_cons_succ])
          (refine wpAnyH_take (i := 5) (oi := ⟨_, _, _, _, _, _⟩) (v := ?_) rfl (by kernel_rfl) (by kernel_rfl) (by kernel_rfl) (fun _ _ _ h => h) (Or.inl ⟨by rfl, ?_⟩) (by assumption) ?_; rotate_left; focus ((intro w' hSw; (try dsimp only at hSw); go_simp; (try with_reducible rfl)))); (try simp only [Act.put, List.setIfInBounds_toArray, List.set_cons_zero, List.set_cons_succ])
          (refine wpAnyH_take (i := 6) (oi := ⟨_, _, _, _, _, _⟩) (v := ?_) rfl (by kernel_rfl) (by kernel_rfl) (by kernel_rfl) (fun _ _ _ h => h) (Or.inl ⟨by rfl, ?_⟩) (by assumption) ?_; rotate_left; focus ((intro w' hSw; (try dsimp only at hSw); go_simp; (try with_reducible rfl)))); (try simp only [Act.put, List.setIfInBounds_toArray, List.set_cons_zero, List.set_cons_succ])
          (refine wpAnyH_take (i := 7) (oi := ⟨_, _, _, _, _, _⟩) (v := ?_) rfl (by kernel_rfl) (by kernel_rfl) (by kernel_rfl) (fun _ _ _ h => h) (Or.inl ⟨by rfl, ?_⟩) (by assumption) ?_; rotate_left; focus ((intro w' hSw; (try dsimp only at hSw); go_simp; (try with_reducible rfl)))); (try simp only [Act.put, List.setIfInBounds_toArray, List.set_cons_zero, List.set_cons_succ])
          (refine wpAnyH_take (i := 8) (oi := ⟨_, _, _, _, _, _⟩) (v := ?_) rfl (by kernel_rfl) (by kernel_rfl) (by kernel_rfl) (fun _ _ _ h => h) (Or.inl ⟨by rfl, ?_⟩) (by assumption) ?_; rotate_left; focus ((intro w' hSw; (try dsimp only at hSw); go_simp; (try with_reducible rfl)))); (try simp only [Act.put, List.setIfInBounds_toArray, List.set_cons_zero, List.set_cons_succ])
          (refine wpAnyH_take (i := 9) (oi := ⟨_, _, _, _, _, _⟩) (v := ?_) rfl (by kernel_rfl) (by kernel_rfl) (by kernel_rfl) (fun _ _ _ h => h) (Or.inl ⟨by rfl, ?_⟩) (by assumption) ?_; rotate_left; focus ((intro w' hSw; (try dsimp only at hSw); go_simp; (try with_reducible rfl)))); (try simp only [Act.put, List.setIfInBounds_toArray, List.set_cons_zero, List.set_cons_succ])
          (refine wpAnyH_take (i := 10) (oi := ⟨_, _, _, _, _, _⟩) (v := ?_) rfl (by kernel_rfl) (by kernel_rfl) (by kernel_rfl) (fun _ _ _ h => h) (Or.inl ⟨by rfl, ?_⟩) (by assumption) ?_; rotate_left; focus ((intro w' hSw; (try dsimp only at hSw); go_simp; (try with_reducible rfl)))); (try simp only [Act.put, List.setIfInBounds_toArray, List.set_cons_zero, List.set_cons_succ])
          (refine wpAnyH_take (i := 11) (oi := ⟨_, _, _, _, _, _⟩) (v := ?_) rfl (by kernel_rfl) (by kernel_rfl) (by kernel_rfl) (fun _ _ _ h => h) (Or.inl ⟨by rfl, ?_⟩) (by assumption) ?_; rotate_left; focus ((intro w' hSw; (try dsimp only at hSw); go_simp; (try with_reducible rfl)))); (try simp only [Act.put, List.setIfInBounds_toArray, List.set_cons_zero, List.set_cons_succ])
          (refine wpAnyH_take (i := 12) (oi := ⟨_, _, _, _, _, _⟩) (v := ?_) rfl (by kernel_rfl) (by kernel_rfl) (by kernel_rfl) (fun _ _ _ h => h) (Or.inl ⟨by rfl, ?_⟩) (by assumption) ?_; rotate_left; focus ((intro w' hSw; (try dsimp only at hSw); go_simp; (try with_reducible rfl)))); (try simp only [Act.put, List.setIfInBounds_toArray, List.set_cons_zero, List.set_cons_succ])
          (refine wpAnyH_take (i := 13) (oi := ⟨_, _, _, _, _, _⟩) (v := ?_) rfl (by kernel_rfl) (by kernel_rfl) (by kernel_rfl) (fun _ _ _ h => h) (Or.inl ⟨by rfl, ?_⟩) (by assumption) ?_; rotate_left; focus ((intro w' hSw; (try dsimp only at hSw); go_simp; (try with_reducible rfl)))); (try simp only [Act.put, List.setIfInBounds_toArray, List.set_cons_zero, List.set_cons_succ])
          (refine wpAnyH_take (i := 14) (oi := ⟨_, _, _, _, _, _⟩) (v := undef) rfl (by kernel_rfl) (by kernel_rfl) (by kernel_rfl) (fun _ _ _ h => h) (Or.inr ⟨by rfl, rfl⟩) (by assumption) ?_); (try simp only [Act.put, List.setIfInBounds_toArray, List.set_cons_zero, List.set_cons_succ])
          (refine wpAnyH_take (i := 15) (oi := ⟨_, _, _, _, _, _⟩) (v := undef) rfl (by kernel_rfl) (by kernel_rfl) (by kernel_rfl) (fun _ _ _ h => h) (Or.inr ⟨by rfl, rfl⟩) (by assumption) ?_); (try simp only [Act.put, List.setIfInBounds_toArray, List.set_cons_zero, List.set_cons_succ])
          (refine wpAnyH_take (i := 16) (oi := ⟨_, _, _, _, _, _⟩) (v := undef) rfl (by kernel_rfl) (by kernel_rfl) (by kernel_rfl) (fun _ _ _ h => h) (Or.inr ⟨by rfl, rfl⟩) (by assumption) ?_); (try simp only [Act.put, List.setIfInBounds_toArray, List.set_cons_zero, List.set_cons_succ])
          (refine wpAnyH_take (i := 17) (oi := ⟨_, _, _, _, _, _⟩) (v := undef) rfl (by kernel_rfl) (by kernel_rfl) (by kernel_rfl) (fun _ _ _ h => h) (Or.inr ⟨by rfl, rfl⟩) (by assumption) ?_); (try simp only [Act.put, List.setIfInBounds_toArray, List.set_cons_zero, List.set_cons_succ])
          (refine wpAnyH_take (i := 18) (oi := ⟨_, _, _, _, _, _⟩) (v := ?_) rfl (by kernel_rfl) (by kernel_rfl) (by kernel_rfl) (fun _ _ _ h => h) (Or.inl ⟨by rfl, ?_⟩) (by assumption) ?_; rotate_left; focus ((intro w' hSw; (try dsimp only at hSw); go_simp; (try with_reducible rfl)))); (try simp only [Act.put, List.setIfInBounds_toArray, List.set_cons_zero, List.set_cons_succ])
          (refine wpAnyH_take (i := 19) (oi := ⟨_, _, _, _, _, _⟩) (v := ?_) rfl (by kernel_rfl) (by kernel_rfl) (by kernel_rfl) (fun _ _ _ h => h) (Or.inl ⟨by rfl, ?_⟩) (by assumption) ?_; rotate_left; focus ((intro w' hSw; (try dsimp only at hSw); go_simp; (try with_reducible rfl)))); (try simp only [Act.put, List.setIfInBounds_toArray, List.set_cons_zero, List.set_cons_succ])
          (refine wpAnyH_take (i := 20) (oi := ⟨_, _, _, _, _, _⟩) (v := undef) rfl (by kernel_rfl) (by kernel_rfl) (by kernel_rfl) (fun _ _ _ h => h) (Or.inr ⟨by rfl, rfl⟩) (by assumption) ?_); (try simp only [Act.put, List.setIfInBounds_toArray, List.set_cons_zero, List.set_cons_succ])
          (refine wpAnyH_take (i := 21) (oi := ⟨_, _, _, _, _, _⟩) (v := undef) rfl (by kernel_rfl) (by kernel_rfl) (by kernel_rfl) (fun _ _ _ h => h) (Or.inr ⟨by rfl, rfl⟩) (by assumption) ?_); (try simp only [Act.put, List.setIfInBounds_toArray, List.set_cons_zero, List.set_cons_succ])
          (refine wpAnyH_take (i := 22) (oi := ⟨_, _, _, _, _, _⟩) (v := undef) rfl (by kernel_rfl) (by kernel_rfl) (by kernel_rfl) (fun _ _ _ h => h) (Or.inr ⟨by rfl, rfl⟩) (by assumption) ?_); (try simp only [Act.put, List.setIfInBounds_toArray, List.set_cons_zero, List.set_cons_succ])
          (refine wpAnyH_take (i := 23) (oi := ⟨_, _, _, _, _, _⟩) (v := undef) rfl (by kernel_rfl) (by kernel_rfl) (by kernel_rfl) (fun _ _ _ h => h) (Or.inr ⟨by rfl, rfl⟩) (by assumption) ?_); (try simp only [Act.put, List.setIfInBounds_toArray, List.set_cons_zero, List.set_cons_succ])
          (refine wpAnyH_take (i := 24) (oi := ⟨_, _, _, _, _, _⟩) (v := ?_) rfl (by kernel_rfl) (by kernel_rfl) (by kernel_rfl) (fun _ _ _ h => h) (Or.inl ⟨by rfl, ?_⟩) (by assumption) ?_; rotate_left; focus ((intro w' hSw; (try dsimp only at hSw); go_simp; (try with_reducible rfl)))); (try simp only [Act.put, List.setIfInBounds_toArray, List.set_cons_zero, List.set_cons_succ])
          refine wpAnyH_done (by kernel_rfl) ?_ _
          go_wp2
          go_ret
          exact ⟨by rw [HF.out]; rfl, HEND.out _ (by assumption)⟩
    · obtain rfl : k = s.length := by omega
      have HF := Lib.hid (vp_end HV.out)
      go_wp2
      go_ret
      exact ⟨by rw [HF.out]; rfl, HB.out⟩
end Go.Proofs.YtnmdnajbafpfiaaGreat

namespace Go.Proofs.YtnmdnajbafpfiaaGreat
open Go.RowKit
set_option linter.unusedVariables false
set_option linter.unusedSimpArgs false

/-- One binding against the list. -/
def FreeP (s : List Bd) (b : Bd) : Prop := ¬ (b.t.kind = 1 ∧ b.v ≤ b.t.num) ∧ ∀ v ∈ b.t.vl, getO s v = none
theorem subst_of {s : List Bd} (hv : valuesB s = true) (h : ∀ (i : Nat) (b : Bd), i < s.length → s[i]? = some b → FreeP s b) : substB s = true := by
  rw [substB_true]
  refine ⟨valuesB_true.1 hv, fun b hb => ?_⟩
  obtain ⟨i, hi⟩ := List.getElem?_of_mem hb
  exact h i b (List.getElem?_eq_some_iff.1 hi).1 hi
theorem subst_not {s : List Bd} {i : Nat} {b : Bd} (hb : s[i]? = some b) (h : ¬ FreeP s b) : substB s = false := by
  rw [substB_false]
  exact fun hs => h (hs.2 b (List.mem_of_getElem? hb))
theorem subst_values {s : List Bd} (h : valuesB s = false) : substB s = false := by
  rw [substB_false]
  exact fun hs => valuesB_false.1 h hs.1
def allVars (t : Tm) : List Int := t.vl.foldl insAsc []
theorem allVars_mem {t : Tm} {v : Int} : v ∈ allVars t ↔ v ∈ t.vl := by
  have := (insL_spec t.vl [] List.Pairwise.nil).2 v
  rw [allVars, this]; simp
theorem allVars_len (t : Tm) : (allVars t).length ≤ t.nodes := by
  have h1 := insL_len t.vl []
  have h2 := vl_len t
  simp at h1
  unfold allVars
  omega

set_option maxRecDepth 100000 in
set_option maxHeartbeats 8000000 in
theorem specSubstOk_any (s : List Bd) (V : Value) (w : World) (hA : ListS bdE w Any V s) (hE : EachB s) :
    Calls Tryz.prog 47 #[V] w fun e w' => e = .returned (.bool (substB s)) ∧ Below w.heap.size w w' := by
  obtain ⟨a, cap, rfl⟩ := hA.slice
  have HA := Lib.hid hA
  have hL : s.length ≤ 1048576 := hE.1
  have HC := Lib.hid (specValues_any s _ w hA hE)
  clear hA
  go_enter Tryz.func47, Tryz.ntmps47
  go_wp2_with fail
  refine HC.out.mono ?_
  rintro e w0 ⟨rfl, hb⟩
  have HW := Lib.hid hb
  clear hb HC
  cases hv : valuesB s with
  | false =>
    have HF := Lib.hid (subst_values hv)
    clear hv
    go_wp2
    go_ret
    exact ⟨by rw [HF.out]; rfl, HW.out⟩
  | true =>
  have HOF := Lib.hid (fun h => subst_of (s := s) hv h)
  clear hv
  go_wp2
  go_loopw [14] (fun iv wr => ∃ k : Nat, k ≤ s.length ∧ iv = .int .i64 k ∧ Hid (∀ (i : Nat) (b : Bd), i < k → s[i]? = some b → FreeP s b) ∧ Hid (Below w.heap.size w wr)) (fun iv _ => s.length - (intOf iv).toNat)
  case atStart => exact ⟨0, Nat.zero_le _, rfl, Lib.hid (fun i b hi => absurd hi (Nat.not_lt_zero _)), HW⟩
  case round =>
    obtain ⟨k, hk, rfl, HN, HB⟩ := hrel
    clear HW
    by_cases hlt : k < s.length
    · have hltI : (k : Int) < (s.length : Int) := by omega
      obtain ⟨x, hx⟩ : ∃ x, s[k]? = some x := ⟨_, List.getElem?_eq_getElem hlt⟩
      obtain ⟨g, off, u1, u2, rfl, hg, hq, hc, hu⟩ := HA.out.bd hx
      obtain ⟨d0, d1, d2, d3, d4⟩ := hc wr HB.out
      have HX := Lib.hid hx
      have HU := Lib.hid (hu.at.kept HB.out)
      have hxz : x.t.sz ≤ 1048576 := by have := hE.2 x (List.mem_of_getElem? hx); omega
      have hxn : x.t.nodes ≤ 1048576 := by have h1 := hE.2 x (List.mem_of_getElem? hx); have h2 := nodes_sz x.t; omega
      clear hx hq hc hu
      go_upto_region 6 with (fail)
      have hal : Below wr.heap.size wr (wr.alloc (.cells #[.int .i64 x.v, .int .i64 x.t.kind, .int .i64 x.t.num, .string x.t.name, .slice u1 x.t.args.length u2] 69)) := belowAlloc (Below.refl _ _) _
      have h5 := heap_new wr (.cells #[.int .i64 x.v, .int .i64 x.t.kind, .int .i64 x.t.num, .string x.t.name, .slice u1 x.t.args.length u2] 69)
      have HW1 := Lib.hid (belowOn HB.out (Nat.le_refl _) hal)
      have HU1 := Lib.hid (HU.out.kept hal)
      clear hal d0 d1 d2 d3 d4 HU HB
      generalize hw1 : wr.alloc (.cells #[.int .i64 x.v, .int .i64 x.t.kind, .int .i64 x.t.num, .string x.t.name, .slice u1 x.t.args.length u2] 69) = w1 at h5 HW1 HU1 ⊢
      clear hw1
      obtain ⟨e0, e1, e2, e3, e4, ef⟩ := box_cells5 h5
      clear h5
      by_cases hs : x.t.kind = 1 ∧ x.v ≤ x.t.num
      · have HF : Hid (substB s = false) := Lib.hid (subst_not HX.out fun h => h.1 hs)
        have k1 : (x.t.kind == 1) = true := by rw [hs.1]; rfl
        have k2 : decide (x.v ≤ x.t.num) = true := decide_eq_true hs.2
        clear hs
        go_wp2
        go_ret
        exact ⟨by rw [HF.out]; rfl, HW1.out⟩
      · have HS := Lib.hid hs
        have HC2 := Lib.hid (specVars_any (x.t.nodes + 1) x.t _ w1 (.slice none 0 0) [] w1 (Nat.lt_succ_self _) HU1.out (Below.refl _ _) (World.ownsRow_nil w1 0 3 1) (by simp; omega) hxz)
        have HCS : ((x.t.kind == 1) = true ∧ decide (x.v ≤ x.t.num) = false) ∨ (x.t.kind == 1) = false := by
          by_cases k1 : x.t.kind = 1
          · exact .inl ⟨by rw [k1]; rfl, decide_eq_false fun h => hs ⟨k1, h⟩⟩
          · exact .inr (beq_eq_false_iff_ne.2 k1)
        clear hs
        rcases HCS with ⟨k1, k2⟩ | k1
        all_goals
          go_wp2_with fail
          refine HC2.out.mono ?_
          rintro e w2 ⟨vv, rfl, hrow, hb⟩
          have HB2 := Lib.hid (belowOn HW1.out (Nat.le_refl _) hb)
          have hvl : (allVars x.t).length ≤ 1048576 := by have := allVars_len x.t; omega
          obtain ⟨a2, cap2, rfl, hvals⟩ := hrow.vals
          rw [List.length_map]
          have HVV := Lib.hid hvals
          have hfd : x.t.vl.foldl insAsc [] = allVars x.t := rfl
          rw [hfd] at HVV ⊢
          clear hb hrow hvals hfd e0 e1 e2 e3 e4 ef HC2 HU1 HW1 k1
          go_wp2
          go_loopw [34] (fun jv wq => ∃ j : Nat, j ≤ (allVars x.t).length ∧ jv = .int .i64 j ∧ Hid (∀ (i : Nat) (v : Int), i < j → (allVars x.t)[i]? = some v → getO s v = none) ∧ Hid (Below w2.heap.size w2 wq)) (fun jv _ => (allVars x.t).length - (intOf jv).toNat)
          case atStart => exact ⟨0, Nat.zero_le _, rfl, Lib.hid (fun i v hi => absurd hi (Nat.not_lt_zero _)), Lib.hid (Below.refl _ _)⟩
          case round =>
            obtain ⟨j, hj, rfl, HM, HBQ⟩ := hrel
            by_cases hjl : j < (allVars x.t).length
            · have hjI : (j : Int) < ((allVars x.t).length : Int) := by omega
              obtain ⟨v, hvj⟩ : ∃ v, (allVars x.t)[j]? = some v := ⟨_, List.getElem?_eq_getElem hjl⟩
              obtain ⟨g2, off2, rfl, hg2, hc2⟩ : ∃ g off, a2 = some ⟨g, off, none⟩ ∧ g < w2.heap.size ∧ ∀ i y, ((allVars x.t).map (Value.int .i64))[i]? = some y → w2.cell? ⟨g, off + i, none⟩ = some y := by
                rcases HVV.out with h | h
                · rw [List.map_eq_nil_iff] at h
                  rw [h] at hjl
                  exact absurd hjl (Nat.not_lt_zero _)
                · exact h
              have q0 : wr.cell? ⟨g2, off2 + j, none⟩ = some (.int .i64 v) := (HBQ.out.cell (p := ⟨g2, off2 + j, none⟩) hg2).trans (hc2 j _ (by rw [List.getElem?_map, hvj]; rfl))
              have HVJ := Lib.hid hvj
              have HG := Lib.hid (specGet_any s _ v Any wr (HA.out.kept (belowOn HB2.out (Nat.le_refl _) HBQ.out)) hL)
              clear hc2 hvj
              go_wp2_with fail
              refine HG.out.mono ?_
              rintro e w3 ⟨u, rfl, hu, hb⟩
              obtain ⟨ua, uc, rfl⟩ := hu.at.slice
              have HB3 := Lib.hid (belowOn HBQ.out (Nat.le_refl _) hb)
              clear hb hu HG q0
              cases hgb : getB s v with
              | true =>
                have HF : Hid (substB s = false) := Lib.hid (subst_not HX.out fun h => by
                  have := h.2 v (allVars_mem.1 (List.mem_of_getElem? HVJ.out))
                  rw [← getB_none, hgb] at this
                  cases this)
                clear hgb
                go_wp2
                go_ret
                exact ⟨by rw [HF.out]; rfl, belowOn HB2.out (Nat.le_refl _) (belowAlloc HB3.out _)⟩
              | false =>
                have HNV := Lib.hid (getB_none.1 hgb)
                clear hgb
                go_wp2
                go_roundw
                case rel =>
                  refine ⟨j + 1, by omega, by go_num, Lib.hid fun i y hi hy => ?_, Lib.hid (belowAlloc HB3.out _)⟩
                  by_cases e : i = j
                  · subst e
                    cases hy.symm.trans HVJ.out
                    exact HNV.out
                  · exact HM.out i y (by omega) hy
                case measure => simp [intOf]; omega
            · obtain rfl : j = (allVars x.t).length := by omega
              have HFR : Hid (FreeP s x) := Lib.hid ⟨HS.out, fun v hv => by
                obtain ⟨i, hi⟩ := List.getElem?_of_mem (allVars_mem.2 hv)
                exact HM.out i v (List.getElem?_eq_some_iff.1 hi).1 hi⟩
              go_wp2
              go_roundw
              case rel =>
                refine ⟨k + 1, by omega, by go_num, Lib.hid fun i y hi hy => ?_, Lib.hid (belowOn HB2.out (Nat.le_refl _) HBQ.out)⟩
                by_cases e : i = k
                · subst e
                  cases hy.symm.trans HX.out
                  exact HFR.out
                · exact HN.out i y (by omega) hy
              case measure => simp [intOf]; omega
    · obtain rfl : k = s.length := by omega
      have HF := Lib.hid (HOF.out HN.out)
      go_wp2
      go_ret
      exact ⟨by rw [HF.out]; rfl, HB.out⟩
end Go.Proofs.YtnmdnajbafpfiaaGreat

namespace Go.Proofs.YtnmdnajbafpfiaaGreat
open Go.RowKit
set_option linter.unusedVariables false
set_option linter.unusedSimpArgs false

theorem putT_good {s : List Bd} (hs : ∀ b ∈ s, Good b.t) : ∀ (n : Nat) (t : Tm), t.nodes ≤ n → Good t → Good (putT s t)
  | 0, t, h, _ => by have := nodes_pos t; omega
  | n + 1, t, h, hg => by
    by_cases h1 : t.kind = 1
    · rw [putT_var h1]
      split
      · rename_i x hx
        obtain ⟨b, hb, _, rfl⟩ := getO_some hx
        exact hs b hb
      · exact hg
    · by_cases h4 : t.kind = 4
      · obtain ⟨x, y, hxy⟩ := hg.fit.pair h4
        have hn := nodes_args2 hxy
        have h2 := (good_two hg.fit hxy).1 hg
        rw [putT_two h4 hxy]
        exact .pair _ _ (putT_good hs n x (by omega) h2.1) (putT_good hs n y (by omega) h2.2)
      · rw [putT_atom h1 h4]; exact hg
theorem putT_nodes {s : List Bd} {M : Nat} (hM : 1 ≤ M) (hs : ∀ b ∈ s, b.t.nodes ≤ M) : ∀ (n : Nat) (t : Tm), t.nodes ≤ n → Good t → (putT s t).nodes ≤ M * t.nodes
  | 0, t, h, _ => by have := nodes_pos t; omega
  | n + 1, t, h, hg => by
    have hp := nodes_pos t
    by_cases h1 : t.kind = 1
    · rw [putT_var h1]
      split
      · rename_i x hx
        obtain ⟨b, hb, _, rfl⟩ := getO_some hx
        exact Nat.le_trans (hs b hb) (Nat.le_mul_of_pos_right _ hp)
      · exact Nat.le_mul_of_pos_left _ hM
    · by_cases h4 : t.kind = 4
      · obtain ⟨x, y, hxy⟩ := hg.fit.pair h4
        have hn := nodes_args2 hxy
        have h2 := (good_two hg.fit hxy).1 hg
        have e : (Tm.mk 4 0 ⟨#[]⟩ [putT s x, putT s y]).nodes = 1 + (putT s x).nodes + (putT s y).nodes := nodes_args2 rfl
        have a := putT_nodes hM hs n x (by omega) h2.1
        have b := putT_nodes hM hs n y (by omega) h2.2
        rw [putT_two h4 hxy, e, hn, Nat.mul_add, Nat.mul_add]
        omega
      · rw [putT_atom h1 h4]; exact Nat.le_mul_of_pos_left _ hM
theorem SubstP.good {s : List Bd} (h : SubstP s) : ∀ b ∈ s, Good b.t := fun b hb => by
  obtain ⟨i, hi⟩ := List.getElem?_of_mem hb
  exact (h.1.1 i b hi).2.2
theorem SubstP.nodes {s : List Bd} (h : SubstP s) : ∀ b ∈ s, b.t.nodes ≤ 5000 := fun b hb => by
  obtain ⟨i, hi⟩ := List.getElem?_of_mem hb
  exact (h.1.1 i b hi).2.1
theorem putT_fineV {s : List Bd} {t : Tm} (hs : ∀ b ∈ s, Ok b.t) (ht : Ok t) : Good (putT s t) ∧ (putT s t).nodes ≤ 25000000 ∧ (putT s t).sz ≤ 1099511627776 := by
  have h1 := putT_good (fun b hb => (hs b hb).2) t.nodes t (Nat.le_refl _) ht.2
  have h2 := putT_nodes (by decide) (fun b hb => (hs b hb).1) t.nodes t (Nat.le_refl _) ht.2
  have h3 : 5000 * t.nodes ≤ 5000 * 5000 := Nat.mul_le_mul_left _ ht.1
  have h4 := good_sz h1
  exact ⟨h1, by omega, by omega⟩
theorem putT_fine {s : List Bd} {t : Tm} (hs : SubstP s) (ht : Ok t) : Good (putT s t) ∧ (putT s t).nodes ≤ 25000000 ∧ (putT s t).sz ≤ 1099511627776 :=
  putT_fineV (fun b hb => ⟨hs.nodes b hb, hs.good b hb⟩) ht

/-- A term, shared with what was there, and whether. -/
def OldS2 (S : Nat → Prop) (t : Tm) (b : Bool) (w : World) (e : Ending) (w' : World) : Prop :=
  ∃ u, e = .returned (.tuple #[.agg #[.int .i64 t.kind, .int .i64 t.num, .string t.name, u], .bool b]) ∧ ArgsS w' (fun k => S k ∨ (w.heap.size ≤ k ∧ k < w'.heap.size)) u t.args ∧ Below w.heap.size w w'
/-- The return of a struct of four cells that lies in the result's variable, and of a second result. -/
theorem bodyPost_row2 {P : Program} {fn : Func} {R : Ending → World → Prop} {a : Act} {w : World} {p q : Tmp} {ty e : TypeId} {b : Nat} {y0 y1 y2 y3 z : Value} {d : TypeDesc} (h : fn.results = #[.cell p ty, .tmp q]) (hp : a.tmps.getD p undef = .pointer (some ⟨b, 0, none⟩)) (hq : a.tmps.getD q undef = z) (hd : a.defers = [])
    (hu : P.underlying ty = some d) (hdd : (match d with | .struct _ | .array _ _ => true | _ => false) = true) (hi : (P.info? ty).map (·.size) = some 4) (hb : w.heap[b]? = some (Obj.cells #[y0, y1, y2, y3] e))
    (hR : R (.returned (.tuple #[.agg #[y0, y1, y2, y3], z])) w) : bodyPost P fn R .ret a w := by
  subst hq
  exact bodyPost_ret (results_cell_row2 h _ _ b e #[y0, y1, y2, y3] (0, 0) d hp hb hu hdd hi) hd hR
theorem only_store4 {w W : World} {b : Nat} (h : Only (fun k => k = b) w W) (y0 y1 y2 y3 : Value) : Only (fun k => k = b) w ((((W.setCell ⟨b, 0, none⟩ y0).setCell ⟨b, 1, none⟩ y1).setCell ⟨b, 2, none⟩ y2).setCell ⟨b, 3, none⟩ y3) := by
  have one : ∀ (W : World) (j : Nat) (u : Value), Only (fun k => k = b) W (W.setCell ⟨b, j, none⟩ u) := fun W j u => ⟨rfl, rfl, rfl, by simp, fun k _ hk => Below.heap_setCell _ _ _ _ hk⟩
  exact (((h.trans (one _ _ _)).trans (one _ _ _)).trans (one _ _ _)).trans (one _ _ _)
theorem fits_dec {n : Nat} : decide (n ≤ 5000) = true ∨ decide (n ≤ 5000) = false := by cases decide (n ≤ 5000) <;> simp

set_option maxRecDepth 100000 in
set_option maxHeartbeats 4000000 in
theorem specApply4_v (s : List Bd) (t : Tm) (Vs V : Value) (S : Nat → Prop) (w : World) (hs : ∀ b ∈ s, Ok b.t) (ht : Ok t) (hL : s.length ≤ 1048576) (hSB : ∀ k, S k → k < w.heap.size) (hLS : ListS bdE w S Vs s) (hA : ArgsS w S V t.args) (hZ : t.sz ≤ 1048576) :
    Calls Tryz.prog 60 #[Vs, .agg #[.int .i64 t.kind, .int .i64 t.num, .string t.name, V]] w (OldS2 S (putT s t) (decide ((putT s t).nodes ≤ 5000)) w) := by
  obtain ⟨aa, ca, rfl⟩ := hA.at.slice
  obtain ⟨sa, sc, rfl⟩ := hLS.slice
  have HFINE := Lib.hid (putT_fineV hs ht)
  have hal : Below w.heap.size w (w.alloc (.cells #[.int .i64 t.kind, .int .i64 t.num, .string t.name, .slice aa t.args.length ca] 38)) := belowAlloc (Below.refl _ _) _
  have hal2 : Below w.heap.size w ((w.alloc (.cells #[.int .i64 t.kind, .int .i64 t.num, .string t.name, .slice aa t.args.length ca] 38)).alloc (.cells #[.int .i64 0, .int .i64 0, .string ⟨#[]⟩, .slice none 0 0] 38)) := belowAlloc hal _
  have HW := Lib.hid hal2
  have HX := Lib.hid (at_box_of w #[.int .i64 t.kind, .int .i64 t.num, .string t.name, .slice aa t.args.length ca] 38 w.heap.size rfl)
  replace HX := Lib.hid (HX.out.read (belowAlloc (Below.refl _ _) (.cells #[.int .i64 0, .int .i64 0, .string ⟨#[]⟩, .slice none 0 0] 38)))
  have HR := Lib.hid (at_box_of (w.alloc (.cells #[.int .i64 t.kind, .int .i64 t.num, .string t.name, .slice aa t.args.length ca] 38)) #[.int .i64 0, .int .i64 0, .string ⟨#[]⟩, .slice none 0 0] 38 (w.heap.size + 1) (by simp))
  have HC := Lib.hid (fun W (h : Below w.heap.size w W) => specPut4_any s hL (t.nodes + 1) t (.slice sa s.length sc) (.slice aa t.args.length ca) S W (Nat.lt_succ_self _) (fun k hk => Nat.lt_of_lt_of_le (hSB k hk) h.size) (hLS.kept h) (hA.kept h) hZ ht.2)
  have HSB := Lib.hid hSB
  clear hal hal2 hLS hA hSB ht hs
  generalize putT s t = r at HC HFINE ⊢
  obtain ⟨fb, hfb⟩ : ∃ fb, fb = decide (r.nodes ≤ 5000) := ⟨_, rfl⟩
  rw [← hfb]
  have HFB := Lib.hid hfb
  clear hfb
  go_enter Tryz.func60, Tryz.ntmps60
  go_upto_region 1 with (fail)
  generalize hw0 : (w.alloc (.cells #[.int .i64 t.kind, .int .i64 t.num, .string t.name, .slice aa t.args.length ca] 38)).alloc (.cells #[.int .i64 0, .int .i64 0, .string ⟨#[]⟩, .slice none 0 0] 38) = w0 at HW HX HR ⊢
  clear hw0
  obtain ⟨c0a, c0b, c0c, c0d⟩ := HX.out.cells
  go_wp2_with fail
  refine (HC.out _ HW.out).mono ?_
  rintro e w1 ⟨u, rfl, hu, hb⟩
  obtain ⟨ua, uc, rfl⟩ := hu.at.slice
  have hal : Below w1.heap.size w1 (w1.alloc (.cells #[.int .i64 r.kind, .int .i64 r.num, .string r.name, .slice ua r.args.length uc] 38)) := belowAlloc (Below.refl _ _) _
  have hrl := HR.out.le
  have HU := Lib.hid (hu.kept hal)
  have HBX := Lib.hid (at_box_of w1 #[.int .i64 r.kind, .int .i64 r.num, .string r.name, .slice ua r.args.length uc] 38 (w1.heap.size) rfl)
  have HB1 := Lib.hid (belowOn HW.out (Nat.le_refl _) (belowOn hb (Nat.le_refl _) hal))
  have HR1 := Lib.hid ((HR.out.read hb).read hal)
  have hsz := hb.size
  have hsz0 := HW.out.size
  have hnb : ¬ w1.heap.size = w.heap.size + 1 := by omega
  have hnb2 : ¬ w.heap.size + 1 = w1.heap.size := by omega
  clear hu hb hal HC c0a c0b c0c c0d HX
  go_upto_region 2 with (fail)
  have hS1 : (w1.alloc (.cells #[.int .i64 r.kind, .int .i64 r.num, .string r.name, .slice ua r.args.length uc] 38)).heap.size = w1.heap.size + 1 := by simp
  have HS1 := Lib.hid hS1
  clear hS1
  generalize hw1 : w1.alloc (.cells #[.int .i64 r.kind, .int .i64 r.num, .string r.name, .slice ua r.args.length uc] 38) = w2 at HU HBX HB1 HR1 HS1 ⊢
  clear hw1
  obtain ⟨nb, hnbe⟩ : ∃ n : Nat, n = w1.heap.size := ⟨_, rfl⟩
  rw [← hnbe] at HBX hnb hnb2 ⊢
  have HNB := Lib.hid hnbe
  clear hnbe
  have hself : Only (fun k => k = w.heap.size + 1) w2 w2 := Only.refl _ _
  have hdrew : Only (fun k => k = w.heap.size + 1) w2 w2.drew := Only.of_below (Below.refl _ _).drew
  have hbself : Below w2.heap.size w2 w2 := Below.refl _ _
  have hbdrew : Below w2.heap.size w2 w2.drew := hbself.drew
  have HSET : Hid (∀ k, (S k ∨ (w0.heap.size ≤ k ∧ k < w1.heap.size)) → ¬ k = w.heap.size + 1) := Lib.hid fun k hk e => by
    rcases hk with h | h
    · have := HSB.out k h; omega
    · omega
  have HCE : Hid (∀ W, Only (fun k => k = w.heap.size + 1) w2 W → W.cell? ⟨nb, 0, none⟩ = some (.int .i64 r.kind) ∧ W.cell? ⟨nb, 1, none⟩ = some (.int .i64 r.num) ∧ W.cell? ⟨nb, 2, none⟩ = some (.string r.name) ∧ W.cell? ⟨nb, 3, none⟩ = some (.slice ua r.args.length uc)) := Lib.hid fun W hW => by
    have h := (hW.block nb (by have := HS1.out; have := HNB.out; omega) hnb).trans HBX.out.now
    obtain ⟨q0, q1, q2, q3, _⟩ := box_cells h
    exact ⟨q0, q1, q2, q3⟩
  have HFT : Hid (∀ W, Only (fun k => k = w.heap.size + 1) w2 W → Calls Tryz.prog 87 #[.agg #[.int .i64 r.kind, .int .i64 r.num, .string r.name, .slice ua r.args.length uc]] W fun e w' => e = .returned (.bool fb) ∧ Below W.heap.size W w' ∧ Only (fun k => k = w.heap.size + 1) w2 w') := Lib.hid fun W hW => by
    rw [HFB.out]
    refine (specFits_any r _ W (HU.out.frame hW.size fun k hk hks => hW.block k hks (HSET.out k hk)).at HFINE.out.2.2).mono ?_
    rintro e w' ⟨he, hb⟩
    exact ⟨he, hb, hW.trans (Only.of_below hb)⟩
  have HRB : Hid (∀ W, Below w2.heap.size w2 W → W.heap[w.heap.size + 1]? = some (Obj.cells #[.int .i64 0, .int .i64 0, .string ⟨#[]⟩, .slice none 0 0] 38)) := Lib.hid fun W hW => (HR1.out.read hW).now
  have HTR : Hid (∀ a b, Below w2.heap.size w2 a → Below a.heap.size a b → Below w2.heap.size w2 b) := Lib.hid fun a b h1 h2 => belowOn h1 (Nat.le_refl _) h2
  have HEND : Hid (∀ W, Only (fun k => k = w.heap.size + 1) w2 W → OldS2 S r fb w (.returned (.tuple #[.agg #[.int .i64 r.kind, .int .i64 r.num, .string r.name, .slice ua r.args.length uc], .bool fb])) W) := Lib.hid fun W hW =>
    ⟨_, rfl, (HU.out.frame hW.size fun k hk hks => hW.block k hks (HSET.out k hk)).sub fun k hk => hk.imp id fun h => ⟨by omega, by have := hW.size; have := HS1.out; omega⟩, HB1.out.trans (hW.below (fun k hk => by omega) HB1.out.size)⟩
  obtain ⟨k0, k1, k2, k3⟩ := HCE.out w2 hself
  obtain ⟨r0, r1, r2, r3, rf⟩ := box_cells HR1.out.now
  have HR2 := Lib.hid HR1.out.now
  have hrl2 : w.heap.size + 1 < w2.heap.size := by have := HS1.out; omega
  clear HU HBX HB1 HR1 HW HR HSET HFINE HS1 HNB HSB HFB hrl hsz hsz0
  go_region_held3 (fun w' => w'.cell? ⟨nb, 0, none⟩ = some (.int .i64 r.kind) ∧ w'.cell? ⟨nb, 1, none⟩ = some (.int .i64 r.num) ∧ w'.cell? ⟨nb, 2, none⟩ = some (.string r.name) ∧ w'.cell? ⟨nb, 3, none⟩ = some (.slice ua r.args.length uc)) (go_keep)
    (first
      | (go_at_call 87; (with_reducible refine Calls.mono (HFT.out _ ?_) ?_); (first | exact hself | exact hdrew | exact only_store4 hself _ _ _ _ | exact only_store4 hdrew _ _ _ _); rintro e wF ⟨rfl, hb, ho⟩; obtain ⟨k0, k1, k2, k3⟩ := HCE.out _ ho; have HO := Lib.hid ho; have HF := Lib.hid hb; (first | (have hRF := HRB.out _ (HTR.out _ _ (by assumption) hb); obtain ⟨r0, r1, r2, r3, rf⟩ := box_cells hRF; have HRF := Lib.hid hRF) | skip); clear hb ho))
  all_goals (go_wp2_with fail; first | with_reducible exact bodyPost_row2 (p := 4) (q := 5) (b := w.heap.size + 1) (z := .bool fb) rfl rfl rfl rfl Tryz.underlying38 rfl (by kernel_rfl) (store4 HRF.out _ _ _ _).1 (HEND.out _ (only_store4 HO.out _ _ _ _)) | exact bodyPost_row2 (p := 4) (q := 5) (b := w.heap.size + 1) (z := .bool fb) rfl rfl rfl rfl Tryz.underlying38 rfl (by kernel_rfl) ((HF.out.block _ (by simp; omega)).trans (store4 HR2.out _ _ _ _).1) (HEND.out _ HO.out))
theorem specApply4_any (s : List Bd) (t : Tm) (Vs V : Value) (S : Nat → Prop) (w : World) (hs : SubstP s) (ht : Ok t) (hL : s.length ≤ 1048576) (hSB : ∀ k, S k → k < w.heap.size) (hLS : ListS bdE w S Vs s) (hA : ArgsS w S V t.args) (hZ : t.sz ≤ 1048576) :
    Calls Tryz.prog 60 #[Vs, .agg #[.int .i64 t.kind, .int .i64 t.num, .string t.name, V]] w (OldS2 S (putT s t) (decide ((putT s t).nodes ≤ 5000)) w) :=
  specApply4_v s t Vs V S w (fun b hb => ⟨hs.nodes b hb, hs.good b hb⟩) ht hL hSB hLS hA hZ
end Go.Proofs.YtnmdnajbafpfiaaGreat

namespace Go.Proofs.YtnmdnajbafpfiaaGreat
open Go.RowKit
set_option linter.unusedVariables false
set_option linter.unusedSimpArgs false

theorem ListS.lowB {w : World} {S : Nat → Prop} {V : Value} {s : List Bd} (h : ListS bdE w S V s) : ListS bdE w (fun k => k < w.heap.size) V s := by
  cases h with
  | nil a cap => exact .nil a cap
  | row g off n cap L l' hl hn hS hg hc hr => exact .row g off n cap L _ hl hn hg hg hc fun j p hj => (show ArgsS w S p.2 p.1.t.args from hr j p hj).low.sub fun k hk => hk.2

set_option maxRecDepth 100000 in
set_option maxHeartbeats 4000000 in
theorem specApplySubst_any (s : List Bd) (Vs : Value) (t : Tm) (V : Value) (w : World) (hLS : ListS bdE w Any Vs s) (hZs : szB s ≤ 1048576) (hA : ArgsAt w V t.args) (hZ : t.sz ≤ 1048576) :
    Calls Tryz.prog 35 #[Vs, .agg #[.int .i64 t.kind, .int .i64 t.num, .string t.name, V]] w (OldTm2 (apT s t) (apB s t) w) := by
  obtain ⟨aa, ca, rfl⟩ := hA.slice
  obtain ⟨sa, sc, rfl⟩ := hLS.slice
  have hL : s.length ≤ 1048576 := by have := szB_len s; omega
  have hal : Below w.heap.size w (w.alloc (.cells #[.int .i64 t.kind, .int .i64 t.num, .string t.name, .slice aa t.args.length ca] 38)) := belowAlloc (Below.refl _ _) _
  have hal2 : Below w.heap.size w ((w.alloc (.cells #[.int .i64 t.kind, .int .i64 t.num, .string t.name, .slice aa t.args.length ca] 38)).alloc (.cells #[.int .i64 0, .int .i64 0, .string ⟨#[]⟩, .slice none 0 0] 38)) := belowAlloc hal _
  have HW := Lib.hid hal2
  have HX := Lib.hid (at_box_of w #[.int .i64 t.kind, .int .i64 t.num, .string t.name, .slice aa t.args.length ca] 38 w.heap.size rfl)
  replace HX := Lib.hid (HX.out.read (belowAlloc (Below.refl _ _) (.cells #[.int .i64 0, .int .i64 0, .string ⟨#[]⟩, .slice none 0 0] 38)))
  have HR := Lib.hid (at_box_of (w.alloc (.cells #[.int .i64 t.kind, .int .i64 t.num, .string t.name, .slice aa t.args.length ca] 38)) #[.int .i64 0, .int .i64 0, .string ⟨#[]⟩, .slice none 0 0] 38 (w.heap.size + 1) (by simp))
  have HLS := Lib.hid (fun W (h : Below w.heap.size w W) => hLS.kept h)
  have HAT := Lib.hid (fun W (h : Below w.heap.size w W) => hA.kept h)
  have HYES := Lib.hid (fun h => ap_yes (s := s) (t := t) h)
  have HNO := Lib.hid (fun h => ap_no (s := s) (t := t) h)
  generalize apT s t = rt at HYES HNO ⊢
  generalize apB s t = rb at HYES HNO ⊢
  clear hal hal2 hLS hA
  go_enter Tryz.func35, Tryz.ntmps35
  go_upto_region 1 with (fail)
  generalize hw0 : (w.alloc (.cells #[.int .i64 t.kind, .int .i64 t.num, .string t.name, .slice aa t.args.length ca] 38)).alloc (.cells #[.int .i64 0, .int .i64 0, .string ⟨#[]⟩, .slice none 0 0] 38) = w0 at HW HX HR ⊢
  clear hw0
  have HS := Lib.hid (specSubstOk_any s _ w0 (HLS.out _ HW.out) (eachB_of hZs))
  go_wp2_with fail
  refine HS.out.mono ?_
  rintro e w1 ⟨rfl, hb⟩
  replace HX := Lib.hid (HX.out.read hb)
  replace HR := Lib.hid (HR.out.read hb)
  replace HW := Lib.hid (belowOn HW.out (Nat.le_refl _) hb)
  clear hb HS
  cases hs : substB s with
  | false =>
    obtain ⟨rfl, rfl⟩ := HNO.out fun h => substB_false.1 hs h.1
    have HRE := Lib.hid HR.out.now
    obtain ⟨r0, r1, r2, r3, rf⟩ := box_cells HR.out.now
    clear hs
    go_wp2
    exact oldTm2_end (t := zeroTm) (C := fun _ => False) (p := 4) (q := 5) (b := w.heap.size + 1) rfl rfl rfl rfl rfl rfl rfl Tryz.underlying38 (by kernel_rfl) HRE.out HW.out (by omega) (fun h => h) (fun k h => h.elim) (.nil _ _)
  | true =>
  have HSP := Lib.hid (substB_true.1 hs)
  have HO := Lib.hid (specTermOk_any t _ w1 (HAT.out _ HW.out) hZ)
  obtain ⟨c0, c1, c2, c3⟩ := HX.out.cells
  clear hs
  go_wp2_with fail
  refine HO.out.mono ?_
  rintro e w2 ⟨rfl, hb⟩
  replace HX := Lib.hid (HX.out.read hb)
  replace HR := Lib.hid (HR.out.read hb)
  replace HW := Lib.hid (belowOn HW.out (Nat.le_refl _) hb)
  clear hb HO c0 c1 c2 c3
  cases ho : okB t with
  | false =>
    obtain ⟨rfl, rfl⟩ := HNO.out fun h => okB_false.1 ho h.2.1
    have HRE := Lib.hid HR.out.now
    obtain ⟨r0, r1, r2, r3, rf⟩ := box_cells HR.out.now
    clear ho
    go_wp2
    exact oldTm2_end (t := zeroTm) (C := fun _ => False) (p := 4) (q := 5) (b := w.heap.size + 1) rfl rfl rfl rfl rfl rfl rfl Tryz.underlying38 (by kernel_rfl) HRE.out HW.out (by omega) (fun h => h) (fun k h => h.elim) (.nil _ _)
  | true =>
  have HOK := Lib.hid (okB_true.1 ho)
  have HFINE := Lib.hid (putT_fine HSP.out HOK.out)
  have HP := Lib.hid (specApply4_any s t _ _ (fun k => k < w2.heap.size) w2 HSP.out HOK.out hL (fun k hk => hk) (HLS.out _ HW.out).lowB (HAT.out _ HW.out).inS hZ)
  obtain ⟨c0, c1, c2, c3⟩ := HX.out.cells
  have HDEC := Lib.hid (fun h => HYES.out ⟨HSP.out, HOK.out, of_decide_eq_true h⟩)
  have HDEN := Lib.hid (fun (h : decide ((putT s t).nodes ≤ 5000) = false) => HNO.out fun h2 => of_decide_eq_false h h2.2.2)
  clear ho HYES HNO
  generalize decide ((putT s t).nodes ≤ 5000) = fb at HP HDEC HDEN
  generalize putT s t = r at HP HDEC HDEN HFINE
  go_wp2_with fail
  refine HP.out.mono ?_
  rintro e w3 ⟨u, rfl, hu, hb⟩
  obtain ⟨ua, uc, rfl⟩ := hu.at.slice
  have hal : Below w3.heap.size w3 (w3.alloc (.cells #[.int .i64 r.kind, .int .i64 r.num, .string r.name, .slice ua r.args.length uc] 38)) := belowAlloc (Below.refl _ _) _
  have HU := Lib.hid (at_args (hu.at.kept hal))
  have HBX := Lib.hid (at_box_of w3 #[.int .i64 r.kind, .int .i64 r.num, .string r.name, .slice ua r.args.length uc] 38 (w3.heap.size) rfl)
  replace HR := Lib.hid ((HR.out.read hb).read hal)
  replace HW := Lib.hid (belowOn HW.out (Nat.le_refl _) (belowOn hb (Nat.le_refl _) hal))
  clear hu hb hal HP c0 c1 c2 c3 HX
  go_upto_region 4 with (fail)
  generalize hw1 : w3.alloc (.cells #[.int .i64 r.kind, .int .i64 r.num, .string r.name, .slice ua r.args.length uc] 38) = w4 at HU HBX HR HW ⊢
  clear hw1
  generalize w3.heap.size = nb at HBX ⊢
  have HRE := Lib.hid HR.out.now
  cases fb with
  | false =>
    obtain ⟨rfl, rfl⟩ := HDEN.out rfl
    obtain ⟨r0, r1, r2, r3, rf⟩ := box_cells HR.out.now
    go_wp2
    exact oldTm2_end (t := zeroTm) (C := fun _ => False) (p := 4) (q := 5) (b := w.heap.size + 1) rfl rfl rfl rfl rfl rfl rfl Tryz.underlying38 (by kernel_rfl) HRE.out HW.out (by omega) (fun h => h) (fun k h => h.elim) (.nil _ _)
  | true =>
    obtain ⟨rfl, rfl⟩ := HDEC.out rfl
    have HC := Lib.hid (specCopy_any (rt.nodes + 1) rt _ w4 (Nat.lt_succ_self _) HU.out.argsAt HFINE.out.2.2)
    obtain ⟨b0, b1, b2, b3, _⟩ := box_cells HBX.out.now
    go_wp2_with fail
    refine HC.out.mono ?_
    rintro e w5 ⟨u4, rfl, hu4, hb⟩
    obtain ⟨xa, xc, rfl⟩ := hu4.at.slice
    replace HR := Lib.hid (HR.out.read hb)
    have HW3 := Lib.hid HW.out.size
    have hRl := HR.out.le
    replace HW := Lib.hid (belowOn HW.out (Nat.le_refl _) hb)
    have HU4 := Lib.hid hu4
    have HL3 : Hid (w.heap.size + 1 < w4.heap.size) := Lib.hid (by have := (Array.getElem?_eq_some_iff.1 HRE.out).1; exact this)
    clear hb hu4 HC b0 b1 b2 b3 HRE
    have HRE := Lib.hid HR.out.now
    obtain ⟨r0, r1, r2, r3, rf⟩ := box_cells HR.out.now
    go_wp2
    exact oldTm2_end (t := rt) (C := iv w4.heap.size w5.heap.size) (p := 4) (q := 5) (b := w.heap.size + 1) rfl rfl rfl rfl rfl rfl rfl Tryz.underlying38 (by kernel_rfl) HRE.out HW.out (by omega) (fun h => by have := h.1; have := HL3.out; omega) (fun k h => ⟨by have := h.1; have := HW3.out; omega, h.2⟩) HU4.out
end Go.Proofs.YtnmdnajbafpfiaaGreat

namespace Go.Proofs.YtnmdnajbafpfiaaGreat
open Go.RowKit
set_option linter.unusedVariables false
set_option linter.unusedSimpArgs false

/-- The answer is a list that can be read. -/
def OldB (l : List Bd) (w : World) (e : Ending) (w' : World) : Prop := ∃ v, e = .returned v ∧ ListS bdE w' Any v l ∧ Below w.heap.size w w'
theorem rowK_start {α : Type} {E : El α} {e : TypeId} {w : World} : RowK E e (w.alloc (.cells #[] e)) w.heap.size (.slice (some ⟨w.heap.size, 0, none⟩) 0 0) [] :=
  ⟨[], rfl, ⟨by simp [cellsE], .inr ⟨w.heap.size, 0, #[], rfl, Nat.le_refl _, heap_new w _, Nat.le_refl _, Nat.zero_le _, by simp, by simp [cellsE]⟩⟩, fun j p hj => by simp at hj⟩
theorem rowK_block {α : Type} {E : El α} {e : TypeId} {w : World} {lo : Nat} {v : Value} {xs : List α} (h : RowK E e w lo v xs) : ∀ k, v.ownBlock = some k → lo ≤ k ∧ k < w.heap.size := by
  obtain ⟨L, _, hrow, _⟩ := h
  exact fun k hk => World.ownsRow.lt hrow k hk

/-- The bindings of some variables. -/
def keep (s : List Bd) (vs : List Int) : List Bd := s.filter fun b => decide (b.v ∈ vs)
open Classical in
noncomputable def rsB (s : List Bd) (vs : List Int) : List Bd := if SubstP s then keep s vs else []
open Classical in
theorem rs_yes {s : List Bd} {vs : List Int} (h : SubstP s) : rsB s vs = keep s vs := by rw [rsB, if_pos h]
open Classical in
theorem rs_no {s : List Bd} {vs : List Int} (h : ¬ SubstP s) : rsB s vs = [] := by rw [rsB, if_neg h]
theorem keep_each {s : List Bd} {vs : List Int} (h : EachB s) : EachB (keep s vs) := ⟨Nat.le_trans (List.length_filter_le _ _) h.1, fun b hb => h.2 b (List.mem_filter.1 hb).1⟩
theorem keep_yes {s : List Bd} {vs : List Int} {k : Nat} {x : Bd} (hx : s[k]? = some x) (h : decide (x.v ∈ vs) = true) : keep (s.take (k + 1)) vs = keep (s.take k) vs ++ [x] := by
  rw [keep, takeE hx, List.filter_append]
  simp only [keep, List.filter_cons, h, List.filter_nil, if_true]
theorem keep_not {s : List Bd} {vs : List Int} {k : Nat} {x : Bd} (hx : s[k]? = some x) (h : decide (x.v ∈ vs) = false) : keep (s.take (k + 1)) vs = keep (s.take k) vs := by
  rw [keep, takeE hx, List.filter_append]
  simp [keep, List.filter_cons, h]
theorem keep_len (s : List Bd) (vs : List Int) (k : Nat) : (keep (s.take k) vs).length ≤ s.length := Nat.le_trans (List.length_filter_le _ _) (by rw [List.length_take]; omega)

end Go.Proofs.YtnmdnajbafpfiaaGreat

