/-
  The model's l04Get.
-/
import Derived.Test.YtjmmeccfjanpcaaDoorSubst
namespace Go.Proofs.YtjmmeccfjanpcaaDoor
open Go.RowKit
set_option linter.unusedVariables false
set_option linter.unusedSimpArgs false

theorem ArgsS.low {w : World} {S : Nat → Prop} {v : Value} {l : List Tm} (h : ArgsS w S v l) : ArgsS w (fun k => S k ∧ k < w.heap.size) v l := by
  induction h with
  | nil a cap => exact .nil a cap
  | row g off n cap V l hn hS hg hc hr ih => exact .row g off n cap V l hn ⟨hS, hg⟩ hg hc ih
/-- A term that lies where the list lies, and whether. -/
def Held2 (t : Tm) (b : Bool) (S : Nat → Prop) (w : World) (e : Ending) (w' : World) : Prop :=
  ∃ u, e = .returned (.tuple #[.agg #[.int .i64 t.kind, .int .i64 t.num, .string t.name, u], .bool b]) ∧ ArgsS w' S u t.args ∧ Below w.heap.size w w'

set_option maxRecDepth 100000 in
set_option maxHeartbeats 2000000 in
theorem specGet_any (s : List Bd) (V : Value) (v : Int) (S : Nat → Prop) (w : World) (hA : ListS bdE w S V s) (hL : s.length ≤ 1048576) :
    Calls Tryd.prog 36 #[V, .int .i64 v] w (Held2 (getT s v) (getB s v) S w) := by
  obtain ⟨a, cap, rfl⟩ := hA.slice
  have hal : Below w.heap.size w (w.alloc (.cells #[.int .i64 0, .int .i64 0, .string ⟨#[]⟩, .slice none 0 0] 43)) := belowAlloc (Below.refl _ _) _
  have HR := Lib.hid (at_box w #[.int .i64 0, .int .i64 0, .string ⟨#[]⟩, .slice none 0 0] 43)
  have HW := Lib.hid hal
  have HA := Lib.hid hA
  have HAT := Lib.hid (fun (k : Nat) (x : Bd) (h1 : s[k]? = some x) (h2 : x.v = v) (h3 : ∀ i y, i < k → s[i]? = some y → y.v ≠ v) => get_yes (getO_at h1 h2 h3))
  have HNO := Lib.hid (fun (h : ∀ i y, i < s.length → s[i]? = some y → y.v ≠ v) => get_no (getO_out h))
  have END : ∀ (y : Tm) (bb : Bool) (ya : Option Addr) (yc : Nat) (w1 w' : World), Below w.heap.size w w1 → Only (fun k => k = w.heap.size) w1 w' → ArgsS w1 (fun k => S k ∧ k < w.heap.size) (.slice ya y.args.length yc) y.args → Held2 y bb S w (.returned (.tuple #[.agg #[.int .i64 y.kind, .int .i64 y.num, .string y.name, .slice ya y.args.length yc], .bool bb])) w' := fun y bb ya yc w1 w' h1 ho ha =>
    ⟨_, rfl, (ha.frame ho.size fun k hk hks => ho.block k hks fun e => by have := hk.2; omega).sub fun k hk => hk.1, h1.trans (ho.below (fun k hk => by omega) h1.size)⟩
  have HEND := Lib.hid END
  generalize getT s v = rt at HAT HNO ⊢
  generalize getB s v = rb at HAT HNO ⊢
  clear hal hA END
  go_enter Tryd.func36, Tryd.ntmps36
  go_upto_region 1 with (fail)
  generalize hw0 : w.alloc (.cells #[.int .i64 0, .int .i64 0, .string ⟨#[]⟩, .slice none 0 0] 43) = w0 at HR HW ⊢
  clear hw0
  go_wp2
  go_loopw [10] (fun iv wr => ∃ k : Nat, k ≤ s.length ∧ iv = .int .i64 k ∧ Hid (∀ i y, i < k → s[i]? = some y → y.v ≠ v) ∧ Hid (At wr w.heap.size (w.heap.size + 1) (BoxP w.heap.size #[.int .i64 0, .int .i64 0, .string ⟨#[]⟩, .slice none 0 0] 43)) ∧ Hid (Below w.heap.size w wr)) (fun iv _ => s.length - (intOf iv).toNat)
  case atStart => exact ⟨0, Nat.zero_le _, rfl, Lib.hid (fun i y hi => absurd hi (Nat.not_lt_zero _)), HR, HW⟩
  case round =>
    obtain ⟨k, hk, rfl, HN, HB, HWr⟩ := hrel
    clear HR HW
    by_cases hlt : k < s.length
    · have hltI : (k : Int) < (s.length : Int) := by omega
      obtain ⟨x, hx⟩ : ∃ x, s[k]? = some x := ⟨_, List.getElem?_eq_getElem hlt⟩
      obtain ⟨g, off, u1, u2, rfl, hg, hq, hc, hu⟩ := HA.out.bd hx
      obtain ⟨d0, d1, d2, d3, d4⟩ := hc wr HWr.out
      have HX := Lib.hid hx
      have HU := Lib.hid (hu.low.kept HWr.out)
      clear hx hq hc hu
      go_upto_region 4 with (fail)
      have hal : Below wr.heap.size wr (wr.alloc (.cells #[.int .i64 x.v, .int .i64 x.t.kind, .int .i64 x.t.num, .string x.t.name, .slice u1 x.t.args.length u2] 45)) := belowAlloc (Below.refl _ _) _
      have h5 := heap_new wr (.cells #[.int .i64 x.v, .int .i64 x.t.kind, .int .i64 x.t.num, .string x.t.name, .slice u1 x.t.args.length u2] 45)
      have HB1 := Lib.hid (HB.out.read hal)
      have HW1 := Lib.hid (belowOn HWr.out (Nat.le_refl _) hal)
      have HU1 := Lib.hid (HU.out.kept hal)
      clear hal d0 d1 d2 d3 d4 HB HWr HU
      generalize hw1 : wr.alloc (.cells #[.int .i64 x.v, .int .i64 x.t.kind, .int .i64 x.t.num, .string x.t.name, .slice u1 x.t.args.length u2] 45) = w1 at h5 HB1 HW1 HU1 ⊢
      clear hw1
      obtain ⟨e0, e1, e2, e3, e4, ef⟩ := box_cells5 h5
      obtain ⟨r0, r1, r2, r3, rf⟩ := box_cells HB1.out.now
      clear h5
      by_cases hv : x.v = v
      · obtain ⟨rfl, rfl⟩ := HAT.out k x HX.out hv HN.out
        have dv : (x.v == v) = true := by rw [hv]; exact beq_self_eq_true _
        clear hv
        go_wp2
        refine bodyPost_four2 (p := 4) (q := 5) (b := w.heap.size) (z := .bool true) rfl rfl rfl rfl Tryd.underlying43 rfl (by kernel_rfl) HB1.out.now fun w' hw => ?_
        exact HEND.out x.t true u1 u2 w1 w' HW1.out hw HU1.out
      · have dv : (x.v == v) = false := beq_eq_false_iff_ne.2 hv
        have HV := Lib.hid hv
        clear hv
        go_wp2
        go_roundw
        case rel =>
          refine ⟨k + 1, by omega, by go_num, Lib.hid fun i y hi hy => ?_, HB1, HW1⟩
          by_cases e : i = k
          · subst e
            have := hy.symm.trans HX.out
            cases this
            exact HV.out
          · exact HN.out i y (by omega) hy
        case measure => simp [intOf]; omega
    · obtain rfl : k = s.length := by omega
      obtain ⟨rfl, rfl⟩ := HNO.out HN.out
      obtain ⟨r0, r1, r2, r3, rf⟩ := box_cells HB.out.now
      go_wp2
      refine bodyPost_four2 (p := 4) (q := 5) (b := w.heap.size) (z := .bool false) rfl rfl rfl rfl Tryd.underlying43 rfl (by kernel_rfl) HB.out.now fun w' hw => ?_
      exact HEND.out zeroTm false none 0 wr w' HWr.out hw (.nil _ _)
end Go.Proofs.YtjmmeccfjanpcaaDoor

