/-
  A map of values being made by the program: what it holds, its keys, its size; a value looked up, a value stored.
-/
import Derived.Test.YtoihimdfmncdoaaMapSubst
import Derived.Test.YtoihimdfmncdoaaMatchP
import Derived.Maps.Views
namespace Go.Proofs.Ytoihimdfmncdoaa
open Go.RowKit
set_option linter.unusedVariables false
set_option linter.unusedSimpArgs false

theorem ownsMap_frame {w w' : World} {b n : Nat} {D : DataW Value} (h : w.ownsMap Try.prog 3 elemR b n D) (hb : w'.heap[b]? = w.heap[b]?) : w'.ownsMap Try.prog 3 elemR b n D := by
  obtain ⟨es, clock, h1, h2⟩ := h
  exact ⟨es, clock, hb.trans h1, h2⟩
/-- A map at a block: its keys, what it holds; the arguments of what it holds lie below lo. -/
def MapV (lo : Nat) (w : World) (b : Nat) (ks : List Int) (g : Int → Option Tm) : Prop :=
  ∃ (f : Ent) (D : DataW Value), w.ownsMap Try.prog 3 elemR b ks.length D ∧ FitsD D f ∧ Maps.size D = ks.length ∧ ks.Nodup ∧ (∀ v, v ∈ ks ↔ g v ≠ none) ∧ (∀ v, (f v).map Prod.fst = g v) ∧ ∀ v p, f v = some p → ArgsS w (fun j => j < lo) p.2 p.1.args
theorem MapV.lt {lo : Nat} {w : World} {b : Nat} {ks : List Int} {g : Int → Option Tm} (h : MapV lo w b ks g) : b < w.heap.size := by obtain ⟨f, D, h1, _⟩ := h; exact h1.lt
theorem MapV.kept {lo : Nat} {w w' : World} {b : Nat} {ks : List Int} {g : Int → Option Tm} (h : MapV lo w b ks g) (hb : Below w.heap.size w w') : MapV lo w' b ks g := by
  have hl := h.lt
  obtain ⟨f, D, h1, h2, h3, h4, h5, h6, h7⟩ := h
  exact ⟨f, D, ownsMap_frame h1 (hb.block b hl), h2, h3, h4, h5, h6, fun v p hp => (h7 v p hp).kept hb⟩
theorem MapV.look {lo : Nat} {w : World} {b : Nat} {ks : List Int} {g : Int → Option Tm} (h : MapV lo w b ks g) {v : Int} (hv : wfI v) :
    (g v = none ∧ ∀ W, Below w.heap.size w W → (Instr.lookup 109 (.map (some b)) (.int .i64 v) true).run Try.prog W = .ok (.tuple #[.agg #[.int .i64 0, .int .i64 0, .string ⟨#[]⟩, .slice none 0 0], .bool false]) W) ∨
    ∃ t a c, g v = some t ∧ ArgsS w (fun j => j < lo) (.slice a t.args.length c) t.args ∧ ∀ W, Below w.heap.size w W → (Instr.lookup 109 (.map (some b)) (.int .i64 v) true).run Try.prog W = .ok (.tuple #[.agg #[.int .i64 t.kind, .int .i64 t.num, .string t.name, .slice a t.args.length c], .bool true]) W := by
  obtain ⟨f, D, h1, h2, h3, h4, h5, h6, h7⟩ := h
  have hM : MapF w b ks.length f := ⟨D, h1, h2⟩
  cases hf : f v with
  | none => exact .inl ⟨by rw [← h6 v, hf]; rfl, fun W hW => (hM.kept hW).look_no hv hf⟩
  | some p =>
    obtain ⟨t, U⟩ := p
    have hA := h7 v _ hf
    obtain ⟨a, c, hU⟩ := hA.at.slice
    have hU' : U = .slice a t.args.length c := hU
    subst hU'
    exact .inr ⟨t, a, c, by rw [← h6 v, hf]; rfl, hA, fun W hW => (hM.kept hW).look_yes hv hf⟩
theorem mapV_made (lo : Nat) (w : World) : MapV lo (w.alloc (.map #[] 0)) w.heap.size [] (fun _ => none) :=
  ⟨fun _ => none, .map [], World.ownsMap_made w _ _ _, fun v => ⟨fun _ => rfl, fun p h => by cases h⟩, rfl, List.nodup_nil, fun v => by simp, fun v => rfl, fun v p h => by cases h⟩
theorem MapV.map {lo : Nat} {w : World} {b : Nat} {ks : List Int} {g : Int → Option Tm} (h : MapV lo w b ks g) : ∃ f : Ent, MapF w b ks.length f ∧ (∀ v, (f v).map Prod.fst = g v) ∧ ∀ v p, f v = some p → ArgsS w (fun j => j < lo) p.2 p.1.args := by
  obtain ⟨f, D, h1, h2, h3, h4, h5, h6, h7⟩ := h
  exact ⟨f, ⟨D, h1, h2⟩, h6, h7⟩
theorem MapV.len {lo : Nat} {w : World} {b : Nat} {ks : List Int} {g : Int → Option Tm} (h : MapV lo w b ks g) : (Builtin.len_ #[109] 3 #[.map (some b)]).run Try.prog w = .ok (.int .i64 ks.length) w := by
  obtain ⟨f, D, h1, h2, h3, _⟩ := h
  rw [h1.len Try.underlying109, h3]

section
variable (w : World) {ops : Array Oper} {rest : List Oper} {o : Oper} {a : Act} {Q : Exit → Act → World → Prop}
/-- 'm[v] = t', v new. -/
theorem wpList_putV (hg : o.guard = none) (m x v : Operand) (hop : o.op = Op.mapUpdate 109 m x v) (lo b : Nat) (ks : List Int) (g : Int → Option Tm) (hm : a.eval m = .map (some b)) (h : MapV lo w b ks g) (hlo : lo ≤ b) (hn : ks.length < maxLen) (k : Int) (hx : a.eval x = .int .i64 k) (hk : wfI k) (hgk : g k = none)
    (t : Tm) (U : Value) (hv : a.eval v = .agg #[.int .i64 t.kind, .int .i64 t.num, .string t.name, U]) (hU : ArgsS w (fun j => j < lo) U t.args) (hK : ∀ w', MapV lo w' b (ks ++ [k]) (updO g k t) → w.grownBy w' (some b) → wpList Try.prog ops Q rest (a.put o.dst undef) w') : wpList Try.prog ops Q (o :: rest) a w := by
  obtain ⟨f, D, h1, h2, h3, h4, h5, h6, h7⟩ := h
  have hfk : f k = none := by have := h6 k; rw [hgk] at this; simpa using this
  refine wpList_mapUpdate_in w hg m x v _ hop _ _ keyedInt Try.underlying109 elemR b ks.length D hm h1 hn _ _ _ hx hv (keyInt hk) _ [] (elemR_mk (celT t U)) fun w' e1 e2 => hK w' ⟨updF f k (t, U), _, by rw [List.length_append]; exact e1, h2.put h1.isMap k (t, U), ?_, ?_, ?_, ?_, ?_⟩ e2.grown
  · rw [Maps.size_put (h1.tidy keyedInt), h2.has k, hfk, List.length_append, h3]; rfl
  · rw [List.nodup_append]
    refine ⟨h4, by simp, fun z hz y hy => ?_⟩
    rw [List.mem_singleton] at hy
    subst hy
    intro e
    subst e
    exact (h5 z).1 hz hgk
  · intro v
    rw [List.mem_append, List.mem_singleton]
    by_cases e : v = k
    · subst e; rw [updO_self]; simp
    · rw [updO_ne g t e, ← h5 v]; simp [e]
  · intro v
    by_cases e : v = k
    · subst e; rw [updF_self, updO_self]; rfl
    · rw [updF_ne f _ e, updO_ne g t e]; exact h6 v
  · intro v p hp
    have hs := e2.grown.size
    have same : ∀ j, j < lo → j < w.heap.size → w'.heap[j]? = w.heap[j]? := fun j hj hjs => e2.grown.block j hjs (fun e => by cases e; omega)
    by_cases e : v = k
    · subst e
      rw [updF_self] at hp
      cases hp
      exact hU.frame hs fun j hj hjs => same j hj hjs
    · rw [updF_ne f _ e] at hp
      exact (h7 v p hp).frame hs fun j hj hjs => same j hj hjs
end

set_option maxRecDepth 100000 in
set_option maxHeartbeats 2000000 in
theorem take_any (lo b : Nat) (ks : List Int) (g : Int → Option Tm) (v : Int) (t : Tm) (V : Value) (w : World) (hM : MapV lo w b ks g) (hlo : lo ≤ b) (hg : OkG g) (hn : ks.length ≤ 1048576) (hv : wfI v) (hA : ArgsS w (fun j => j < lo) V t.args) (hO : Ok t) :
    Calls Try.prog 144 #[.map (some b), .int .i64 v, .agg #[.int .i64 t.kind, .int .i64 t.num, .string t.name, V]] w fun e w' => e = .returned (.bool (takeB g v t)) ∧ (∃ ks', MapV lo w' b ks' (takeG g v t) ∧ ks'.length ≤ ks.length + 1) ∧ Only (iv b (b + 1)) w w' := by
  obtain ⟨aa, ca, rfl⟩ := hA.at.slice
  have hbl := hM.lt
  have hal : Below w.heap.size w (w.alloc (.cells #[.int .i64 t.kind, .int .i64 t.num, .string t.name, .slice aa t.args.length ca] 25)) := belowAlloc (Below.refl _ _) _
  have HX := Lib.hid (at_box_of w #[.int .i64 t.kind, .int .i64 t.num, .string t.name, .slice aa t.args.length ca] 25 w.heap.size rfl)
  have HM := Lib.hid (hM.kept hal)
  have HA := Lib.hid (hA.kept hal)
  have HW := Lib.hid hal
  have HWF := Lib.hid hv
  have HOT := Lib.hid hO
  have HOG := Lib.hid hg
  have HBL := Lib.hid hbl
  have HFREE := Lib.hid (fun h => take_free (g := g) (v := v) (t := t) h)
  have HHAD := Lib.hid (fun x h => take_had (g := g) (v := v) (t := t) (x := x) h)
  generalize takeB g v t = r at HFREE HHAD ⊢
  generalize takeG g v t = g' at HFREE HHAD ⊢
  clear hM hA hal hv hO hg hbl
  go_enter Try.func144, Try.ntmps144
  go_upto_region 1 with (fail)
  generalize hw0 : w.alloc (.cells #[.int .i64 t.kind, .int .i64 t.num, .string t.name, .slice aa t.args.length ca] 25) = w0 at HX HM HA HW ⊢
  clear hw0
  rcases HM.out.look HWF.out with ⟨hgv, hrun0⟩ | ⟨x, xa, xc, hgv, hax, hrun0⟩
  · have HGV := Lib.hid hgv
    obtain ⟨rfl, rfl⟩ := HFREE.out hgv
    have hrun := hrun0 w0 (Below.refl _ _)
    clear hgv hrun0
    go_upto_region 3 with (fail)
    have hal : Below w0.heap.size w0 (w0.alloc (.cells #[.int .i64 0, .int .i64 0, .string ⟨#[]⟩, .slice none 0 0] 25)) := belowAlloc (Below.refl _ _) _
    replace HX := Lib.hid (HX.out.read hal)
    replace HM := Lib.hid (HM.out.kept hal)
    replace HA := Lib.hid (HA.out.kept hal)
    replace HW := Lib.hid (belowOn HW.out (Nat.le_refl _) hal)
    clear hal hrun
    generalize hw1 : w0.alloc (.cells #[.int .i64 0, .int .i64 0, .string ⟨#[]⟩, .slice none 0 0] 25) = w1 at HX HM HA HW ⊢
    clear hw1
    generalize w0.heap.size = nh
    obtain ⟨c0, c1, c2, c3⟩ := HX.out.cells
    have z0 := HX.out.le
    go_wp2_with (at_mapUpdate; refine wpList_putV _ rfl _ _ _ rfl lo b ks g rfl HM.out hlo (by unfold maxLen; omega) v rfl HWF.out HGV.out t (.slice aa t.args.length ca) rfl HA.out ?_; intro w2 hm2 hg2; have HG := Lib.hid (And.intro hm2 hg2); clear hm2 hg2)
    go_ret
    exact ⟨rfl, ⟨_, HG.out.1, by simp⟩, (Only.of_below HW.out).trans (Only.of_grown HG.out.2 ⟨Nat.le_refl _, Nat.lt_succ_self _⟩)⟩
  · have HGV := Lib.hid hgv
    obtain ⟨rfl, rfl⟩ := HHAD.out x hgv
    have hrun := hrun0 w0 (Below.refl _ _)
    have HAX := Lib.hid hax
    clear hgv hrun0 hax
    go_upto_region 5 with (fail)
    have hal : Below w0.heap.size w0 (w0.alloc (.cells #[.int .i64 x.kind, .int .i64 x.num, .string x.name, .slice xa x.args.length xc] 25)) := belowAlloc (Below.refl _ _) _
    have HY := Lib.hid (at_box_of w0 #[.int .i64 x.kind, .int .i64 x.num, .string x.name, .slice xa x.args.length xc] 25 w0.heap.size rfl)
    replace HX := Lib.hid (HX.out.read hal)
    replace HM := Lib.hid (HM.out.kept hal)
    replace HA := Lib.hid (HA.out.kept hal)
    replace HAX := Lib.hid (HAX.out.kept hal)
    replace HW := Lib.hid (belowOn HW.out (Nat.le_refl _) hal)
    clear hal hrun
    generalize hw1 : w0.alloc (.cells #[.int .i64 x.kind, .int .i64 x.num, .string x.name, .slice xa x.args.length xc] 25) = w1 at HX HY HM HA HAX HW ⊢
    clear hw1
    generalize w0.heap.size = nh at HY ⊢
    have HOX := Lib.hid (HOG.out v x HGV.out)
    have HC := Lib.hid (compare_any (x.nodes + 1) x t _ _ w1 (Nat.lt_succ_self _) HAX.out.at HA.out.at (by have h1 := good_sz HOX.out.2; have h2 := HOX.out.1; omega) (by have h1 := good_sz HOT.out.2; have h2 := HOT.out.1; omega) HOX.out.2 HOT.out.2)
    obtain ⟨c0, c1, c2, c3⟩ := HX.out.cells
    have z0 := HX.out.le
    obtain ⟨d0, d1, d2, d3⟩ := HY.out.cells
    have z1 := HY.out.le
    go_wp2_with fail
    refine HC.out.mono ?_
    rintro e w2 ⟨rfl, hb⟩
    have HM2 := Lib.hid (HM.out.kept hb)
    have HW2 := Lib.hid (belowOn HW.out (Nat.le_refl _) hb)
    clear hb HC c0 c1 c2 c3 z0 d0 d1 d2 d3 z1
    go_wp2
    go_ret
    exact ⟨rfl, ⟨_, HM2.out, Nat.le_succ _⟩, Only.of_below HW2.out⟩
end Go.Proofs.Ytoihimdfmncdoaa

