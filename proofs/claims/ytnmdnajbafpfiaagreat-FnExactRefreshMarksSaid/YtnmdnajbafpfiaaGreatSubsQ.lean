/-
  The laws' helpers on bindings: eqBinding, eqBindingS, markBindingS, heldBindingS.
  Substitutions: how much they hold; the program's answers that are lists of bindings.
-/
import Derived.Test.YtnmdnajbafpfiaaGreatRows3
import Derived.Deep.RegionHeld3
import Derived.Deep.Cut
import Derived.Test.YtnmdnajbafpfiaaGreatSubstT
import Derived.Test.YtnmdnajbafpfiaaGreatPuts
namespace Go.Proofs.YtnmdnajbafpfiaaGreat
open Go.RowKit
set_option linter.unusedVariables false
set_option linter.unusedSimpArgs false

set_option maxHeartbeats 1000000 in
set_option maxRecDepth 100000 in
theorem eqBinding_any (b : Bd) (V V' : Value) (w : World) (hA : ArgsAt w V b.t.args) (hA' : ArgsAt w V' b.t.args) (hZ : b.t.sz ≤ 1048576) :
    Calls Tryz.prog 43 #[.agg #[.int .i64 b.v, .int .i64 b.t.kind, .int .i64 b.t.num, .string b.t.name, V], .agg #[.int .i64 b.v, .int .i64 b.t.kind, .int .i64 b.t.num, .string b.t.name, V']] w (Yes w) := by
  obtain ⟨a, cap, rfl⟩ := hA.slice
  obtain ⟨a', cap', rfl⟩ := hA'.slice
  have HA := Lib.hid (at_args hA)
  have HA' := Lib.hid (at_args hA')
  have B0 : Hid (Below w.heap.size w ((w.alloc (.cells #[.int .i64 b.v, .int .i64 b.t.kind, .int .i64 b.t.num, .string b.t.name, .slice a b.t.args.length cap] 69)).alloc (.cells #[.int .i64 b.v, .int .i64 b.t.kind, .int .i64 b.t.num, .string b.t.name, .slice a' b.t.args.length cap'] 69))) := Lib.hid (belowAlloc (belowAlloc (Below.refl _ _) _) _)
  have HC := Lib.hid (eqTerm_any b.t _ _ _ (HA.out.read B0.out).argsAt (HA'.out.read B0.out).argsAt hZ)
  clear hA hA'
  go_enter Tryz.func43, Tryz.ntmps43
  go_wp2_with fail
  refine HC.out.mono ?_
  rintro e w' ⟨rfl, hb⟩
  have HB := Lib.hid (belowOn B0.out (Nat.le_refl _) hb)
  clear hb HC
  go_wp2
  go_ret
  exact ⟨rfl, HB.out⟩

set_option maxHeartbeats 2000000 in
set_option maxRecDepth 100000 in
theorem eqBindingL_any (l : List Bd) (V V' : Value) (w : World) (hA : ListS bdE w Any V l) (hA' : ListS bdE w Any V' l) (hE : EachB l) :
    Calls Tryz.prog 16 #[V, V'] w (Yes w) := by
  obtain ⟨a, cap, rfl⟩ := hA.slice
  obtain ⟨a', cap', rfl⟩ := hA'.slice
  have HA := Lib.hid hA
  have HA' := Lib.hid hA'
  have hL : l.length ≤ 1048576 := hE.1
  clear hA hA'
  go_enter Tryz.func16, Tryz.ntmps16
  go_wp2
  go_loopw [5] (fun i wr => ∃ k : Nat, k ≤ l.length ∧ i = .int .i64 k ∧ Hid (Below w.heap.size w wr)) (fun i _ => l.length - (intOf i).toNat)
  case atStart => exact ⟨0, Nat.zero_le _, rfl, Lib.hid (Below.refl _ _)⟩
  case round =>
    obtain ⟨k, hk, rfl, HB⟩ := hrel
    by_cases hlt : k < l.length
    · have hltI : (k : Int) < (l.length : Int) := by omega
      obtain ⟨t, ht⟩ : ∃ t, l[k]? = some t := ⟨_, List.getElem?_eq_getElem hlt⟩
      obtain ⟨g, off, u1, u2, rfl, hg, hq, hc, hu⟩ := HA.out.bd ht
      obtain ⟨g', off', v1, v2, rfl, hg', hq', hc', hv⟩ := HA'.out.bd ht
      have HCE : Hid (∀ W, Below wr.heap.size wr W → W.cell? ⟨g, off + k * 5, none⟩ = some (.int .i64 t.v) ∧ W.cell? ⟨g, off + k * 5 + 1, none⟩ = some (.int .i64 t.t.kind) ∧ W.cell? ⟨g, off + k * 5 + 2, none⟩ = some (.int .i64 t.t.num) ∧ W.cell? ⟨g, off + k * 5 + 3, none⟩ = some (.string t.t.name) ∧ W.cell? ⟨g, off + k * 5 + 4, none⟩ = some (.slice u1 t.t.args.length u2) ∧
          W.cell? ⟨g', off' + k * 5, none⟩ = some (.int .i64 t.v) ∧ W.cell? ⟨g', off' + k * 5 + 1, none⟩ = some (.int .i64 t.t.kind) ∧ W.cell? ⟨g', off' + k * 5 + 2, none⟩ = some (.int .i64 t.t.num) ∧ W.cell? ⟨g', off' + k * 5 + 3, none⟩ = some (.string t.t.name) ∧ W.cell? ⟨g', off' + k * 5 + 4, none⟩ = some (.slice v1 t.t.args.length v2)) := Lib.hid fun W bW => by
        have hb := belowOn HB.out (Nat.le_refl _) bW
        obtain ⟨d0, d1, d2, d3, d4⟩ := hc W hb
        obtain ⟨e0, e1, e2, e3, e4⟩ := hc' W hb
        exact ⟨d0, d1, d2, d3, d4, e0, e1, e2, e3, e4⟩
      have HEQ : Hid (∀ W, Below wr.heap.size wr W → Calls Tryz.prog 43 #[.agg #[.int .i64 t.v, .int .i64 t.t.kind, .int .i64 t.t.num, .string t.t.name, .slice u1 t.t.args.length u2], .agg #[.int .i64 t.v, .int .i64 t.t.kind, .int .i64 t.t.num, .string t.t.name, .slice v1 t.t.args.length v2]] W (Yes W)) := Lib.hid fun W bW => by
        have hb := belowOn HB.out (Nat.le_refl _) bW
        exact eqBinding_any t _ _ W (hu.at.kept hb) (hv.at.kept hb) (by have := hE.2 t (List.mem_of_getElem? ht); omega)
      clear hc hc' hu hv hq hq' ht
      have hb0 : Below wr.heap.size wr wr := Below.refl _ _
      have hbd : Below wr.heap.size wr wr.drew := hb0.drew
      obtain ⟨d0, d1, d2, d3, d4, e0, e1, e2, e3, e4⟩ := HCE.out wr hb0
      have HTR : Hid (∀ a b, Below wr.heap.size wr a → Below a.heap.size a b → Below wr.heap.size wr b) := Lib.hid fun a b h1 h2 => belowOn h1 (Nat.le_refl _) h2
      generalize t.v = tv at HCE HEQ d0 e0
      generalize t.t.kind = tk at HCE HEQ d1 e1
      generalize t.t.num = ti at HCE HEQ d2 e2
      generalize t.t.name = ts at HCE HEQ d3 e3
      go_wp2_with fail
      go_region_held3 (fun w' => Below wr.heap.size wr w' ∧ w'.cell? ⟨g, off + k * 5, none⟩ = some (.int .i64 tv) ∧ w'.cell? ⟨g, off + k * 5 + 1, none⟩ = some (.int .i64 tk) ∧ w'.cell? ⟨g, off + k * 5 + 2, none⟩ = some (.int .i64 ti) ∧ w'.cell? ⟨g, off + k * 5 + 3, none⟩ = some (.string ts) ∧ w'.cell? ⟨g, off + k * 5 + 4, none⟩ = some (.slice u1 t.t.args.length u2) ∧
          w'.cell? ⟨g', off' + k * 5, none⟩ = some (.int .i64 tv) ∧ w'.cell? ⟨g', off' + k * 5 + 1, none⟩ = some (.int .i64 tk) ∧ w'.cell? ⟨g', off' + k * 5 + 2, none⟩ = some (.int .i64 ti) ∧ w'.cell? ⟨g', off' + k * 5 + 3, none⟩ = some (.string ts) ∧ w'.cell? ⟨g', off' + k * 5 + 4, none⟩ = some (.slice v1 t.t.args.length v2)) (go_keep)
        (first
          | (go_at_call 43; (with_reducible refine Calls.mono (HEQ.out _ ?_) ?_); (assumption); rintro e w' ⟨rfl, hb⟩; have hB' := HTR.out _ _ (by assumption) hb; obtain ⟨k0, k1, k2, k3, k4, k5, k6, k7, k8, k9⟩ := HCE.out _ hB'))
      all_goals (go_wp2; go_roundw; (case rel => exact ⟨k + 1, by omega, by go_num, Lib.hid (belowOn HB.out (Nat.le_refl _) (by assumption))⟩); (case measure => simp [intOf]; omega))
    · go_wp2
      go_ret
      exact ⟨rfl, HB.out⟩

/-! ### Marks -/
def wkB (b : Bd) : Nat := 1 + 3 * b.t.nodes
def markBd (k : Int) (b : Bd) : Bd := ⟨k, markT (k + 1) b.t⟩
def markB (k : Int) (l : List Bd) : List Bd := markW markBd wkB k l
def nkB (l : List Bd) : Nat := sumW wkB l
theorem nkB_sz (l : List Bd) : nkB l ≤ 4 * szB l := by
  unfold nkB szB
  induction l with
  | nil => simp [sumW]
  | cons b l ih =>
    rw [sumW, sumW]
    have := nodes_sz b.t
    have e1 : wkB b = 1 + 3 * b.t.nodes := rfl
    have e2 : wdB b = 1 + b.t.sz := rfl
    omega

set_option maxHeartbeats 2000000 in
set_option maxRecDepth 100000 in
theorem markBindings_any (l : List Bd) (V : Value) (k : Int) (S : Nat → Prop) (w : World) (hO : ListO bdE 69 w S V l) (hk0 : 0 < k) (hk1 : k + (nkB l : Int) ≤ 1099511627776) :
    Calls Tryz.prog 18 #[V, .int .i64 k] w fun e w' => e = .returned (.int .i64 (k + (nkB l : Int))) ∧ ListO bdE 69 w' S V (markB k l) ∧ Only S w w' := by
  obtain ⟨a, cap, rfl⟩ := hO.slice
  have HO := Lib.hid hO
  have hL : l.length ≤ 1099511627776 := by have := sumW_len (wd := wkB) (fun x => by unfold wkB; omega) l; unfold nkB at hk1; omega
  clear hO
  go_enter Tryz.func18, Tryz.ntmps18
  go_wp2
  go_loopw [1, 5] (fun kv i wr => ∃ (j : Nat) (c : Int), j ≤ l.length ∧ kv = .int .i64 c ∧ i = .int .i64 j ∧ Hid (c = k + (sumW wkB (l.take j) : Int)) ∧ Hid (ListO bdE 69 wr S (.slice a l.length cap) (mixW markBd wkB k l j)) ∧ Hid (Only S w wr))
      (fun _ i _ => l.length - (intOf i).toNat)
  case atStart => exact ⟨0, k, Nat.zero_le _, rfl, rfl, Lib.hid (by simp [sumW]), Lib.hid (by rw [mixW_zero]; exact HO.out), Lib.hid (Only.refl _ _)⟩
  case round =>
    obtain ⟨j, c, hj, rfl, rfl, HC, HR, HY⟩ := hrel
    by_cases hlt : j < l.length
    · obtain ⟨x, hx⟩ : ∃ x, l[j]? = some x := ⟨_, List.getElem?_eq_getElem hlt⟩
      have HX := Lib.hid hx
      have hm := mixW_at (f := markBd) (wd := wkB) (k := k) hx
      obtain ⟨g, cap', V0, C0, hv, hSg, _, hgw, f0, hcc, _⟩ := HR.out.at hm
      simp only [Value.slice.injEq] at hv
      obtain ⟨rfl, hq, rfl⟩ := hv
      clear hq
      have c0 : wr.cell? ⟨g, j * 5, none⟩ = some (.int .i64 x.v) := hcc 0 _ rfl
      have c1 : wr.cell? ⟨g, j * 5 + 1, none⟩ = some (.int .i64 x.t.kind) := hcc 1 _ rfl
      have c2 : wr.cell? ⟨g, j * 5 + 2, none⟩ = some (.int .i64 x.t.num) := hcc 2 _ rfl
      have hcb : 0 < c ∧ c + (wkB x : Int) ≤ 1099511627776 := by
        have h1 := HC.out
        have h2 := sumW_at (wd := wkB) hx
        unfold nkB at hk1
        omega
      obtain ⟨hc0, hc1⟩ := hcb
      have hxn := nodes_pos x.t
      have H2 := Lib.hid (HR.out.bdInts hm c (c + 1) (c + 1 + 1))
      have HM := Lib.hid hm
      have HN' := Lib.hid (show x.t.nodes = 1 + nodesL x.t.args from nodes_eq x.t)
      have hwk : (wkB x : Int) = 1 + 3 * (x.t.nodes : Int) := by unfold wkB; omega
      rw [hwk] at hc1
      clear hx hm hcc hwk
      have HT := Lib.hid (mtext_any (c + 1 + 1 + 1) (((wr.setCell ⟨g, j * 5, none⟩ (.int .i64 c)).setCell ⟨g, j * 5 + 1, none⟩ (.int .i64 (c + 1))).setCell ⟨g, j * 5 + 2, none⟩ (.int .i64 (c + 1 + 1))) (by omega) (by omega))
      go_wp2_with fail
      refine HT.out.mono ?_
      rintro e w3 ⟨rfl, hb⟩
      have HO3 := Lib.hid (H2.out.2.kept hb)
      have HY3 := Lib.hid ((HY.out.trans H2.out.1).trans (Only.of_below hb))
      have hj3 : ((mixW markBd wkB k l j).set j ⟨c, .mk (c + 1) (c + 1 + 1) x.t.name x.t.args⟩)[j]? = some ⟨c, .mk (c + 1) (c + 1 + 1) x.t.name x.t.args⟩ := by rw [List.getElem?_set_self (List.getElem?_eq_some_iff.1 HM.out).1]
      obtain ⟨g3, cap3, V3, C3, hv3, _, _, hgw3, f3, hcc3, _⟩ := HO3.out.at hj3
      simp only [Value.slice.injEq, Option.some.injEq, Addr.mk.injEq] at hv3
      obtain ⟨⟨rfl, _⟩, hq, rfl⟩ := hv3
      clear hq
      have d3 : w3.cell? ⟨g, j * 5 + 3, none⟩ = some (.string x.t.name) := hcc3 3 _ rfl
      have H4 := Lib.hid (HO3.out.bdName hj3 (mtx (c + 1 + 1 + 1)))
      obtain ⟨ua, uc, C4, d4', hsub, hch, hput⟩ := H4.out.2
      have e4 : w3.cell? ⟨g, j * 5 + 4, none⟩ = some (.slice ua x.t.args.length uc) := d4'
      have HPUT := Lib.hid hput
      have HSUB := Lib.hid hsub
      have HCALL := Lib.hid (markTerms_any (nodesL x.t.args + 1) x.t.args (.slice ua x.t.args.length uc) (c + 1 + 1 + 1 + 1) C4 (w3.setCell ⟨g, j * 5 + 3, none⟩ (.string (mtx (c + 1 + 1 + 1)))) (Nat.lt_succ_self _) hch (by omega) (by have := HN'.out; omega) (by have := HN'.out; have h := nodesL_len x.t.args; omega))
      clear hb c0 c1 c2 d4' hsub hch hput hj3 f0 HT hcc3
      go_wp2_with fail
      refine HCALL.out.mono ?_
      rintro e w5 ⟨rfl, ho5, hb5⟩
      have HO5 := Lib.hid (HPUT.out w5 _ ho5 hb5)
      have HY5 := Lib.hid ((HY3.out.trans H4.out.1).trans (hb5.sub HSUB.out))
      clear ho5 hb5 HCALL d3 e4 f3
      go_wp2
      go_roundw
      case rel =>
        refine ⟨j + 1, c + 1 + 1 + 1 + 1 + 3 * (nodesL x.t.args : Int), by omega, rfl, by go_num, Lib.hid ?_, Lib.hid ?_, HY5⟩
        · have h1 := sumW_take (wd := wkB) HX.out
          have h2 := HN'.out
          have h3 := HC.out
          have h4 : wkB x = 1 + 3 * x.t.nodes := rfl
          rw [h1]
          omega
        · have h5 := HO5.out
          rw [List.set_set] at h5
          rw [← mixW_set HX.out, ← HC.out, markBd, markT_eq]
          exact h5
      case measure => simp [intOf]; omega
    · go_wp2
      go_ret
      obtain rfl : j = l.length := by omega
      have h1 := HC.out
      have h2 := HR.out
      rw [List.take_length] at h1
      rw [mixW_end] at h2
      exact ⟨by rw [← show c = k + (nkB l : Int) from h1]; rfl, h2, HY.out⟩

theorem markBindingL_any (l : List Bd) (V : Value) (k : Int) (lo hi : Nat) (w : World) (hO : At w lo hi (ListOP bdE 69 lo hi V l)) (hk0 : 0 < k) (hk1 : k + (nkB l : Int) ≤ 1099511627776) :
    Calls Tryz.prog 18 #[V, .int .i64 k] w fun e w' => e = .returned (.int .i64 (k + (nkB l : Int))) ∧ At w' lo hi (ListOP bdE 69 lo hi V (markB k l)) ∧ Only (iv lo hi) w w' :=
  (markBindings_any l V k (iv lo hi) w hO.now hk0 hk1).mono fun e w' ⟨he, ho, hb⟩ => ⟨he, at_listO ho (Nat.le_trans hO.le hb.size), hb⟩
end Go.Proofs.YtnmdnajbafpfiaaGreat

namespace Go.Proofs.YtnmdnajbafpfiaaGreat
open Go.RowKit
set_option linter.unusedVariables false

theorem nk_bd {l : List Bd} (h : szB l ≤ 1048576) : nkB l ≤ 4294967296 := by have := nkB_sz l; omega
theorem szB_each {l : List Bd} {M : Nat} (h : ∀ b ∈ l, b.t.sz ≤ M) : szB l ≤ l.length * (M + 1) := by
  induction l with
  | nil => simp [szB_nil]
  | cons b l ih =>
    have h1 := ih fun x hx => h x (by simp [hx])
    have h2 := h b (by simp)
    have e : szB (b :: l) = wdB b + szB l := rfl
    have e2 : wdB b = 1 + b.t.sz := rfl
    rw [e, e2, List.length_cons, Nat.succ_mul]
    omega
theorem SubstP.each {s : List Bd} (h : SubstP s) : EachB s := ⟨by have := h.1.2.2; omega, fun b hb => by
  have h1 := good_sz (h.good b hb)
  have h2 := h.nodes b hb
  omega⟩
theorem SubstP.nk {s : List Bd} (h : SubstP s) : nkB s ≤ 4294967296 := by
  have h1 := szB_each (M := 1048575) h.each.2
  have h2 := h.1.2.2
  have h3 : s.length * (1048575 + 1) ≤ 400 * (1048575 + 1) := Nat.mul_le_mul_right _ h2
  have h4 := nkB_sz s
  omega
/-- The program's answer: a new list of the call's own, and whether. -/
def NewB2 (l : List Bd) (b : Bool) (w : World) (e : Ending) (w' : World) : Prop := ∃ v, e = .returned (.tuple #[v, .bool b]) ∧ ListO bdE 69 w' (iv w.heap.size w'.heap.size) v l ∧ Below w.heap.size w w'
/-- The program's answer: a new list of the call's own. -/
def NewB (l : List Bd) (w : World) (e : Ending) (w' : World) : Prop := ∃ v, e = .returned v ∧ ListO bdE 69 w' (iv w.heap.size w'.heap.size) v l ∧ Below w.heap.size w w'
end Go.Proofs.YtnmdnajbafpfiaaGreat

