/-
  slices.BinarySearchFunc over an ascending list of terms. (Written by wip/tools/gen_bins.py.)
-/
import Derived.Test.YtoihimdfmncdoaaAscT
import Derived.Test.YtoihimdfmncdoaaEachT
import Derived.Deep.RegionHeld3
import Derived.IntWalk
namespace Go.Proofs.Ytoihimdfmncdoaa
open Go.RowKit
set_option linter.unusedVariables false
set_option linter.unusedSimpArgs false

open Classical in
noncomputable def hasT (l : List Tm) (t : Tm) : Bool := decide (t ∈ l)
theorem hasT_true {l : List Tm} {t : Tm} : hasT l t = true ↔ t ∈ l := by simp [hasT]
theorem hasT_false {l : List Tm} {t : Tm} : hasT l t = false ↔ ¬ t ∈ l := by simp [hasT]
/-- What is found: the place, and whether the term is there. -/
def FindT (l : List Tm) (t : Tm) (e : Ending) : Prop := ∃ k : Nat, e = .returned (.tuple #[.int .i64 (k : Int), .bool (hasT l t)]) ∧ AtT l t k

set_option maxRecDepth 100000 in
set_option maxHeartbeats 8000000 in
theorem binarySearch_any (l : List Tm) (V : Value) (t : Tm) (Vt : Value) (w : World) (hA : ArgsAt w V l) (hB : ArgsAt w Vt t.args) (hl : AscT l) (ht : Good t) (hE : EachT l) (hZ : t.sz ≤ 1048576) :
    Calls Try.prog 72 #[V, .agg #[.int .i64 t.kind, .int .i64 t.num, .string t.name, Vt], .func (.func 60) #[] #[]] w fun e w' => FindT l t e ∧ Below w.heap.size w w' := by
  obtain ⟨a, cap, rfl⟩ := hA.slice
  obtain ⟨ab, cb, rfl⟩ := hB.slice
  have HA := Lib.hid hA
  have HB := Lib.hid hB
  have hL : l.length ≤ 1048577 := hE.1
  have HASC := Lib.hid (And.intro hl ht)
  have HSZ := Lib.hid (And.intro hE.2 hZ)
  have hal : Below w.heap.size w (w.alloc (.cells #[.int .i64 t.kind, .int .i64 t.num, .string t.name, .slice ab t.args.length cb] 25)) := belowAlloc (Below.refl _ _) _
  have HW := Lib.hid hal
  have HBX := Lib.hid (at_box_of w #[.int .i64 t.kind, .int .i64 t.num, .string t.name, .slice ab t.args.length cb] 25 w.heap.size rfl)
  obtain ⟨nb, hnb⟩ : ∃ n : Nat, w.heap.size = n := ⟨_, rfl⟩
  clear hA hB hl ht hE hZ hal
  go_enter Try.func72, Try.ntmps72
  go_upto_region 1 with (fail)
  generalize hw1 : w.alloc (.cells #[.int .i64 t.kind, .int .i64 t.num, .string t.name, .slice ab t.args.length cb] 25) = w1 at HW HBX ⊢
  clear hw1
  rw [hnb] at HBX
  clear hnb
  go_wp2
  go_loopw [9, 10] (fun iv jv wr => ∃ p q : Nat, p ≤ q ∧ q ≤ l.length ∧ iv = .int .i64 (p : Int) ∧ jv = .int .i64 (q : Int) ∧ Hid (∀ (i : Nat) (x : Tm), p = i + 1 → l[i]? = some x → x.cmp t < 0) ∧ Hid (∀ x, q < l.length → l[q]? = some x → ¬ x.cmp t < 0) ∧ Hid (Below w1.heap.size w1 wr)) (fun iv jv _ => (intOf jv - intOf iv).toNat)
  case atStart => exact ⟨0, l.length, Nat.zero_le _, Nat.le_refl _, rfl, rfl, Lib.hid (fun i x h => by omega), Lib.hid (fun x h => by omega), Lib.hid (Below.refl _ _)⟩
  case round =>
    obtain ⟨p, q, hpq, hql, rfl, rfl, HP, HQ, HB1⟩ := hrel
    have HWR : Hid (Below w.heap.size w wr) := Lib.hid (belowOn HW.out (Nat.le_refl _) HB1.out)
    have hself : Below wr.heap.size wr wr := Below.refl _ _
    have hdrew : Below wr.heap.size wr wr.drew := hself.drew
    have HTR : Hid (∀ a b, Below wr.heap.size wr a → Below a.heap.size a b → Below wr.heap.size wr b) := Lib.hid fun a b h1 h2 => belowOn h1 (Nat.le_refl _) h2
    have HCB : Hid (∀ W, Below wr.heap.size wr W → W.cell? ⟨nb, 0, none⟩ = some (.int .i64 t.kind) ∧ W.cell? ⟨nb, 1, none⟩ = some (.int .i64 t.num) ∧ W.cell? ⟨nb, 2, none⟩ = some (.string t.name) ∧ W.cell? ⟨nb, 3, none⟩ = some (.slice ab t.args.length cb)) := Lib.hid fun W hW => ((HBX.out.read HB1.out).read hW).cells
    have HENW : Hid (∀ W, Below wr.heap.size wr W → Below w1.heap.size w1 W) := Lib.hid fun W hW => belowOn HB1.out (Nat.le_refl _) hW
    obtain ⟨e0, e1, e2, e3⟩ := HCB.out wr hself
    by_cases hlt : p < q
    · have hltI : (p : Int) < (q : Int) := by omega
      obtain ⟨h, hh⟩ : ∃ h : Nat, h = (p + q) / 2 := ⟨_, rfl⟩
      have hph : p ≤ h ∧ h < q := by omega
      have w1e : IntKind.i64.wrap ((p : Int) + (q : Int)) = ((p + q : Nat) : Int) := by rw [IntWalk.i64_in _ (by omega)]; omega
      have w2e : IntKind.u64.wrap ((p + q : Nat) : Int) = ((p + q : Nat) : Int) := by simp [IntKind.wrap, IntKind.bits, IntKind.signed]; omega
      go_upto_region 5 with (fail)
      have hhI : ((p : Int) + (q : Int)) / 2 = (h : Int) := by omega
      rw [hhI]
      obtain ⟨x, hx⟩ : ∃ x, l[h]? = some x := ⟨_, List.getElem?_eq_getElem (by omega)⟩
      obtain ⟨g, off, u1, u2, rfl, hg, _, hc, hu⟩ := HA.out.elem hx
      have HCX : Hid (∀ W, Below wr.heap.size wr W → W.cell? ⟨g, off + h * 4, none⟩ = some (.int .i64 x.kind) ∧ W.cell? ⟨g, off + h * 4 + 1, none⟩ = some (.int .i64 x.num) ∧ W.cell? ⟨g, off + h * 4 + 2, none⟩ = some (.string x.name) ∧ W.cell? ⟨g, off + h * 4 + 3, none⟩ = some (.slice u1 x.args.length u2)) := Lib.hid fun W hW => hc W (belowOn HWR.out (Nat.le_refl _) hW)
      have HC1 : Hid (∀ W, Below wr.heap.size wr W → Calls Try.prog 60 #[.agg #[.int .i64 x.kind, .int .i64 x.num, .string x.name, .slice u1 x.args.length u2], .agg #[.int .i64 t.kind, .int .i64 t.num, .string t.name, .slice ab t.args.length cb]] W fun e w' => e = .returned (.int .i64 (x.cmp t)) ∧ Below W.heap.size W w') := Lib.hid fun W hW => compare_any (x.nodes + 1) x t _ _ W (Nat.lt_succ_self _) (hu.kept (belowOn HWR.out (Nat.le_refl _) hW)) (HB.out.kept (belowOn HWR.out (Nat.le_refl _) hW)) (HSZ.out.1 x (List.mem_of_getElem? hx)) HSZ.out.2 (HASC.out.1.good hx) HASC.out.2
      have HX := Lib.hid hx
      have HBD := Lib.hid (cmp_bd x t)
      obtain ⟨c, hcc⟩ : ∃ c, x.cmp t = c := ⟨_, rfl⟩
      rw [hcc] at HC1 HBD
      have HCC := Lib.hid hcc
      have hcb := HBD.out
      have m0 : (0 : Int) ≤ (h : Int) := by omega
      have m1 : (h : Int) < (l.length : Int) := by omega
      obtain ⟨c0, c1, c2, c3⟩ := HCX.out wr hself
      have HPH := Lib.hid (And.intro hph hh)
      clear hx hc hu hcc HBD hhI hh hph w1e w2e
      by_cases hd : c < 0
      · have g1 : decide (c < 0) = true := decide_eq_true hd
        have HD := Lib.hid hd
        clear hd
        refine wp_region_held_drew (S := (fun w' => Below wr.heap.size wr w' ∧ w'.cell? ⟨nb, 0, none⟩ = some (.int .i64 t.kind) ∧ w'.cell? ⟨nb, 1, none⟩ = some (.int .i64 t.num) ∧ w'.cell? ⟨nb, 2, none⟩ = some (.string t.name) ∧ w'.cell? ⟨nb, 3, none⟩ = some (.slice ab t.args.length cb) ∧ w'.cell? ⟨g, off + h * 4, none⟩ = some (.int .i64 x.kind) ∧ w'.cell? ⟨g, off + h * 4 + 1, none⟩ = some (.int .i64 x.num) ∧ w'.cell? ⟨g, off + h * 4 + 2, none⟩ = some (.string x.name) ∧ w'.cell? ⟨g, off + h * 4 + 3, none⟩ = some (.slice u1 x.args.length u2))) (by kernel_rfl) (by (try dsimp only); go_keep) (fun hHeld => ?_)
        (refine wpAnyH_take (i := 0) (oi := ⟨_, _, _, _, _, _⟩) (v := ?_) rfl (by kernel_rfl) (by kernel_rfl) (by kernel_rfl) (fun _ _ _ h => h) (Or.inl ⟨by rfl, ?_⟩) (by assumption) ?_; rotate_left; focus ((intro w' hSw; (try dsimp only at hSw); go_simp; (try with_reducible rfl)))); (try simp only [Act.put, List.setIfInBounds_toArray, List.set_cons_zero, List.set_cons_succ])
        (refine wpAnyH_take (i := 1) (oi := ⟨_, _, _, _, _, _⟩) (v := ?_) rfl (by kernel_rfl) (by kernel_rfl) (by kernel_rfl) (fun _ _ _ h => h) (Or.inl ⟨by rfl, ?_⟩) (by assumption) ?_; rotate_left; focus ((intro w' hSw; (try dsimp only at hSw); go_simp; (try with_reducible rfl)))); (try simp only [Act.put, List.setIfInBounds_toArray, List.set_cons_zero, List.set_cons_succ])
        (refine wpAnyH_take (i := 2) (oi := ⟨_, _, _, _, _, _⟩) (v := ?_) rfl (by kernel_rfl) (by kernel_rfl) (by kernel_rfl) (fun _ _ _ h => h) (Or.inl ⟨by rfl, ?_⟩) (by assumption) ?_; rotate_left; focus ((intro w' hSw; (try dsimp only at hSw); go_simp; (try with_reducible rfl)))); (try simp only [Act.put, List.setIfInBounds_toArray, List.set_cons_zero, List.set_cons_succ])
        (refine wpAnyH_take (i := 3) (oi := ⟨_, _, _, _, _, _⟩) (v := ?_) rfl (by kernel_rfl) (by kernel_rfl) (by kernel_rfl) (fun _ _ _ h => h) (Or.inl ⟨by rfl, ?_⟩) (by assumption) ?_; rotate_left; focus ((intro w' hSw; (try dsimp only at hSw); go_simp; (try with_reducible rfl)))); (try simp only [Act.put, List.setIfInBounds_toArray, List.set_cons_zero, List.set_cons_succ])
        (refine wpAnyH_take (i := 4) (oi := ⟨_, _, _, _, _, _⟩) (v := ?_) rfl (by kernel_rfl) (by kernel_rfl) (by kernel_rfl) (fun _ _ _ h => h) (Or.inl ⟨by rfl, ?_⟩) (by assumption) ?_; rotate_left; focus ((intro w' hSw; (try dsimp only at hSw); go_simp; (try with_reducible rfl)))); (try simp only [Act.put, List.setIfInBounds_toArray, List.set_cons_zero, List.set_cons_succ])
        (refine wpAnyH_take (i := 5) (oi := ⟨_, _, _, _, _, _⟩) (v := ?_) rfl (by kernel_rfl) (by kernel_rfl) (by kernel_rfl) (fun _ _ _ h => h) (Or.inl ⟨by rfl, ?_⟩) (by assumption) ?_; rotate_left; focus ((intro w' hSw; (try dsimp only at hSw); go_simp; (try with_reducible rfl)))); (try simp only [Act.put, List.setIfInBounds_toArray, List.set_cons_zero, List.set_cons_succ])
        refine wpAnyH_ready (rs := [6]) (by kernel_rfl) (by simp) ?_
        refine AllReadyH.cons (o := ⟨_, _, _, _, _, _⟩) rfl (fun K hK => ?_) AllReadyH.nil
        go_simp
        (go_at_call 60; (with_reducible refine Calls.mono (HC1.out _ ?_) ?_); (assumption); rintro e w' ⟨rfl, hb⟩; have hB' := HTR.out _ _ (by assumption) hb; obtain ⟨k0, k1, k2, k3⟩ := HCB.out _ hB'; obtain ⟨c0, c1, c2, c3⟩ := HCX.out _ hB')
        (try go_wp2_with fail)
        refine hK.out _ _ (by (try dsimp only); (first | go_keep | (refine ⟨by assumption, ?_⟩; go_keep))) (fun hHeld => ?_)
        clear hK K
        (try simp only [Act.put, List.setIfInBounds_toArray, List.set_cons_zero, List.set_cons_succ])
        (refine wpAnyH_take (i := 7) (oi := ⟨_, _, _, _, _, _⟩) (v := ?_) rfl (by kernel_rfl) (by kernel_rfl) (by kernel_rfl) (fun _ _ _ h => h) (Or.inl ⟨by rfl, ?_⟩) (by assumption) ?_; rotate_left; focus ((intro w' hSw; (try dsimp only at hSw); go_simp; (try with_reducible rfl)))); (try simp only [Act.put, List.setIfInBounds_toArray, List.set_cons_zero, List.set_cons_succ])
        refine wpAnyH_done (by kernel_rfl) ?_ _
        have HEW : Hid (Below w1.heap.size w1 _) := Lib.hid (HENW.out _ (by assumption))
        have hp1 : (h : Int) + 1 ≤ 9223372036854775807 := by omega
        clear c0 c1 c2 c3 e0 e1 e2 e3 hHeld
        go_wp2
        go_roundw
        case rel =>
          refine ⟨h + 1, q, by have := HPH.out; omega, hql, by go_num, rfl, Lib.hid fun i y hi hy => ?_, Lib.hid (fun y hl hy => by have := HQ.out y hl hy; omega), HEW⟩
          obtain rfl : i = h := by omega
          cases hy.symm.trans HX.out
          have := HCC.out; have := HD.out; omega
        case measure => have := HPH.out; simp [intOf]; omega
      · have g1 : decide (c < 0) = false := decide_eq_false hd
        have HD := Lib.hid hd
        clear hd
        refine wp_region_held_drew (S := (fun w' => Below wr.heap.size wr w' ∧ w'.cell? ⟨nb, 0, none⟩ = some (.int .i64 t.kind) ∧ w'.cell? ⟨nb, 1, none⟩ = some (.int .i64 t.num) ∧ w'.cell? ⟨nb, 2, none⟩ = some (.string t.name) ∧ w'.cell? ⟨nb, 3, none⟩ = some (.slice ab t.args.length cb) ∧ w'.cell? ⟨g, off + h * 4, none⟩ = some (.int .i64 x.kind) ∧ w'.cell? ⟨g, off + h * 4 + 1, none⟩ = some (.int .i64 x.num) ∧ w'.cell? ⟨g, off + h * 4 + 2, none⟩ = some (.string x.name) ∧ w'.cell? ⟨g, off + h * 4 + 3, none⟩ = some (.slice u1 x.args.length u2))) (by kernel_rfl) (by (try dsimp only); go_keep) (fun hHeld => ?_)
        (refine wpAnyH_take (i := 0) (oi := ⟨_, _, _, _, _, _⟩) (v := ?_) rfl (by kernel_rfl) (by kernel_rfl) (by kernel_rfl) (fun _ _ _ h => h) (Or.inl ⟨by rfl, ?_⟩) (by assumption) ?_; rotate_left; focus ((intro w' hSw; (try dsimp only at hSw); go_simp; (try with_reducible rfl)))); (try simp only [Act.put, List.setIfInBounds_toArray, List.set_cons_zero, List.set_cons_succ])
        (refine wpAnyH_take (i := 1) (oi := ⟨_, _, _, _, _, _⟩) (v := ?_) rfl (by kernel_rfl) (by kernel_rfl) (by kernel_rfl) (fun _ _ _ h => h) (Or.inl ⟨by rfl, ?_⟩) (by assumption) ?_; rotate_left; focus ((intro w' hSw; (try dsimp only at hSw); go_simp; (try with_reducible rfl)))); (try simp only [Act.put, List.setIfInBounds_toArray, List.set_cons_zero, List.set_cons_succ])
        (refine wpAnyH_take (i := 2) (oi := ⟨_, _, _, _, _, _⟩) (v := ?_) rfl (by kernel_rfl) (by kernel_rfl) (by kernel_rfl) (fun _ _ _ h => h) (Or.inl ⟨by rfl, ?_⟩) (by assumption) ?_; rotate_left; focus ((intro w' hSw; (try dsimp only at hSw); go_simp; (try with_reducible rfl)))); (try simp only [Act.put, List.setIfInBounds_toArray, List.set_cons_zero, List.set_cons_succ])
        (refine wpAnyH_take (i := 3) (oi := ⟨_, _, _, _, _, _⟩) (v := ?_) rfl (by kernel_rfl) (by kernel_rfl) (by kernel_rfl) (fun _ _ _ h => h) (Or.inl ⟨by rfl, ?_⟩) (by assumption) ?_; rotate_left; focus ((intro w' hSw; (try dsimp only at hSw); go_simp; (try with_reducible rfl)))); (try simp only [Act.put, List.setIfInBounds_toArray, List.set_cons_zero, List.set_cons_succ])
        (refine wpAnyH_take (i := 4) (oi := ⟨_, _, _, _, _, _⟩) (v := ?_) rfl (by kernel_rfl) (by kernel_rfl) (by kernel_rfl) (fun _ _ _ h => h) (Or.inl ⟨by rfl, ?_⟩) (by assumption) ?_; rotate_left; focus ((intro w' hSw; (try dsimp only at hSw); go_simp; (try with_reducible rfl)))); (try simp only [Act.put, List.setIfInBounds_toArray, List.set_cons_zero, List.set_cons_succ])
        (refine wpAnyH_take (i := 5) (oi := ⟨_, _, _, _, _, _⟩) (v := ?_) rfl (by kernel_rfl) (by kernel_rfl) (by kernel_rfl) (fun _ _ _ h => h) (Or.inl ⟨by rfl, ?_⟩) (by assumption) ?_; rotate_left; focus ((intro w' hSw; (try dsimp only at hSw); go_simp; (try with_reducible rfl)))); (try simp only [Act.put, List.setIfInBounds_toArray, List.set_cons_zero, List.set_cons_succ])
        refine wpAnyH_ready (rs := [6]) (by kernel_rfl) (by simp) ?_
        refine AllReadyH.cons (o := ⟨_, _, _, _, _, _⟩) rfl (fun K hK => ?_) AllReadyH.nil
        go_simp
        (go_at_call 60; (with_reducible refine Calls.mono (HC1.out _ ?_) ?_); (assumption); rintro e w' ⟨rfl, hb⟩; have hB' := HTR.out _ _ (by assumption) hb; obtain ⟨k0, k1, k2, k3⟩ := HCB.out _ hB'; obtain ⟨c0, c1, c2, c3⟩ := HCX.out _ hB')
        (try go_wp2_with fail)
        refine hK.out _ _ (by (try dsimp only); (first | go_keep | (refine ⟨by assumption, ?_⟩; go_keep))) (fun hHeld => ?_)
        clear hK K
        (try simp only [Act.put, List.setIfInBounds_toArray, List.set_cons_zero, List.set_cons_succ])
        (refine wpAnyH_take (i := 7) (oi := ⟨_, _, _, _, _, _⟩) (v := ?_) rfl (by kernel_rfl) (by kernel_rfl) (by kernel_rfl) (fun _ _ _ h => h) (Or.inl ⟨by rfl, ?_⟩) (by assumption) ?_; rotate_left; focus ((intro w' hSw; (try dsimp only at hSw); go_simp; (try with_reducible rfl)))); (try simp only [Act.put, List.setIfInBounds_toArray, List.set_cons_zero, List.set_cons_succ])
        refine wpAnyH_done (by kernel_rfl) ?_ _
        have HEW : Hid (Below w1.heap.size w1 _) := Lib.hid (HENW.out _ (by assumption))
        clear c0 c1 c2 c3 e0 e1 e2 e3 hHeld
        go_wp2
        go_roundw
        case rel =>
          refine ⟨p, h, HPH.out.1.1, by omega, rfl, rfl, HP, Lib.hid fun y hl hy => ?_, HEW⟩
          cases hy.symm.trans HX.out
          have := HCC.out; have := HD.out; omega
        case measure => have := HPH.out; simp [intOf]; omega
    · obtain rfl : p = q := by omega
      have HAT : Hid (AtT l t p) := Lib.hid (HASC.out.1.atT HASC.out.2 hql HP.out fun x hx => HQ.out x (List.getElem?_eq_some_iff.1 hx).1 hx)
      have HHAS : Hid (∀ c : Bool, (c = true ↔ ∃ x, l[p]? = some x ∧ x.cmp t = 0) → c = hasT l t) := Lib.hid fun c hc => by
        have h := HASC.out.1.has HASC.out.2 HAT.out
        cases hb : hasT l t with
        | true => exact hc.2 (h.1 (hasT_true.1 hb))
        | false =>
          cases c with
          | false => rfl
          | true => exact absurd (h.2 (hc.1 rfl)) (hasT_false.1 hb)
      clear hpq HP HQ
      go_upto_region 8 with (fail)
      by_cases hpl : p < l.length
      · have g0 : decide ((p : Int) < (l.length : Int)) = true := decide_eq_true (by omega)
        have g0n : decide (p < l.length) = true := decide_eq_true hpl
        obtain ⟨x, hx⟩ : ∃ x, l[p]? = some x := ⟨_, List.getElem?_eq_getElem (by omega)⟩
        obtain ⟨g, off, u1, u2, rfl, hg, _, hc, hu⟩ := HA.out.elem hx
        have HCX : Hid (∀ W, Below wr.heap.size wr W → W.cell? ⟨g, off + p * 4, none⟩ = some (.int .i64 x.kind) ∧ W.cell? ⟨g, off + p * 4 + 1, none⟩ = some (.int .i64 x.num) ∧ W.cell? ⟨g, off + p * 4 + 2, none⟩ = some (.string x.name) ∧ W.cell? ⟨g, off + p * 4 + 3, none⟩ = some (.slice u1 x.args.length u2)) := Lib.hid fun W hW => hc W (belowOn HWR.out (Nat.le_refl _) hW)
        have HC1 : Hid (∀ W, Below wr.heap.size wr W → Calls Try.prog 60 #[.agg #[.int .i64 x.kind, .int .i64 x.num, .string x.name, .slice u1 x.args.length u2], .agg #[.int .i64 t.kind, .int .i64 t.num, .string t.name, .slice ab t.args.length cb]] W fun e w' => e = .returned (.int .i64 (x.cmp t)) ∧ Below W.heap.size W w') := Lib.hid fun W hW => compare_any (x.nodes + 1) x t _ _ W (Nat.lt_succ_self _) (hu.kept (belowOn HWR.out (Nat.le_refl _) hW)) (HB.out.kept (belowOn HWR.out (Nat.le_refl _) hW)) (HSZ.out.1 x (List.mem_of_getElem? hx)) HSZ.out.2 (HASC.out.1.good hx) HASC.out.2
        have HX := Lib.hid hx
        obtain ⟨c, hcc⟩ : ∃ c, x.cmp t = c := ⟨_, rfl⟩
        rw [hcc] at HC1
        have HCC := Lib.hid hcc
        have m0 : (0 : Int) ≤ (p : Int) := by omega
        have m1 : (p : Int) < (l.length : Int) := by omega
        obtain ⟨c0, c1, c2, c3⟩ := HCX.out wr hself
        clear hx hc hu hcc hpl
        have HHB : Hid ((c == 0) = hasT l t) := Lib.hid (HHAS.out _ ⟨fun h => ⟨x, HX.out, by rw [HCC.out]; simpa using h⟩, fun ⟨y, hy, h0⟩ => by cases hy.symm.trans HX.out; rw [HCC.out] at h0; simp [h0]⟩)
        refine wp_region_held_drew (S := (fun w' => Below wr.heap.size wr w' ∧ w'.cell? ⟨nb, 0, none⟩ = some (.int .i64 t.kind) ∧ w'.cell? ⟨nb, 1, none⟩ = some (.int .i64 t.num) ∧ w'.cell? ⟨nb, 2, none⟩ = some (.string t.name) ∧ w'.cell? ⟨nb, 3, none⟩ = some (.slice ab t.args.length cb) ∧ w'.cell? ⟨g, off + p * 4, none⟩ = some (.int .i64 x.kind) ∧ w'.cell? ⟨g, off + p * 4 + 1, none⟩ = some (.int .i64 x.num) ∧ w'.cell? ⟨g, off + p * 4 + 2, none⟩ = some (.string x.name) ∧ w'.cell? ⟨g, off + p * 4 + 3, none⟩ = some (.slice u1 x.args.length u2))) (by kernel_rfl) (by (try dsimp only); go_keep) (fun hHeld => ?_)
        (refine wpAnyH_take (i := 0) (oi := ⟨_, _, _, _, _, _⟩) (v := ?_) rfl (by kernel_rfl) (by kernel_rfl) (by kernel_rfl) (fun _ _ _ h => h) (Or.inl ⟨by rfl, ?_⟩) (by assumption) ?_; rotate_left; focus ((intro w' hSw; (try dsimp only at hSw); go_simp; (try with_reducible rfl)))); (try simp only [Act.put, List.setIfInBounds_toArray, List.set_cons_zero, List.set_cons_succ])
        (refine wpAnyH_take (i := 1) (oi := ⟨_, _, _, _, _, _⟩) (v := ?_) rfl (by kernel_rfl) (by kernel_rfl) (by kernel_rfl) (fun _ _ _ h => h) (Or.inl ⟨by rfl, ?_⟩) (by assumption) ?_; rotate_left; focus ((intro w' hSw; (try dsimp only at hSw); go_simp; (try with_reducible rfl)))); (try simp only [Act.put, List.setIfInBounds_toArray, List.set_cons_zero, List.set_cons_succ])
        (refine wpAnyH_take (i := 2) (oi := ⟨_, _, _, _, _, _⟩) (v := ?_) rfl (by kernel_rfl) (by kernel_rfl) (by kernel_rfl) (fun _ _ _ h => h) (Or.inl ⟨by rfl, ?_⟩) (by assumption) ?_; rotate_left; focus ((intro w' hSw; (try dsimp only at hSw); go_simp; (try with_reducible rfl)))); (try simp only [Act.put, List.setIfInBounds_toArray, List.set_cons_zero, List.set_cons_succ])
        (refine wpAnyH_take (i := 3) (oi := ⟨_, _, _, _, _, _⟩) (v := ?_) rfl (by kernel_rfl) (by kernel_rfl) (by kernel_rfl) (fun _ _ _ h => h) (Or.inl ⟨by rfl, ?_⟩) (by assumption) ?_; rotate_left; focus ((intro w' hSw; (try dsimp only at hSw); go_simp; (try with_reducible rfl)))); (try simp only [Act.put, List.setIfInBounds_toArray, List.set_cons_zero, List.set_cons_succ])
        (refine wpAnyH_take (i := 4) (oi := ⟨_, _, _, _, _, _⟩) (v := ?_) rfl (by kernel_rfl) (by kernel_rfl) (by kernel_rfl) (fun _ _ _ h => h) (Or.inl ⟨by rfl, ?_⟩) (by assumption) ?_; rotate_left; focus ((intro w' hSw; (try dsimp only at hSw); go_simp; (try with_reducible rfl)))); (try simp only [Act.put, List.setIfInBounds_toArray, List.set_cons_zero, List.set_cons_succ])
        (refine wpAnyH_take (i := 5) (oi := ⟨_, _, _, _, _, _⟩) (v := ?_) rfl (by kernel_rfl) (by kernel_rfl) (by kernel_rfl) (fun _ _ _ h => h) (Or.inl ⟨by rfl, ?_⟩) (by assumption) ?_; rotate_left; focus ((intro w' hSw; (try dsimp only at hSw); go_simp; (try with_reducible rfl)))); (try simp only [Act.put, List.setIfInBounds_toArray, List.set_cons_zero, List.set_cons_succ])
        (refine wpAnyH_take (i := 6) (oi := ⟨_, _, _, _, _, _⟩) (v := ?_) rfl (by kernel_rfl) (by kernel_rfl) (by kernel_rfl) (fun _ _ _ h => h) (Or.inl ⟨by rfl, ?_⟩) (by assumption) ?_; rotate_left; focus ((intro w' hSw; (try dsimp only at hSw); go_simp; (try with_reducible rfl)))); (try simp only [Act.put, List.setIfInBounds_toArray, List.set_cons_zero, List.set_cons_succ])
        (refine wpAnyH_take (i := 7) (oi := ⟨_, _, _, _, _, _⟩) (v := ?_) rfl (by kernel_rfl) (by kernel_rfl) (by kernel_rfl) (fun _ _ _ h => h) (Or.inl ⟨by rfl, ?_⟩) (by assumption) ?_; rotate_left; focus ((intro w' hSw; (try dsimp only at hSw); go_simp; (try with_reducible rfl)))); (try simp only [Act.put, List.setIfInBounds_toArray, List.set_cons_zero, List.set_cons_succ])
        (refine wpAnyH_take (i := 8) (oi := ⟨_, _, _, _, _, _⟩) (v := ?_) rfl (by kernel_rfl) (by kernel_rfl) (by kernel_rfl) (fun _ _ _ h => h) (Or.inl ⟨by rfl, ?_⟩) (by assumption) ?_; rotate_left; focus ((intro w' hSw; (try dsimp only at hSw); go_simp; (try with_reducible rfl)))); (try simp only [Act.put, List.setIfInBounds_toArray, List.set_cons_zero, List.set_cons_succ])
        (refine wpAnyH_take (i := 9) (oi := ⟨_, _, _, _, _, _⟩) (v := ?_) rfl (by kernel_rfl) (by kernel_rfl) (by kernel_rfl) (fun _ _ _ h => h) (Or.inl ⟨by rfl, ?_⟩) (by assumption) ?_; rotate_left; focus ((intro w' hSw; (try dsimp only at hSw); go_simp; (try with_reducible rfl)))); (try simp only [Act.put, List.setIfInBounds_toArray, List.set_cons_zero, List.set_cons_succ])
        (refine wpAnyH_take (i := 10) (oi := ⟨_, _, _, _, _, _⟩) (v := ?_) rfl (by kernel_rfl) (by kernel_rfl) (by kernel_rfl) (fun _ _ _ h => h) (Or.inl ⟨by rfl, ?_⟩) (by assumption) ?_; rotate_left; focus ((intro w' hSw; (try dsimp only at hSw); go_simp; (try with_reducible rfl)))); (try simp only [Act.put, List.setIfInBounds_toArray, List.set_cons_zero, List.set_cons_succ])
        refine wpAnyH_ready (rs := [11]) (by kernel_rfl) (by simp) ?_
        refine AllReadyH.cons (o := ⟨_, _, _, _, _, _⟩) rfl (fun K hK => ?_) AllReadyH.nil
        go_simp
        (go_at_call 60; (with_reducible refine Calls.mono (HC1.out _ ?_) ?_); (assumption); rintro e w' ⟨rfl, hb⟩; have hB' := HTR.out _ _ (by assumption) hb; obtain ⟨k0, k1, k2, k3⟩ := HCB.out _ hB'; obtain ⟨c0, c1, c2, c3⟩ := HCX.out _ hB')
        (try go_wp2_with fail)
        refine hK.out _ _ (by (try dsimp only); (first | go_keep | (refine ⟨by assumption, ?_⟩; go_keep))) (fun hHeld => ?_)
        clear hK K
        (try simp only [Act.put, List.setIfInBounds_toArray, List.set_cons_zero, List.set_cons_succ])
        (refine wpAnyH_take (i := 12) (oi := ⟨_, _, _, _, _, _⟩) (v := ?_) rfl (by kernel_rfl) (by kernel_rfl) (by kernel_rfl) (fun _ _ _ h => h) (Or.inl ⟨by rfl, ?_⟩) (by assumption) ?_; rotate_left; focus ((intro w' hSw; (try dsimp only at hSw); go_simp; (try with_reducible rfl)))); (try simp only [Act.put, List.setIfInBounds_toArray, List.set_cons_zero, List.set_cons_succ])
        (refine wpAnyH_take (i := 13) (oi := ⟨_, _, _, _, _, _⟩) (v := ?_) rfl (by kernel_rfl) (by kernel_rfl) (by kernel_rfl) (fun _ _ _ h => h) (Or.inl ⟨by rfl, ?_⟩) (by assumption) ?_; rotate_left; focus ((intro w' hSw; (try dsimp only at hSw); go_simp; (try with_reducible rfl)))); (try simp only [Act.put, List.setIfInBounds_toArray, List.set_cons_zero, List.set_cons_succ])
        (refine wpAnyH_take (i := 14) (oi := ⟨_, _, _, _, _, _⟩) (v := ?_) rfl (by kernel_rfl) (by kernel_rfl) (by kernel_rfl) (fun _ _ _ h => h) (Or.inl ⟨by rfl, ?_⟩) (by assumption) ?_; rotate_left; focus ((intro w' hSw; (try dsimp only at hSw); go_simp; (try with_reducible rfl)))); (try simp only [Act.put, List.setIfInBounds_toArray, List.set_cons_zero, List.set_cons_succ])
        (refine wpAnyH_take (i := 15) (oi := ⟨_, _, _, _, _, _⟩) (v := ?_) rfl (by kernel_rfl) (by kernel_rfl) (by kernel_rfl) (fun _ _ _ h => h) (Or.inl ⟨by rfl, ?_⟩) (by assumption) ?_; rotate_left; focus ((intro w' hSw; (try dsimp only at hSw); go_simp; (try with_reducible rfl)))); (try simp only [Act.put, List.setIfInBounds_toArray, List.set_cons_zero, List.set_cons_succ])
        refine wpAnyH_done (by kernel_rfl) ?_ _
        have HEW : Hid (Below w.heap.size w _) := Lib.hid (belowOn HW.out (Nat.le_refl _) (HENW.out _ (by assumption)))
        clear c0 c1 c2 c3 e0 e1 e2 e3 hHeld
        go_wp2
        refine bodyPost_ret (v := .tuple #[.int .i64 (p : Int), .bool (c == 0)]) (by simp [results, Try.results72, go_sem]) rfl ⟨⟨p, by rw [← HHB.out], HAT.out⟩, HEW.out⟩
      · have g0 : decide ((p : Int) < (l.length : Int)) = false := decide_eq_false (by omega)
        have g0n : decide (p < l.length) = false := decide_eq_false hpl
        have HHB : Hid (false = hasT l t) := Lib.hid (HHAS.out _ ⟨fun h => (by cases h), fun ⟨y, hy, _⟩ => absurd (List.getElem?_eq_some_iff.1 hy).1 hpl⟩)
        clear hpl
        refine wp_region_held_drew (S := (fun w' => Below wr.heap.size wr w' ∧ w'.cell? ⟨nb, 0, none⟩ = some (.int .i64 t.kind) ∧ w'.cell? ⟨nb, 1, none⟩ = some (.int .i64 t.num) ∧ w'.cell? ⟨nb, 2, none⟩ = some (.string t.name) ∧ w'.cell? ⟨nb, 3, none⟩ = some (.slice ab t.args.length cb))) (by kernel_rfl) (by (try dsimp only); go_keep) (fun hHeld => ?_)
        (refine wpAnyH_take (i := 0) (oi := ⟨_, _, _, _, _, _⟩) (v := ?_) rfl (by kernel_rfl) (by kernel_rfl) (by kernel_rfl) (fun _ _ _ h => h) (Or.inl ⟨by rfl, ?_⟩) (by assumption) ?_; rotate_left; focus ((intro w' hSw; (try dsimp only at hSw); go_simp; (try with_reducible rfl)))); (try simp only [Act.put, List.setIfInBounds_toArray, List.set_cons_zero, List.set_cons_succ])
        (refine wpAnyH_take (i := 1) (oi := ⟨_, _, _, _, _, _⟩) (v := ?_) rfl (by kernel_rfl) (by kernel_rfl) (by kernel_rfl) (fun _ _ _ h => h) (Or.inl ⟨by rfl, ?_⟩) (by assumption) ?_; rotate_left; focus ((intro w' hSw; (try dsimp only at hSw); go_simp; (try with_reducible rfl)))); (try simp only [Act.put, List.setIfInBounds_toArray, List.set_cons_zero, List.set_cons_succ])
        (refine wpAnyH_take (i := 2) (oi := ⟨_, _, _, _, _, _⟩) (v := ?_) rfl (by kernel_rfl) (by kernel_rfl) (by kernel_rfl) (fun _ _ _ h => h) (Or.inl ⟨by rfl, ?_⟩) (by assumption) ?_; rotate_left; focus ((intro w' hSw; (try dsimp only at hSw); go_simp; (try with_reducible rfl)))); (try simp only [Act.put, List.setIfInBounds_toArray, List.set_cons_zero, List.set_cons_succ])
        (refine wpAnyH_take (i := 3) (oi := ⟨_, _, _, _, _, _⟩) (v := ?_) rfl (by kernel_rfl) (by kernel_rfl) (by kernel_rfl) (fun _ _ _ h => h) (Or.inl ⟨by rfl, ?_⟩) (by assumption) ?_; rotate_left; focus ((intro w' hSw; (try dsimp only at hSw); go_simp; (try with_reducible rfl)))); (try simp only [Act.put, List.setIfInBounds_toArray, List.set_cons_zero, List.set_cons_succ])
        (refine wpAnyH_take (i := 4) (oi := ⟨_, _, _, _, _, _⟩) (v := ?_) rfl (by kernel_rfl) (by kernel_rfl) (by kernel_rfl) (fun _ _ _ h => h) (Or.inl ⟨by rfl, ?_⟩) (by assumption) ?_; rotate_left; focus ((intro w' hSw; (try dsimp only at hSw); go_simp; (try with_reducible rfl)))); (try simp only [Act.put, List.setIfInBounds_toArray, List.set_cons_zero, List.set_cons_succ])
        (refine wpAnyH_take (i := 5) (oi := ⟨_, _, _, _, _, _⟩) (v := undef) rfl (by kernel_rfl) (by kernel_rfl) (by kernel_rfl) (fun _ _ _ h => h) (Or.inr ⟨by rfl, rfl⟩) (by assumption) ?_); (try simp only [Act.put, List.setIfInBounds_toArray, List.set_cons_zero, List.set_cons_succ])
        (refine wpAnyH_take (i := 6) (oi := ⟨_, _, _, _, _, _⟩) (v := undef) rfl (by kernel_rfl) (by kernel_rfl) (by kernel_rfl) (fun _ _ _ h => h) (Or.inr ⟨by rfl, rfl⟩) (by assumption) ?_); (try simp only [Act.put, List.setIfInBounds_toArray, List.set_cons_zero, List.set_cons_succ])
        (refine wpAnyH_take (i := 7) (oi := ⟨_, _, _, _, _, _⟩) (v := undef) rfl (by kernel_rfl) (by kernel_rfl) (by kernel_rfl) (fun _ _ _ h => h) (Or.inr ⟨by rfl, rfl⟩) (by assumption) ?_); (try simp only [Act.put, List.setIfInBounds_toArray, List.set_cons_zero, List.set_cons_succ])
        (refine wpAnyH_take (i := 8) (oi := ⟨_, _, _, _, _, _⟩) (v := undef) rfl (by kernel_rfl) (by kernel_rfl) (by kernel_rfl) (fun _ _ _ h => h) (Or.inr ⟨by rfl, rfl⟩) (by assumption) ?_); (try simp only [Act.put, List.setIfInBounds_toArray, List.set_cons_zero, List.set_cons_succ])
        (refine wpAnyH_take (i := 9) (oi := ⟨_, _, _, _, _, _⟩) (v := undef) rfl (by kernel_rfl) (by kernel_rfl) (by kernel_rfl) (fun _ _ _ h => h) (Or.inr ⟨by rfl, rfl⟩) (by assumption) ?_); (try simp only [Act.put, List.setIfInBounds_toArray, List.set_cons_zero, List.set_cons_succ])
        (refine wpAnyH_take (i := 10) (oi := ⟨_, _, _, _, _, _⟩) (v := undef) rfl (by kernel_rfl) (by kernel_rfl) (by kernel_rfl) (fun _ _ _ h => h) (Or.inr ⟨by rfl, rfl⟩) (by assumption) ?_); (try simp only [Act.put, List.setIfInBounds_toArray, List.set_cons_zero, List.set_cons_succ])
        (refine wpAnyH_take (i := 11) (oi := ⟨_, _, _, _, _, _⟩) (v := undef) rfl (by kernel_rfl) (by kernel_rfl) (by kernel_rfl) (fun _ _ _ h => h) (Or.inr ⟨by rfl, rfl⟩) (by assumption) ?_); (try simp only [Act.put, List.setIfInBounds_toArray, List.set_cons_zero, List.set_cons_succ])
        (refine wpAnyH_take (i := 12) (oi := ⟨_, _, _, _, _, _⟩) (v := undef) rfl (by kernel_rfl) (by kernel_rfl) (by kernel_rfl) (fun _ _ _ h => h) (Or.inr ⟨by rfl, rfl⟩) (by assumption) ?_); (try simp only [Act.put, List.setIfInBounds_toArray, List.set_cons_zero, List.set_cons_succ])
        (refine wpAnyH_take (i := 13) (oi := ⟨_, _, _, _, _, _⟩) (v := ?_) rfl (by kernel_rfl) (by kernel_rfl) (by kernel_rfl) (fun _ _ _ h => h) (Or.inl ⟨by rfl, ?_⟩) (by assumption) ?_; rotate_left; focus ((intro w' hSw; (try dsimp only at hSw); go_simp; (try with_reducible rfl)))); (try simp only [Act.put, List.setIfInBounds_toArray, List.set_cons_zero, List.set_cons_succ])
        (refine wpAnyH_take (i := 14) (oi := ⟨_, _, _, _, _, _⟩) (v := ?_) rfl (by kernel_rfl) (by kernel_rfl) (by kernel_rfl) (fun _ _ _ h => h) (Or.inl ⟨by rfl, ?_⟩) (by assumption) ?_; rotate_left; focus ((intro w' hSw; (try dsimp only at hSw); go_simp; (try with_reducible rfl)))); (try simp only [Act.put, List.setIfInBounds_toArray, List.set_cons_zero, List.set_cons_succ])
        (refine wpAnyH_take (i := 15) (oi := ⟨_, _, _, _, _, _⟩) (v := ?_) rfl (by kernel_rfl) (by kernel_rfl) (by kernel_rfl) (fun _ _ _ h => h) (Or.inl ⟨by rfl, ?_⟩) (by assumption) ?_; rotate_left; focus ((intro w' hSw; (try dsimp only at hSw); go_simp; (try with_reducible rfl)))); (try simp only [Act.put, List.setIfInBounds_toArray, List.set_cons_zero, List.set_cons_succ])
        refine wpAnyH_done (by kernel_rfl) ?_ _
        have HEW : Hid (Below w.heap.size w _) := Lib.hid (belowOn HW.out (Nat.le_refl _) (HENW.out _ (by assumption)))
        clear e0 e1 e2 e3 hHeld
        go_wp2
        refine bodyPost_ret (v := .tuple #[.int .i64 (p : Int), .bool false]) (by simp [results, Try.results72, go_sem]) rfl ⟨⟨p, by rw [← HHB.out], HAT.out⟩, HEW.out⟩
end Go.Proofs.Ytoihimdfmncdoaa

