/-
  The program's termsOk, UnifyAll, Unify.
-/
import Derived.Test.YtbbgiefnmihmdaaKnotV
import Derived.Test.YtbbgiefnmihmdaaImplApp
namespace Go.Proofs.Ytbbgiefnmihmdaa
open Go.RowKit
set_option linter.unusedVariables false
set_option linter.unusedSimpArgs false

set_option maxHeartbeats 400000 in
theorem notOk_any (x : Tm) (V : Value) (w : World) (hA : ArgsAt w V x.args) (hZ : x.sz ≤ 1048576) :
    Calls Try.prog 132 #[.agg #[.int .i64 x.kind, .int .i64 x.num, .string x.name, V]] w fun e w' => e = .returned (.bool (!okB x)) ∧ Below w.heap.size w w' := by
  obtain ⟨aa, ca, rfl⟩ := hA.slice
  have HB := Lib.hid (belowAlloc (Below.refl w.heap.size w) (.cells #[.int .i64 x.kind, .int .i64 x.num, .string x.name, .slice aa x.args.length ca] 27))
  have HC := Lib.hid (implTermOk_any x _ _ (hA.kept HB.out) hZ)
  generalize okB x = r at HC ⊢
  clear hA
  go_enter Try.func132, Try.ntmps132
  go_wp2_with fail
  refine HC.out.mono ?_
  rintro e w1 ⟨rfl, hb⟩
  have HB2 := Lib.hid (belowOn HB.out (Nat.le_refl _) hb)
  clear hb HC
  go_wp2
  go_ret
  exact ⟨rfl, HB2.out⟩

set_option maxRecDepth 100000 in
set_option maxHeartbeats 1000000 in
theorem indexNot_any (l : List Tm) (V : Value) (w : World) (hA : ArgsAt w V l) (hZ : szL l ≤ 1048577) :
    Calls Try.prog 143 #[V, .func (.func 132) #[] #[]] w (IdxP (fun x => !okB x) l w) := by
  obtain ⟨a, cap, rfl⟩ := hA.slice
  have hL : l.length ≤ 1048577 := by have := length_szL l; omega
  have HA := Lib.hid hA
  have HZ := Lib.hid hZ
  have HYES : Hid (∀ (k : Nat) (x : Tm), l[k]? = some x → (!okB x) = true → (l.any fun x => !okB x) = true) := Lib.hid fun k x hk hx => List.any_eq_true.2 ⟨x, List.mem_of_getElem? hk, hx⟩
  have HNO : Hid ((∀ (i : Nat) (y : Tm), i < l.length → l[i]? = some y → (!okB y) = false) → (l.any fun x => !okB x) = false) := Lib.hid fun h => List.any_eq_false.2 fun x hx => by
    obtain ⟨i, hi⟩ := List.getElem?_of_mem hx
    rw [h i x (List.getElem?_eq_some_iff.1 hi).1 hi]; simp
  unfold IdxP
  generalize (l.any fun x => !okB x) = r at HYES HNO ⊢
  clear hA hZ
  go_enter Try.func143, Try.ntmps143
  go_wp2
  go_loopw [8] (fun iv wr => ∃ k : Nat, k ≤ l.length ∧ iv = .int .i64 k ∧ Hid (∀ (i : Nat) (y : Tm), i < k → l[i]? = some y → (!okB y) = false) ∧ Hid (Below w.heap.size w wr)) (fun iv _ => l.length - (intOf iv).toNat)
  case atStart => exact ⟨0, Nat.zero_le _, rfl, Lib.hid (fun i y hi => absurd hi (Nat.not_lt_zero _)), Lib.hid (Below.refl _ _)⟩
  case round =>
    obtain ⟨k, hk, rfl, HN, HB⟩ := hrel
    by_cases hlt : k < l.length
    · have hltI : (k : Int) < (l.length : Int) := by omega
      obtain ⟨x, hx⟩ : ∃ x, l[k]? = some x := ⟨_, List.getElem?_eq_getElem hlt⟩
      obtain ⟨g, off, u1, u2, rfl, hg, hq, hc, hu⟩ := HA.out.elem hx
      obtain ⟨d0, d1, d2, d3⟩ := hc wr HB.out
      have HC := Lib.hid (notOk_any x (.slice u1 x.args.length u2) wr (hu.kept HB.out) (by have h1 := sz_at hx; have := HZ.out; omega))
      have HX := Lib.hid hx
      generalize hqd : (!okB x) = q at HC
      have HQD := Lib.hid hqd
      clear hc hu hx hq hqd
      go_wp2_with fail
      refine HC.out.mono ?_
      rintro e w2 ⟨rfl, hb⟩
      have HB2 := Lib.hid (belowOn HB.out (Nat.le_refl _) hb)
      clear hb HC d0 d1 d2 d3
      cases q with
      | true =>
        have HR := Lib.hid (HYES.out k x HX.out HQD.out)
        go_wp2
        go_ret
        exact ⟨.inl ⟨HR.out, k, rfl⟩, HB2.out⟩
      | false =>
        go_wp2
        go_roundw
        case rel =>
          refine ⟨k + 1, by omega, by go_num, Lib.hid fun i y hi hy => ?_, HB2⟩
          by_cases e : i = k
          · subst e
            cases hy.symm.trans HX.out
            exact HQD.out
          · exact HN.out i y (by omega) hy
        case measure => simp [intOf]; omega
    · obtain rfl : k = l.length := by omega
      have HR := Lib.hid (HNO.out HN.out)
      go_wp2
      go_ret
      exact ⟨.inr ⟨HR.out, rfl⟩, HB.out⟩

set_option maxHeartbeats 400000 in
theorem containsNot_any (l : List Tm) (V : Value) (w : World) (hA : ArgsAt w V l) (hZ : szL l ≤ 1048577) :
    Calls Try.prog 108 #[V, .func (.func 132) #[] #[]] w fun e w' => e = .returned (.bool (l.any fun x => !okB x)) ∧ Below w.heap.size w w' := by
  obtain ⟨a, cap, rfl⟩ := hA.slice
  have HC := Lib.hid (indexNot_any l _ w hA hZ)
  clear hA hZ
  unfold IdxP at HC
  generalize (l.any fun x => !okB x) = r at HC ⊢
  go_enter Try.func108, Try.ntmps108
  go_wp2_with fail
  refine HC.out.mono ?_
  rintro e w1 ⟨⟨rfl, k, rfl⟩ | ⟨rfl, rfl⟩, hb⟩
  · have HB := Lib.hid hb
    have hk0 : (0 : Int) ≤ (k : Int) := by omega
    have d : decide ((0 : Int) ≤ (k : Int)) = true := decide_eq_true hk0
    clear hb HC
    go_wp2
    go_ret
    exact ⟨by simp, HB.out⟩
  · have HB := Lib.hid hb
    clear hb HC
    go_wp2
    go_ret
    exact ⟨rfl, HB.out⟩

/-- Whether all terms of a list are valid. -/
noncomputable def allOkB (l : List Tm) : Bool := l.all okB
theorem not_any_ok (l : List Tm) : (!(l.any fun x => !okB x)) = allOkB l := by
  unfold allOkB
  induction l with
  | nil => rfl
  | cons x l ih => simp [← ih]

set_option maxHeartbeats 400000 in
theorem termsOk_any (l : List Tm) (V : Value) (w : World) (hA : ArgsAt w V l) (hZ : szL l ≤ 1048577) :
    Calls Try.prog 99 #[V] w fun e w' => e = .returned (.bool (allOkB l)) ∧ Below w.heap.size w w' := by
  obtain ⟨a, cap, rfl⟩ := hA.slice
  have HC := Lib.hid (containsNot_any l _ w hA hZ)
  have HN := Lib.hid (not_any_ok l)
  generalize allOkB l = q at HN ⊢
  generalize (l.any fun x => !okB x) = r at HC HN
  clear hA hZ
  go_enter Try.func99, Try.ntmps99
  go_wp2_with fail
  refine HC.out.mono ?_
  rintro e w1 ⟨rfl, hb⟩
  have HB := Lib.hid hb
  clear hb HC
  go_wp2
  go_ret
  exact ⟨by rw [← HN.out]; rfl, HB.out⟩
theorem allOk_true {l : List Tm} : allOkB l = true ↔ ∀ t ∈ l, Ok t := by
  unfold allOkB
  rw [List.all_eq_true]
  exact ⟨fun h t ht => by have := h t ht; simpa [okB] using this, fun h t ht => by simpa [okB] using h t ht⟩
theorem eqN_zip : ∀ (l r : List Tm), eqN (l.zip r) ≤ nodesL l + nodesL r
  | [], r => by simp [eqN]
  | x :: l, [] => by simp [eqN]
  | x :: l, y :: r => by
    have := eqN_zip l r
    unfold eqN at this ⊢
    simp only [List.zip_cons_cons, List.map_cons, List.sum_cons, nodesL]
    omega

set_option maxRecDepth 100000 in
set_option maxHeartbeats 2000000 in
theorem implUnifyAll_b (s : List Bd) (Vs : Value) (l : List Tm) (Vl : Value) (r : List Tm) (Vr : Value) (w : World) (hA : ListS bdE w Any Vs s) (hE : EachB s) (hF : ∀ b ∈ s, wfI b.v) (hl : ArgsAt w Vl l) (hZl : szL l ≤ 1048577) (hLl : l.length ≤ 1048576) (hr : ArgsAt w Vr r) (hZr : szL r ≤ 1048577) :
    Calls Try.prog 65 #[Vs, Vl, Vr] w (NewB2 (uaL s l r) (uaB s l r) w) := by
  obtain ⟨sa, sc, rfl⟩ := hA.slice
  obtain ⟨la, lc, rfl⟩ := hl.slice
  obtain ⟨ra, rc, rfl⟩ := hr.slice
  have hL : l.length ≤ 1048576 := hLl
  have hR : r.length ≤ 1048577 := by have := length_szL r; omega
  have HYES := Lib.hid (fun h => ua_yes (s := s) (l := l) (r := r) h)
  have HNO := Lib.hid (fun h => ua_no (s := s) (l := l) (r := r) h)
  have HA := Lib.hid hA
  have HL := Lib.hid hl
  have HR := Lib.hid hr
  have HZ := Lib.hid (And.intro hZl hZr)
  have HC := Lib.hid (implSubstOk_e s _ w hA hE hF)
  generalize uaL s l r = ul at HYES HNO ⊢
  generalize uaB s l r = ub at HYES HNO ⊢
  have END : Hid (¬ UaP s l r → ∀ W, Below w.heap.size w W → NewB2 ul ub w (.returned (.tuple #[.slice none 0 0, .bool false])) W) := Lib.hid fun h W hW => by
    obtain ⟨rfl, rfl⟩ := HNO.out h
    exact ⟨_, rfl, .nil, hW⟩
  clear hA hF hl hr hE hZl hZr
  go_enter Try.func65, Try.ntmps65
  go_wp2_with fail
  refine HC.out.mono ?_
  rintro e w1 ⟨rfl, hb⟩
  have HW1 := Lib.hid hb
  clear hb HC
  cases hs : substB s with
  | false =>
    have HE := Lib.hid (END.out (fun h => substB_false.1 hs h.1) w1 HW1.out)
    clear hs
    go_wp2
    go_ret2
    exact HE.out
  | true =>
  have HS := Lib.hid (substB_true.1 hs)
  have HC := Lib.hid (termsOk_any l _ w1 (HL.out.kept HW1.out) HZ.out.1)
  clear hs
  go_wp2_with fail
  refine HC.out.mono ?_
  rintro e w2 ⟨rfl, hb⟩
  have HW2 := Lib.hid (belowOn HW1.out (Nat.le_refl _) hb)
  clear hb HC
  cases ho : allOkB l with
  | false =>
    have HE := Lib.hid (END.out (fun h => by rw [allOk_true.2 h.2.1] at ho; cases ho) w2 HW2.out)
    clear ho
    go_wp2
    go_ret2
    exact HE.out
  | true =>
  have HOL := Lib.hid (allOk_true.1 ho)
  have HC := Lib.hid (termsOk_any r _ w2 (HR.out.kept HW2.out) HZ.out.2)
  clear ho
  go_wp2_with fail
  refine HC.out.mono ?_
  rintro e w3 ⟨rfl, hb⟩
  have HW3 := Lib.hid (belowOn HW2.out (Nat.le_refl _) hb)
  clear hb HC
  cases ho : allOkB r with
  | false =>
    have HE := Lib.hid (END.out (fun h => by rw [allOk_true.2 h.2.2.1] at ho; cases ho) w3 HW3.out)
    clear ho
    go_wp2
    go_ret2
    exact HE.out
  | true =>
  have HOR := Lib.hid (allOk_true.1 ho)
  clear ho
  by_cases hlen : l.length = r.length
  · have d1 : ((l.length : Int) != (r.length : Int)) = false := by rw [hlen]; simp
    have HUA : Hid (UaP s l r) := Lib.hid ⟨HS.out, HOL.out, HOR.out, hlen⟩
    obtain ⟨rfl, rfl⟩ := HYES.out HUA.out
    have HC := Lib.hid (solve_any s _ l r _ _ w3 (HA.out.kept HW3.out) (HL.out.kept HW3.out) (HR.out.kept HW3.out) HS.out HOL.out HOR.out hlen (by have h1 := eqN_zip l r; have h2 := nodesL_sz l; have h3 := nodesL_sz r; have h4 := HZ.out; omega) hL)
    clear hlen END HYES HNO
    go_wp2_with fail
    refine HC.out.mono ?_
    rintro e w4 ⟨V, rfl, hV, hb⟩
    have HE : Hid (NewB2 (muL s (l.zip r)) (muB s (l.zip r)) w (.returned (.tuple #[V, .bool (muB s (l.zip r))])) w4) := Lib.hid ⟨V, rfl, hV.sub fun k hk => ⟨Nat.le_trans HW3.out.size hk.1, hk.2⟩, belowOn HW3.out (Nat.le_refl _) hb⟩
    clear hV hb HC d1
    go_wp2
    go_ret2
    exact HE.out
  · have d1 : ((l.length : Int) != (r.length : Int)) = true := by simp; omega
    have HE := Lib.hid (END.out (fun h => hlen h.2.2.2) w3 HW3.out)
    clear hlen END HYES HNO
    go_wp2
    go_ret2
    exact HE.out

theorem implUnifyAll_any (s : List Bd) (Vs : Value) (l : List Tm) (Vl : Value) (r : List Tm) (Vr : Value) (w : World) (hA : ListS bdE w Any Vs s) (hZ : szB s ≤ 1048576) (hF : fineB s) (hl : ArgsAt w Vl l) (hZl : szL l ≤ 1048576) (hr : ArgsAt w Vr r) (hZr : szL r ≤ 1048576) :
    Calls Try.prog 65 #[Vs, Vl, Vr] w (NewB2 (uaL s l r) (uaB s l r) w) :=
  implUnifyAll_b s Vs l Vl r Vr w hA (eachB_of hZ) hF.wf hl (Nat.le_succ_of_le hZl) (by have := length_szL l; omega) hr (Nat.le_succ_of_le hZr)
theorem argsAt_one {w : World} {g : Nat} {t : Tm} {V : Value} {e : TypeId} (h : w.heap[g]? = some (.cells #[.int .i64 t.kind, .int .i64 t.num, .string t.name, V] e)) (hV : ArgsAt w V t.args) : ArgsAt w (.slice (some ⟨g, 0, none⟩) 1 1) [t] := by
  obtain ⟨c0, c1, c2, c3, _⟩ := box_cells h
  refine .row g 0 1 1 (fun _ => V) [t] rfl (Array.getElem?_eq_some_iff.1 h).1 (fun j u hj i v hv => ?_) (fun j u hj => ?_)
  · match j, hj with
    | 0, hj =>
      simp at hj
      subst hj
      match i, hv with
      | 0, hv => have : some (Value.int .i64 t.kind) = some v := hv; rw [← this]; simpa using c0
      | 1, hv => have : some (Value.int .i64 t.num) = some v := hv; rw [← this]; simpa using c1
      | 2, hv => have : some (Value.string t.name) = some v := hv; rw [← this]; simpa using c2
      | 3, hv => have : some V = some v := hv; rw [← this]; simpa using c3
      | i + 4, hv => simp [cells4] at hv
    | j + 1, hj => simp at hj
  · match j, hj with
    | 0, hj => simp at hj; subst hj; exact hV
    | j + 1, hj => simp at hj

set_option maxRecDepth 100000 in
set_option maxHeartbeats 1000000 in
theorem implUnify_e (s : List Bd) (Vs : Value) (a : Tm) (Va : Value) (b : Tm) (Vb : Value) (w : World) (hA : ListS bdE w Any Vs s) (hE : EachB s) (hF : ∀ b ∈ s, wfI b.v) (ha : ArgsAt w Va a.args) (hZa : a.sz ≤ 1048576) (hb : ArgsAt w Vb b.args) (hZb : b.sz ≤ 1048576) :
    Calls Try.prog 18 #[Vs, .agg #[.int .i64 a.kind, .int .i64 a.num, .string a.name, Va], .agg #[.int .i64 b.kind, .int .i64 b.num, .string b.name, Vb]] w (NewB2 (unL s a b) (unB s a b) w) := by
  obtain ⟨sa, sc, rfl⟩ := hA.slice
  obtain ⟨aa, ac, rfl⟩ := ha.slice
  obtain ⟨ba, bc, rfl⟩ := hb.slice
  have hB : Below w.heap.size w ((((w.alloc (.cells #[.int .i64 a.kind, .int .i64 a.num, .string a.name, .slice aa a.args.length ac] 27)).alloc (.cells #[.int .i64 b.kind, .int .i64 b.num, .string b.name, .slice ba b.args.length bc] 27)).alloc (.cells #[.int .i64 a.kind, .int .i64 a.num, .string a.name, .slice aa a.args.length ac] 27)).alloc (.cells #[.int .i64 b.kind, .int .i64 b.num, .string b.name, .slice ba b.args.length bc] 27)) := belowAlloc (belowAlloc (belowAlloc (belowAlloc (Below.refl _ _) _) _) _) _
  have h3 : ((((w.alloc (.cells #[.int .i64 a.kind, .int .i64 a.num, .string a.name, .slice aa a.args.length ac] 27)).alloc (.cells #[.int .i64 b.kind, .int .i64 b.num, .string b.name, .slice ba b.args.length bc] 27)).alloc (.cells #[.int .i64 a.kind, .int .i64 a.num, .string a.name, .slice aa a.args.length ac] 27)).alloc (.cells #[.int .i64 b.kind, .int .i64 b.num, .string b.name, .slice ba b.args.length bc] 27)).heap[w.heap.size + 1 + 1]? = some (.cells #[.int .i64 a.kind, .int .i64 a.num, .string a.name, .slice aa a.args.length ac] 27) := by
    rw [Below.heap_alloc _ _ _ (by simp)]
    have := heap_new ((w.alloc (.cells #[.int .i64 a.kind, .int .i64 a.num, .string a.name, .slice aa a.args.length ac] 27)).alloc (.cells #[.int .i64 b.kind, .int .i64 b.num, .string b.name, .slice ba b.args.length bc] 27)) (.cells #[.int .i64 a.kind, .int .i64 a.num, .string a.name, .slice aa a.args.length ac] 27)
    simpa using this
  have h4 : ((((w.alloc (.cells #[.int .i64 a.kind, .int .i64 a.num, .string a.name, .slice aa a.args.length ac] 27)).alloc (.cells #[.int .i64 b.kind, .int .i64 b.num, .string b.name, .slice ba b.args.length bc] 27)).alloc (.cells #[.int .i64 a.kind, .int .i64 a.num, .string a.name, .slice aa a.args.length ac] 27)).alloc (.cells #[.int .i64 b.kind, .int .i64 b.num, .string b.name, .slice ba b.args.length bc] 27)).heap[w.heap.size + 1 + 1 + 1]? = some (.cells #[.int .i64 b.kind, .int .i64 b.num, .string b.name, .slice ba b.args.length bc] 27) := by
    have := heap_new (((w.alloc (.cells #[.int .i64 a.kind, .int .i64 a.num, .string a.name, .slice aa a.args.length ac] 27)).alloc (.cells #[.int .i64 b.kind, .int .i64 b.num, .string b.name, .slice ba b.args.length bc] 27)).alloc (.cells #[.int .i64 a.kind, .int .i64 a.num, .string a.name, .slice aa a.args.length ac] 27)) (.cells #[.int .i64 b.kind, .int .i64 b.num, .string b.name, .slice ba b.args.length bc] 27)
    simpa using this
  have HC := Lib.hid (implUnifyAll_b s _ [a] _ [b] _ _ (hA.kept hB) hE hF (argsAt_one h3 (ha.kept hB)) (by rw [szL, szL]; omega) (by simp) (argsAt_one h4 (hb.kept hB)) (by rw [szL, szL]; omega))
  have HB := Lib.hid hB
  clear hA hF ha hb hB h3 h4
  go_enter Try.func18, Try.ntmps18
  go_wp2_with fail
  refine HC.out.mono ?_
  rintro e w1 ⟨V, rfl, hV, hb⟩
  have HE : Hid (NewB2 (unL s a b) (unB s a b) w (.returned (.tuple #[V, .bool (uaB s [a] [b])])) w1) := Lib.hid ⟨V, rfl, hV.sub fun k hk => ⟨Nat.le_trans HB.out.size hk.1, hk.2⟩, belowOn HB.out (Nat.le_refl _) hb⟩
  clear hV hb HC
  go_wp2
  go_ret2
  exact HE.out
theorem implUnify_any (s : List Bd) (Vs : Value) (a : Tm) (Va : Value) (b : Tm) (Vb : Value) (w : World) (hA : ListS bdE w Any Vs s) (hZ : szB s ≤ 1048576) (hF : fineB s) (ha : ArgsAt w Va a.args) (hZa : a.sz ≤ 1048576) (hb : ArgsAt w Vb b.args) (hZb : b.sz ≤ 1048576) :
    Calls Try.prog 18 #[Vs, .agg #[.int .i64 a.kind, .int .i64 a.num, .string a.name, Va], .agg #[.int .i64 b.kind, .int .i64 b.num, .string b.name, Vb]] w (NewB2 (unL s a b) (unB s a b) w) :=
  implUnify_e s Vs a Va b Vb w hA (eachB_of hZ) hF.wf ha hZa hb hZb
end Go.Proofs.Ytbbgiefnmihmdaa

