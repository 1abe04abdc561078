/-
  The program's solver: solve.
-/
import Derived.Test.YtbbgiefnmihmdaaKnotS
import Derived.Test.YtbbgiefnmihmdaaSubsQ
namespace Go.Proofs.Ytbbgiefnmihmdaa
open Go.RowKit
set_option linter.unusedVariables false
set_option linter.unusedSimpArgs false

/-- The solver's first state. -/
theorem sol_start (w : World) : SolW w (w.heap.size + 1) st0 ((w.alloc (.map #[] 0)).alloc (.cells #[.map (some w.heap.size), .int .i64 0, .slice none 0 0] 130)) := by
  have hb := belowAlloc (Below.refl (w.alloc (.map #[] 0)).heap.size (w.alloc (.map #[] 0))) (.cells #[.map (some w.heap.size), .int .i64 0, .slice none 0 0] 130)
  refine ⟨fun _ => none, belowAlloc (belowAlloc (Below.refl _ _) _) _, (fun b h => by cases h), (fun b h => by cases h), (fun b h => by cases h), Nat.le_succ _, w.heap.size, .slice none 0 0, [], 0, ⟨?_, Nat.le_refl _, (mapK_made w).kept hb, Nat.le_refl _, Row.nil _ _ _, rfl, fun j v q h _ => by simp at h⟩⟩
  have := heap_new (w.alloc (.map #[] 0)) (.cells #[.map (some w.heap.size), .int .i64 0, .slice none 0 0] 130)
  simpa [st0] using this
/-- What the pushed equations have made. -/
structure Eqs (st : St) (E : List (Tm × Tm)) (c k : Nat) : Prop where
  inv : KInv st E
  crd : credB st ≤ c
  len : st.steps.length = k
  bnd : st.bound = 0
theorem eqs0 : Eqs st0 [] 0 0 := ⟨inv0, Nat.le_refl _, rfl, rfl⟩
theorem Eqs.push {st st1 st2 : St} {E : List (Tm × Tm)} {c k a b : Nat} {x y : Tm} (h : Eqs st E c k) (hx : Ok x) (hy : Ok y) (h1 : KnS st x a st1) (h2 : KnS st1 y b st2) : Eqs (pushS st2 a b) (E ++ [(x, y)]) (c + x.nodes + y.nodes) (k + 1) := by
  obtain ⟨e1, a1, a2⟩ := h1.ext hx
  obtain ⟨e2, b1, b2⟩ := h2.ext hy
  have e := e1.trans e2
  have hp := (e.inv E h.inv).push (e2.D a a1) b1
  rw [e2.tm a a1, a2, b2] at hp
  refine ⟨hp, ?_, ?_, e.bound.trans h.bnd⟩
  · have := e.credB
    have := h.crd
    show credB st2 ≤ _
    omega
  · show (st2.steps ++ [(a, b)]).length = _
    rw [e.steps, List.length_append, h.len]
    rfl
def eqN (E : List (Tm × Tm)) : Nat := (E.map fun p => p.1.nodes + p.2.nodes).sum
theorem eqN_take {E : List (Tm × Tm)} {k : Nat} {x y : Tm} (h : E[k]? = some (x, y)) : eqN (E.take (k + 1)) = eqN (E.take k) + x.nodes + y.nodes := by
  unfold eqN
  rw [List.take_add_one, h]
  simp
  omega
theorem take_eqn {E : List (Tm × Tm)} {k : Nat} {p : Tm × Tm} (h : E[k]? = some p) : E.take (k + 1) = E.take k ++ [p] := by
  rw [List.take_add_one, h]
  rfl
theorem zip_at {l r : List Tm} {k : Nat} {x y : Tm} (hx : l[k]? = some x) (hy : r[k]? = some y) : (l.zip r)[k]? = some (x, y) := by
  rw [List.getElem?_zip_eq_some]
  exact ⟨hx, hy⟩
theorem eqN_le (E : List (Tm × Tm)) (k : Nat) : eqN (E.take k) ≤ eqN E := by
  have h : eqN E = eqN (E.take k) + eqN (E.drop k) := by
    unfold eqN
    rw [← List.sum_append, ← List.map_append, List.take_append_drop]
  omega
theorem eqN_app (E F : List (Tm × Tm)) : eqN (E ++ F) = eqN E + eqN F := by unfold eqN; rw [List.map_append, List.sum_append]

theorem sum_bd : ∀ {l : List Nat} {m : Nat}, (∀ x ∈ l, x ≤ m) → l.sum ≤ l.length * m
  | [], m, _ => by simp
  | x :: l, m, h => by
    have := sum_bd (l := l) fun y hy => h y (List.mem_cons_of_mem _ hy)
    have := h x (by simp)
    rw [List.sum_cons, List.length_cons, Nat.succ_mul]
    omega
theorem eqns_small {s : List Bd} (h : SubstP s) : eqN (eqnsB s) ≤ 4000000 := by
  have h1 : ∀ x ∈ (eqnsB s).map (fun p => p.1.nodes + p.2.nodes), x ≤ 10000 := fun x hx => by
    obtain ⟨p, hp, rfl⟩ := List.mem_map.1 hx
    obtain ⟨h2, h3⟩ := eqns_ok h p hp
    have := h2.1
    have := h3.1
    omega
  have h2 := sum_bd h1
  have h3 := h.1.2.2
  have h4 : ((eqnsB s).map (fun p => p.1.nodes + p.2.nodes)).length = s.length := by unfold eqnsB; rw [List.length_map, List.length_map]
  rw [h4] at h2
  have h5 : s.length * 10000 ≤ 400 * 10000 := Nat.mul_le_mul_right _ h3
  unfold eqN
  omega

/-- The answer of solve. -/
def SolvP (s : List Bd) (E : List (Tm × Tm)) (w : World) (e : Ending) (w' : World) : Prop := NewB2 (muL s E) (muB s E) w e w'

set_option maxRecDepth 100000 in
set_option maxHeartbeats 16000000 in
theorem solve_any (s : List Bd) (Vs : Value) (l r : List Tm) (Vl Vr : Value) (w : World) (hS : ListS bdE w Any Vs s) (hl : ArgsAt w Vl l) (hr : ArgsAt w Vr r) (hs : SubstP s) (hlo : ∀ t ∈ l, Ok t) (hro : ∀ t ∈ r, Ok t) (hlen : l.length = r.length) (hn : eqN (l.zip r) ≤ 100000000000) (hll : l.length ≤ 1048576) :
    Calls Try.prog 74 #[Vs, Vl, Vr] w (SolvP s (l.zip r) w) := by
  obtain ⟨sa, sc, rfl⟩ := hS.slice
  obtain ⟨la, lc, rfl⟩ := hl.slice
  obtain ⟨rra, rrc, rfl⟩ := hr.slice
  have HLS := Lib.hid hl.inS
  have HRS := Lib.hid hr.inS
  have HSS := Lib.hid hS
  have HOK := Lib.hid (And.intro hs (And.intro hlo hro))
  have HNN := Lib.hid (And.intro hn hlen)
  have HST := Lib.hid (sol_start w)
  have hsl : s.length ≤ 400 := hs.1.2.2
  have hmm := @run_makeMap Try.prog
  rw [← hlen] at HRS ⊢
  clear hS hl hr hs hlo hro hn hlen
  go_enter Try.func74, Try.ntmps74
  go_wp2
  clear hmm
  go_loopw [17] (fun iv wr => ∃ k : Nat, k ≤ l.length ∧ iv = .int .i64 k ∧ Hid (∃ st, SolW w (w.heap.size + 1) st wr ∧ Eqs st ((l.zip r).take k) (eqN ((l.zip r).take k)) k)) (fun iv _ => l.length - (intOf iv).toNat)
  case atStart => exact ⟨0, Nat.zero_le _, rfl, Lib.hid ⟨st0, HST.out, eqs0⟩⟩
  case round =>
    obtain ⟨k, hk, rfl, HST2⟩ := hrel
    clear HST
    by_cases hlt : k < l.length
    · have hltI : (k : Int) < (l.length : Int) := by omega
      obtain ⟨x, hx⟩ : ∃ x, l[k]? = some x := ⟨_, List.getElem?_eq_getElem hlt⟩
      obtain ⟨y, hy⟩ : ∃ y, r[k]? = some y := ⟨_, List.getElem?_eq_getElem (by have := HNN.out.2; omega)⟩
      obtain ⟨st, hst, heq⟩ := HST2.out
      obtain ⟨g, off, u1, u2, rfl, hg, hq, hcx, hux⟩ := HLS.out.elem hx
      obtain ⟨g', off', v1, v2, rfl, hg', hq', hcy, huy⟩ := HRS.out.elem hy
      have hxo := HOK.out.2.1 x (List.mem_of_getElem? hx)
      have hyo := HOK.out.2.2 y (List.mem_of_getElem? hy)
      have hzk := zip_at hx hy
      have hcd : st.D.length ≤ 100000000000 := Nat.le_trans (len_credB st) (Nat.le_trans heq.crd (Nat.le_trans (eqN_le _ k) HNN.out.1))
      have HK0 : Hid (∀ W, SolW w (w.heap.size + 1) st W → Calls Try.prog 112 #[.pointer (some ⟨w.heap.size + 1, 0, none⟩), .agg #[.int .i64 x.kind, .int .i64 x.num, .string x.name, .slice u1 x.args.length u2]] W fun e w' => ∃ b s', e = .returned (.pointer (some ⟨b, 0, none⟩)) ∧ KnS st x b s' ∧ SolW w (w.heap.size + 1) s' w' ∧ Fr isP W w') := Lib.hid fun W hW =>
        knotOf_any w _ st x _ W hW hux hxo (by omega) heq.inv.maps
      have HK1 : Hid (∀ (s1 : St) (a : Nat), KnS st x a s1 → ∀ W, SolW w (w.heap.size + 1) s1 W → Calls Try.prog 112 #[.pointer (some ⟨w.heap.size + 1, 0, none⟩), .agg #[.int .i64 y.kind, .int .i64 y.num, .string y.name, .slice v1 y.args.length v2]] W fun e w' => ∃ b s', e = .returned (.pointer (some ⟨b, 0, none⟩)) ∧ KnS s1 y b s' ∧ SolW w (w.heap.size + 1) s' w' ∧ Fr isP W w') := Lib.hid fun s1 a ha W hW => by
        refine knotOf_any w _ s1 y _ W hW huy hyo ?_ (ha.pre heq.inv.pre hxo).2
        have h1 := ext_len (ha.ext hxo).1
        have h2 := hxo.1
        have h3 := heq.crd
        have h4 := eqN_le (l.zip r) k
        have h5 := HNN.out.1
        omega
      have HPU : Hid (∀ (s1 s2 : St) (a b : Nat), KnS st x a s1 → KnS s1 y b s2 → ∀ W, SolW w (w.heap.size + 1) s2 W → Calls Try.prog 111 #[.pointer (some ⟨w.heap.size + 1, 0, none⟩), .pointer (some ⟨a, 0, none⟩), .pointer (some ⟨b, 0, none⟩)] W fun e w' => e = .returned (.tuple #[]) ∧ SolW w (w.heap.size + 1) (pushS s2 a b) w' ∧ Fr isM W w') := Lib.hid fun s1 s2 a b ha hb W hW => by
        refine push_any w _ s2 a b W hW ?_
        rw [(hb.ext hyo).1.steps, (ha.ext hxo).1.steps, heq.len]
        omega
      have HCE : Hid (∀ W, Below w.heap.size w W → W.cell? ⟨g, off + k * 4, none⟩ = some (.int .i64 x.kind) ∧ W.cell? ⟨g, off + k * 4 + 1, none⟩ = some (.int .i64 x.num) ∧ W.cell? ⟨g, off + k * 4 + 2, none⟩ = some (.string x.name) ∧ W.cell? ⟨g, off + k * 4 + 3, none⟩ = some (.slice u1 x.args.length u2) ∧
          W.cell? ⟨g', off' + k * 4, none⟩ = some (.int .i64 y.kind) ∧ W.cell? ⟨g', off' + k * 4 + 1, none⟩ = some (.int .i64 y.num) ∧ W.cell? ⟨g', off' + k * 4 + 2, none⟩ = some (.string y.name) ∧ W.cell? ⟨g', off' + k * 4 + 3, none⟩ = some (.slice v1 y.args.length v2)) := Lib.hid fun W hW => by
        obtain ⟨p0, p1, p2, p3⟩ := hcx W hW
        obtain ⟨q0, q1, q2, q3⟩ := hcy W hW
        exact ⟨p0, p1, p2, p3, q0, q1, q2, q3⟩
      have HFIN : Hid (∀ s1 s2 a b W, KnS st x a s1 → KnS s1 y b s2 → SolW w (w.heap.size + 1) (pushS s2 a b) W → ∃ st, SolW w (w.heap.size + 1) st W ∧ Eqs st ((l.zip r).take (k + 1)) (eqN ((l.zip r).take (k + 1))) (k + 1)) := Lib.hid fun s1 s2 a b W h1 h2 h3 => by
        refine ⟨_, h3, ?_⟩
        rw [eqN_take hzk, take_eqn hzk]
        exact heq.push hxo hyo h1 h2
      have hS0 : SolW w (w.heap.size + 1) st wr := hst
      have hS1 : SolW w (w.heap.size + 1) st wr.drew := hst.kept (Below.refl _ _).drew
      obtain ⟨p0, p1, p2, p3, q0, q1, q2, q3⟩ := HCE.out wr hst.old
      have hgl : g < wr.heap.size := Nat.lt_of_lt_of_le hg hst.old.size
      have hgl' : g' < wr.heap.size := Nat.lt_of_lt_of_le hg' hst.old.size
      clear hst heq HST2 hcx hcy hux huy hx hy hxo hyo hzk hcd hq hq' hg hg'
      go_upto_region 5 with (fail)
      go_region_held3 (fun w' => w'.cell? ⟨g, off + k * 4, none⟩ = some (.int .i64 x.kind) ∧ w'.cell? ⟨g, off + k * 4 + 1, none⟩ = some (.int .i64 x.num) ∧ w'.cell? ⟨g, off + k * 4 + 2, none⟩ = some (.string x.name) ∧ w'.cell? ⟨g, off + k * 4 + 3, none⟩ = some (.slice u1 x.args.length u2) ∧
          w'.cell? ⟨g', off' + k * 4, none⟩ = some (.int .i64 y.kind) ∧ w'.cell? ⟨g', off' + k * 4 + 1, none⟩ = some (.int .i64 y.num) ∧ w'.cell? ⟨g', off' + k * 4 + 2, none⟩ = some (.string y.name) ∧ w'.cell? ⟨g', off' + k * 4 + 3, none⟩ = some (.slice v1 y.args.length v2)) (go_keep)
        (first
          | (go_at_call 112; (with_reducible refine Calls.mono (HK0.out _ (by assumption)) ?_); rintro e wA ⟨a, s1, rfl, hk1, hSA, hfA⟩; obtain ⟨p0, p1, p2, p3, q0, q1, q2, q3⟩ := HCE.out _ hSA.old)
          | (go_at_call 112; (with_reducible refine Calls.mono (HK1.out _ _ (by assumption) _ (by assumption)) ?_); rintro e wB ⟨b, s2, rfl, hk2, hSB, hfB⟩; obtain ⟨p0, p1, p2, p3, q0, q1, q2, q3⟩ := HCE.out _ hSB.old)
          | (go_at_call 111; (with_reducible refine Calls.mono (HPU.out _ _ _ _ (by assumption) (by assumption) _ (by assumption)) ?_); rintro e wC ⟨rfl, hSC, hfC⟩; obtain ⟨p0, p1, p2, p3, q0, q1, q2, q3⟩ := HCE.out _ hSC.old; have HX := Lib.hid (HFIN.out _ _ _ _ _ hk1 hk2 hSC)))
      all_goals
        go_wp2
        go_roundw
        case rel => exact ⟨k + 1, by omega, by go_num, HX⟩
        case measure => simp [intOf]; omega
    · obtain rfl : k = l.length := by omega
      have HST3 : Hid (∃ st, SolW w (w.heap.size + 1) st wr ∧ Eqs st (l.zip r ++ (eqnsB s).take 0) (eqN (l.zip r ++ (eqnsB s).take 0)) (l.length + 0)) := Lib.hid (by
        obtain ⟨st, h1, h2⟩ := HST2.out
        have hz : (l.zip r).take l.length = l.zip r := List.take_of_length_le (by rw [List.length_zip]; omega)
        rw [hz] at h2
        rw [List.take_zero, List.append_nil]
        exact ⟨st, h1, h2⟩)
      have HEN : Hid (eqN (eqnsB s) ≤ 4000000) := Lib.hid (eqns_small HOK.out.1)
      clear HST2 HLS HRS
      go_wp2
      go_loopw [37] (fun iv wr => ∃ k : Nat, k ≤ s.length ∧ iv = .int .i64 k ∧ Hid (∃ st, SolW w (w.heap.size + 1) st wr ∧ Eqs st (l.zip r ++ (eqnsB s).take k) (eqN (l.zip r ++ (eqnsB s).take k)) (l.length + k))) (fun iv _ => s.length - (intOf iv).toNat)
      case atStart => exact ⟨0, Nat.zero_le _, rfl, HST3⟩
      case round =>
        clear HST3
        obtain ⟨j, hj, rfl, HSJ⟩ := hrel
        by_cases hlt2 : j < s.length
        · have hltI2 : (j : Int) < (s.length : Int) := by omega
          obtain ⟨b, hb⟩ : ∃ b, s[j]? = some b := ⟨_, List.getElem?_eq_getElem hlt2⟩
          obtain ⟨st, hst, heq⟩ := HSJ.out
          obtain ⟨g, off, u1, u2, rfl, hg, hq, hc, hu⟩ := HSS.out.bd hb
          obtain ⟨d0, d1, d2, d3, d4⟩ := hc wr hst.old
          have hgl : g < wr.heap.size := Nat.lt_of_lt_of_le hg hst.old.size
          have hbm := List.mem_of_getElem? hb
          have hvo : Ok (varTm b.v) := varTm_ok (HOK.out.1.var hbm)
          have hto : Ok b.t := ⟨HOK.out.1.nodes b hbm, HOK.out.1.good b hbm⟩
          have huS : ArgsS w (fun k => k < w.heap.size) (.slice u1 b.t.args.length u2) b.t.args := hu.low.sub fun k hk => hk.2
          have hej : (eqnsB s)[j]? = some (varTm b.v, b.t) := by unfold eqnsB; rw [List.getElem?_map, hb]; rfl
          have hcd : credB st ≤ 200000000000 := by
            have h1 := heq.crd
            have h2 := eqN_le (eqnsB s) j
            have h3 := HEN.out
            have h4 := HNN.out.1
            rw [eqN_app] at h1
            omega
          have HK0 : Hid (∀ W, SolW w (w.heap.size + 1) st W → Calls Try.prog 112 #[.pointer (some ⟨w.heap.size + 1, 0, none⟩), .agg #[.int .i64 1, .int .i64 b.v, .string ⟨#[]⟩, .slice none 0 0]] W fun e w' => ∃ a s', e = .returned (.pointer (some ⟨a, 0, none⟩)) ∧ KnS st (varTm b.v) a s' ∧ SolW w (w.heap.size + 1) s' w' ∧ Fr isP W w') := Lib.hid fun W hW =>
            knotOf_any w _ st (varTm b.v) (.slice none 0 0) W hW (.nil none 0) hvo (Nat.le_trans (len_credB st) (by omega)) heq.inv.maps
          have HK1 : Hid (∀ (s1 : St) (a : Nat), KnS st (varTm b.v) a s1 → ∀ W, SolW w (w.heap.size + 1) s1 W → Calls Try.prog 112 #[.pointer (some ⟨w.heap.size + 1, 0, none⟩), .agg #[.int .i64 b.t.kind, .int .i64 b.t.num, .string b.t.name, .slice u1 b.t.args.length u2]] W fun e w' => ∃ c s', e = .returned (.pointer (some ⟨c, 0, none⟩)) ∧ KnS s1 b.t c s' ∧ SolW w (w.heap.size + 1) s' w' ∧ Fr isP W w') := Lib.hid fun s1 a ha W hW => by
            refine knotOf_any w _ s1 b.t _ W hW huS hto ?_ (ha.pre heq.inv.pre hvo).2
            have h1 := ext_len (ha.ext hvo).1
            have h2 := hvo.1
            omega
          have HPU : Hid (∀ (s1 s2 : St) (a c : Nat), KnS st (varTm b.v) a s1 → KnS s1 b.t c s2 → ∀ W, SolW w (w.heap.size + 1) s2 W → Calls Try.prog 111 #[.pointer (some ⟨w.heap.size + 1, 0, none⟩), .pointer (some ⟨a, 0, none⟩), .pointer (some ⟨c, 0, none⟩)] W fun e w' => e = .returned (.tuple #[]) ∧ SolW w (w.heap.size + 1) (pushS s2 a c) w' ∧ Fr isM W w') := Lib.hid fun s1 s2 a c ha hc W hW => by
            refine push_any w _ s2 a c W hW ?_
            rw [(hc.ext hto).1.steps, (ha.ext hvo).1.steps, heq.len]
            omega
          have HVA : Hid (∀ (s1 : St) W, SolW w (w.heap.size + 1) s1 W → Calls Try.prog 73 #[.agg #[.int .i64 b.v, .int .i64 b.t.kind, .int .i64 b.t.num, .string b.t.name, .slice u1 b.t.args.length u2]] W fun e w' => e = .returned (.agg #[.int .i64 1, .int .i64 b.v, .string ⟨#[]⟩, .slice none 0 0]) ∧ Below W.heap.size W w') := Lib.hid fun s1 W hW =>
            variable_any b _ W (huS.frame hW.old.size fun k hk _ => hW.old.block k hk).at
          have HFIN : Hid (∀ s1 s2 a c W, KnS st (varTm b.v) a s1 → KnS s1 b.t c s2 → SolW w (w.heap.size + 1) (pushS s2 a c) W → ∃ st, SolW w (w.heap.size + 1) st W ∧ Eqs st (l.zip r ++ (eqnsB s).take (j + 1)) (eqN (l.zip r ++ (eqnsB s).take (j + 1))) (l.length + (j + 1))) := Lib.hid fun s1 s2 a c W h1 h2 h3 => by
            refine ⟨_, h3, ?_⟩
            have h4 := heq.push hvo hto h1 h2
            rw [eqN_app] at h4 ⊢
            rw [eqN_take hej, take_eqn hej, ← List.append_assoc]
            rw [show eqN (l.zip r) + (eqN ((eqnsB s).take j) + (varTm b.v).nodes + b.t.nodes) = eqN (l.zip r) + eqN ((eqnsB s).take j) + (varTm b.v).nodes + b.t.nodes from by omega]
            exact h4
          have HS1 := Lib.hid hst
          clear hst heq HSJ hc hu huS hb hbm hvo hto hej hcd hq hg
          go_upto_region 10 with (fail)
          have hal : Below wr.heap.size wr (wr.alloc (.cells #[.int .i64 b.v, .int .i64 b.t.kind, .int .i64 b.t.num, .string b.t.name, .slice u1 b.t.args.length u2] 47)) := belowAlloc (Below.refl _ _) _
          have HBX := Lib.hid (heap_new wr (.cells #[.int .i64 b.v, .int .i64 b.t.kind, .int .i64 b.t.num, .string b.t.name, .slice u1 b.t.args.length u2] 47))
          have hS0 := HS1.out.kept hal
          clear hal d0 d1 d2 d3 d4 HS1 hgl
          generalize hw1 : wr.alloc (.cells #[.int .i64 b.v, .int .i64 b.t.kind, .int .i64 b.t.num, .string b.t.name, .slice u1 b.t.args.length u2] 47) = w1 at HBX hS0 ⊢
          clear hw1
          generalize wr.heap.size = nb at HBX ⊢
          have HCE : Hid (∀ W, Fr isM w1 W → W.cell? ⟨nb, 0, none⟩ = some (.int .i64 b.v) ∧ W.cell? ⟨nb, 1, none⟩ = some (.int .i64 b.t.kind) ∧ W.cell? ⟨nb, 2, none⟩ = some (.int .i64 b.t.num) ∧ W.cell? ⟨nb, 3, none⟩ = some (.string b.t.name) ∧ W.cell? ⟨nb, 4, none⟩ = some (.slice u1 b.t.args.length u2)) := Lib.hid fun W hW => by
            obtain ⟨y0, y1, y2, y3, y4, _⟩ := box_cells5 (hW.cells HBX.out (not_isM (by decide) (by decide) (by decide)))
            exact ⟨y0, y1, y2, y3, y4⟩
          have HTF : Hid (∀ a b, Fr isM w1 a → Fr isM a b → Fr isM w1 b) := Lib.hid fun a b h1 h2 => h1.trans h2
          have HTB : Hid (∀ a b, Fr isM w1 a → Below a.heap.size a b → Fr isM w1 b) := Lib.hid fun a b h1 h2 => h1.trans (Fr.of_below h2)
          have hF0 : Fr isM w1 w1 := Fr.refl _ _
          have hF1 : Fr isM w1 w1.drew := Fr.of_below (Below.refl _ _).drew
          have hS1 : SolW w (w.heap.size + 1) st w1.drew := hS0.kept (Below.refl _ _).drew
          obtain ⟨e0, e1, e2, e3, e4⟩ := HCE.out w1 hF0
          go_region_held3 (fun w' => w'.cell? ⟨nb, 0, none⟩ = some (.int .i64 b.v) ∧ w'.cell? ⟨nb, 1, none⟩ = some (.int .i64 b.t.kind) ∧ w'.cell? ⟨nb, 2, none⟩ = some (.int .i64 b.t.num) ∧ w'.cell? ⟨nb, 3, none⟩ = some (.string b.t.name) ∧ w'.cell? ⟨nb, 4, none⟩ = some (.slice u1 b.t.args.length u2)) (go_keep)
            (first
              | (go_at_call 73; (with_reducible refine Calls.mono (HVA.out _ _ (by assumption)) ?_); rintro e wA ⟨rfl, hbA⟩; have hFA := HTB.out _ _ (by assumption) hbA; have hSA := SolW.kept (by assumption) hbA; obtain ⟨e0, e1, e2, e3, e4⟩ := HCE.out _ hFA; clear hbA)
              | (go_at_call 112; (with_reducible refine Calls.mono (HK0.out _ (by assumption)) ?_); rintro e wB ⟨a, s1, rfl, hk1, hSB, hfB⟩; have hFB := HTF.out _ _ (by assumption) hfB.wideP; obtain ⟨e0, e1, e2, e3, e4⟩ := HCE.out _ hFB; clear hfB)
              | (go_at_call 112; (with_reducible refine Calls.mono (HK1.out _ _ (by assumption) _ (by assumption)) ?_); rintro e wC ⟨c, s2, rfl, hk2, hSC, hfC⟩; have hFC := HTF.out _ _ (by assumption) hfC.wideP; obtain ⟨e0, e1, e2, e3, e4⟩ := HCE.out _ hFC; clear hfC)
              | (go_at_call 111; (with_reducible refine Calls.mono (HPU.out _ _ _ _ (by assumption) (by assumption) _ (by assumption)) ?_); rintro e wD ⟨rfl, hSD, hfD⟩; have hFD := HTF.out _ _ (by assumption) hfD; obtain ⟨e0, e1, e2, e3, e4⟩ := HCE.out _ hFD; have HX := Lib.hid (HFIN.out _ _ _ _ _ hk1 hk2 hSD); clear hfD))
          all_goals
            go_wp2
            go_roundw
            case rel => exact ⟨j + 1, by omega, by go_num, HX⟩
            case measure => simp [intOf]; omega
        · obtain rfl : j = s.length := by omega
          obtain ⟨st, hst, heq⟩ := HSJ.out
          have hz : (eqnsB s).take s.length = eqnsB s := List.take_of_length_le (by unfold eqnsB; rw [List.length_map]; exact Nat.le_refl _)
          rw [hz] at heq
          have HE : Hid (∀ f, SolE f (l.zip r ++ eqnsB s) ↔ Sat f s ∧ SolE f (l.zip r)) := Lib.hid fun f => by rw [solE_app, eqns_sat]; exact and_comm
          have hcd : credB st ≤ 200000000000 := by
            have h1 := heq.crd
            have h3 := HEN.out
            have h4 := HNN.out.1
            rw [eqN_app] at h1
            omega
          have hmu : muS st ≤ 1099511500000 := by
            have h1 := cred_le st
            have h2 := heq.len
            unfold muS
            omega
          have HRU := Lib.hid (run_any w _ st (l.zip r ++ eqnsB s) wr hst heq.inv (by omega) hmu (by rw [heq.bnd]; omega))
          clear hst heq HSJ hz hcd hmu HSS
          go_wp2_with fail
          refine HRU.out.mono ?_
          rintro e w3 ⟨bl, rfl, hf3, st3, hS3, ht3, hn3⟩
          cases bl with
          | false =>
            have hno := hn3 rfl s (l.zip r) HE.out
            have HR : Hid (SolvP s (l.zip r) w (.returned (.tuple #[.slice none 0 0, .bool false])) w3) := Lib.hid (by
              obtain ⟨m1, m2⟩ := mu_no hno
              unfold SolvP
              rw [m1, m2]
              exact ⟨_, rfl, .nil, hS3.old⟩)
            clear hno hf3 hS3 ht3 hn3 HRU
            go_wp2
            go_ret2
            exact HR.out
          | true =>
            obtain ⟨hI3, hs3, hb3, hc3⟩ := ht3 rfl
            have HSB := Lib.hid (solBindings_any w _ st3 _ w3 hS3 hI3 hc3 hb3)
            have HK3 := Lib.hid (And.intro hI3 (And.intro hs3 hb3))
            have HZ3 := Lib.hid hS3.old.size
            clear hf3 hS3 ht3 hn3 HRU hI3 hs3 hb3 hc3
            go_wp2_with fail
            refine HSB.out.mono ?_
            rintro e w4 ⟨⟨V, u, rfl, hu, hfull⟩ | ⟨rfl, v, b, rr, hm, hrr, hneg⟩, hold⟩
            · have HR : Hid (SolvP s (l.zip r) w (.returned (.tuple #[V, .bool true])) w4) := Lib.hid (by
                obtain ⟨m1, m2⟩ := mu_yes (HK3.out.1.mgu HK3.out.2.1 HK3.out.2.2 hfull HE.out)
                unfold SolvP
                rw [m1, m2]
                exact ⟨_, rfl, hu.sub fun k hk => ⟨Nat.le_trans HZ3.out hk.1, hk.2⟩, hold⟩)
              clear hu hfull hold HSB
              go_wp2
              go_ret2
              exact HR.out
            · have HR : Hid (SolvP s (l.zip r) w (.returned (.tuple #[.slice none 0 0, .bool false])) w4) := Lib.hid (by
                obtain ⟨m1, m2⟩ := mu_no (HK3.out.1.too_large HE.out hm hrr hneg)
                unfold SolvP
                rw [m1, m2]
                exact ⟨_, rfl, .nil, hold⟩)
              clear hm hrr hneg hold HSB
              go_wp2
              go_ret2
              exact HR.out
end Go.Proofs.Ytbbgiefnmihmdaa

