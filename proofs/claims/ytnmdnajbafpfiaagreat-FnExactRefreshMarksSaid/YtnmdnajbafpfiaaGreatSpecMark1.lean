/-
  Marks put into a list, plain; the model's l10Mark. (Written by wip/tools/gen_specmark1.py.)
-/
import Derived.Test.YtnmdnajbafpfiaaGreatSpecMarks
import Derived.Test.YtnmdnajbafpfiaaGreatSpecSym
import Derived.Test.YtnmdnajbafpfiaaGreatDemG
import Derived.Test.YtnmdnajbafpfiaaGreatDemPoM
import Derived.Deep.RegionHeld3
namespace Go.Proofs.YtnmdnajbafpfiaaGreat
open Go.RowKit
set_option linter.unusedVariables false
set_option linter.unusedSimpArgs false

/-- 's[:k]' and 's[k:]', read. -/
theorem cut_two {α : Type} {E : El α} {P : Program} (t e : TypeId) (hu : P.underlying t = some (.slice e)) (hsz : ∀ w : World, (Go.sizeOf e).run P w = .ok E.n w) {w : World} {A : Option Addr} {cap n i : Nat} {l : List α} (hn : n = l.length)
    (h : ListS E w Any (.slice A n cap) l) (hc : n ≤ cap) (hi : i ≤ n) (hA : A = none → n = 0 ∧ cap = 0) :
    ∃ A1 A2 : Option Addr, (∀ W : World, (Instr.slice t (.slice A n cap) none (some (.int .i64 (i : Int))) none).run P W = .ok (.slice A1 i cap) W) ∧ ListS E w Any (.slice A1 i cap) (l.take i) ∧ (A1 = none → i = 0 ∧ cap = 0) ∧
      (∀ W : World, (Instr.slice t (.slice A n cap) (some (.int .i64 (i : Int))) none none).run P W = .ok (.slice A2 (n - i) (cap - i)) W) ∧ ListS E w Any (.slice A2 (n - i) (cap - i)) (l.drop i) ∧ (A2 = none → n - i = 0 ∧ cap - i = 0) := by
  subst hn
  have hel : P.elem t = e := by unfold Program.elem; rw [hu]
  have r1 : ∀ W : World, (Instr.slice t (.slice A l.length cap) none (some (.int .i64 (i : Int))) none).run P W = .ok (sliced A 0 i cap E.n) W := fun W => by
    rw [run_slice_h W t A l.length cap (by rw [hel]; exact hu) .i64 (i : Int) (by omega) (by omega), hel, hsz]
    show Result.ok (sliced A 0 (i : Int).toNat cap E.n) W = _
    rw [Int.toNat_natCast]
  have r2 : ∀ W : World, (Instr.slice t (.slice A l.length cap) (some (.int .i64 (i : Int))) none none).run P W = .ok (sliced A i l.length cap E.n) W := fun W => by
    rw [run_slice_l W t A l.length cap (by rw [hel]; exact hu) .i64 (i : Int) (by omega) (by omega), hel, hsz]
    show Result.ok (sliced A (i : Int).toNat l.length cap E.n) W = _
    rw [Int.toNat_natCast]
  refine ⟨if cap = 0 then A else A.map (·.add (0 * E.n)), if cap = i then A else A.map (·.add (i * E.n)), fun W => by rw [r1, sliced]; simp, ?_, ?_, fun W => by rw [r2, sliced], ?_, ?_⟩
  · by_cases h0 : l = []
    · subst h0
      have : i = 0 := by simpa using hi
      subst this
      exact .nil _ _
    · obtain ⟨x, hx⟩ : ∃ x, l[0]? = some x := ⟨_, List.getElem?_eq_getElem (List.length_pos_iff.2 h0)⟩
      obtain ⟨g, off, U, rfl, _, _, _, _, _⟩ := h.elem hx
      have hp := h.part 0 i cap (Nat.zero_le _) hi
      rw [List.drop_zero, Nat.sub_zero, Nat.zero_mul, Nat.add_zero] at hp
      by_cases hz : cap = 0
      · rw [if_pos hz]; exact hp
      · rw [if_neg hz, Option.map_some, addr_add, Nat.zero_mul, Nat.add_zero]; exact hp
  · intro h0
    split at h0
    · have := hA h0; exact ⟨by omega, this.2⟩
    · rw [Option.map_eq_none_iff] at h0
      have := hA h0
      exact ⟨by omega, this.2⟩
  · by_cases h0 : l = []
    · subst h0
      rw [List.drop_nil, show ([] : List α).length - i = 0 from by simp]
      exact .nil _ _
    · obtain ⟨x, hx⟩ : ∃ x, l[0]? = some x := ⟨_, List.getElem?_eq_getElem (List.length_pos_iff.2 h0)⟩
      obtain ⟨g, off, U, rfl, _, _, _, _, _⟩ := h.elem hx
      by_cases hz : cap = i
      · have h0 : l.length - i = 0 := by omega
        rw [h0, List.drop_of_length_le (by omega)]
        exact .nil _ _
      · have hp := h.part i l.length (cap - i) hi (Nat.le_refl _)
        rw [List.take_length] at hp
        rw [if_neg hz, Option.map_some, addr_add]
        exact hp
  · intro h0
    split at h0
    · rename_i hz
      have := hA h0
      omega
    · rw [Option.map_eq_none_iff] at h0
      have := hA h0
      omega

def insM (l : List Mk) (i : Nat) (x : Mk) : List Mk := l.take i ++ x :: l.drop i
theorem ascM_at {l : List Mk} (h : AscO ordM l) {i j : Nat} {x y : Mk} (hij : i < j) (hx : l[i]? = some x) (hy : l[j]? = some y) : mkLt x y = true := by
  obtain ⟨hi, rfl⟩ := List.getElem?_eq_some_iff.1 hx
  obtain ⟨hj, rfl⟩ := List.getElem?_eq_some_iff.1 hy
  exact List.pairwise_iff_getElem.1 h i j hi hj hij
theorem insM_ok {l : List Mk} {i : Nat} {m : Mk} (hl : AscO ordM l) (h1 : ∀ (j : Nat) (x : Mk), j < i → l[j]? = some x → mkLt x m = true) (h2 : ∀ x, l[i]? = some x → mkLt m x = true) : AscO ordM (insM l i m) ∧ ∀ z, z ∈ insM l i m ↔ z ∈ l ∨ z = m := by
  constructor
  · unfold insM AscO
    have hsplit : (l.take i ++ l.drop i).Pairwise (fun a b => ordM.lt a b = true) := by rw [List.take_append_drop]; exact hl
    obtain ⟨p1, p2, p3⟩ := List.pairwise_append.1 hsplit
    refine List.pairwise_append.2 ⟨p1, List.pairwise_cons.2 ⟨fun z hz => ?_, p2⟩, fun a ha b hb => ?_⟩
    · obtain ⟨j, hj⟩ := List.getElem?_of_mem hz
      rw [List.getElem?_drop] at hj
      have hlen := (List.getElem?_eq_some_iff.1 hj).1
      obtain ⟨y, hy⟩ : ∃ y, l[i]? = some y := ⟨_, List.getElem?_eq_getElem (by omega)⟩
      have h3 := h2 y hy
      cases j with
      | zero => rw [Nat.add_zero] at hj; cases hy.symm.trans hj; exact h3
      | succ j => exact mkLt_tr h3 (ascM_at hl (by omega) hy hj)
    · rcases List.mem_cons.1 hb with rfl | hb
      · obtain ⟨j, hj⟩ := List.getElem?_of_mem ha
        rw [List.getElem?_take] at hj
        split at hj
        · exact h1 j a (by assumption) hj
        · cases hj
      · exact p3 a ha b hb
  · intro z
    rw [insM, List.mem_append, List.mem_cons]
    constructor
    · rintro (h | h | h)
      · exact .inl (List.mem_of_mem_take h)
      · exact .inr h
      · exact .inl (List.mem_of_mem_drop h)
    · rintro (h | h)
      · rw [← List.take_append_drop i l] at h
        exact (List.mem_append.1 h).imp id .inr
      · exact .inr (.inl h)
/-- The list after so many variables. -/
def MarkR (l : List Mk) (vs : List Int) (tag : ByteArray) (k : Nat) (cur : List Mk) : Prop := AscO ordM cur ∧ ∀ z, z ∈ cur ↔ z ∈ l ∨ ∃ v ∈ vs.take k, (⟨v, tag⟩ : Mk) = z
theorem markR_on {l : List Mk} {vs : List Int} {tag : ByteArray} {k : Nat} {cur cur' : List Mk} {v : Int} (h : MarkR l vs tag k cur) (hv : vs[k]? = some v) (ha : AscO ordM cur') (hm : ∀ z, z ∈ cur' ↔ z ∈ cur ∨ z = ⟨v, tag⟩) : MarkR l vs tag (k + 1) cur' := by
  refine ⟨ha, fun z => ?_⟩
  rw [hm, h.2, takeE hv]
  constructor
  · rintro ((h | ⟨u, hu, e⟩) | h)
    · exact .inl h
    · exact .inr ⟨u, List.mem_append.2 (.inl hu), e⟩
    · exact .inr ⟨v, List.mem_append.2 (.inr (List.mem_singleton.2 rfl)), h.symm⟩
  · rintro (h | ⟨u, hu, e⟩)
    · exact .inl (.inl h)
    · rcases List.mem_append.1 hu with hu | hu
      · exact .inl (.inr ⟨u, hu, e⟩)
      · rw [List.mem_singleton] at hu
        subst hu
        exact .inr e.symm
theorem markR_end {l : List Mk} {t : Tm} {tag : ByteArray} {cur : List Mk} {vs : List Int} (hl : AscO ordM l) (hvs : varsOf t = vs) (hn : syB t tag = false) (hva : vs.Pairwise (· < ·)) (h : MarkR l vs tag vs.length cur) : (poM [⟨0, tag⟩] t).bind (jn ordM l) = some cur := by
  have hp : poM [⟨0, tag⟩] t = some (vs.map fun v => (⟨v, tag⟩ : Mk)) := by
    rw [poM, if_pos (by simp [mkAllows, hn]), hvs]
    have e : ∀ us : List Int, poLM [⟨0, tag⟩] us = us.map fun v => (⟨v, tag⟩ : Mk) := by
      intro us
      induction us with
      | nil => rfl
      | cons v us ih =>
        unfold poLM at ih ⊢
        rw [List.flatMap_cons, ih]
        rfl
    rw [e]
  have hpa : AscO ordM (vs.map fun v => (⟨v, tag⟩ : Mk)) := by
    unfold AscO
    rw [List.pairwise_map]
    exact hva.imp fun {a b} hab => mkLt_iff.2 (.inl hab)
  rw [hp]
  show jn ordM l _ = _
  cases hj : jn ordM l (vs.map fun v => (⟨v, tag⟩ : Mk)) with
  | none =>
    obtain ⟨a, _, b, _, hc⟩ := (jn_no hl hpa).1 hj
    exact absurd hc ordM_total
  | some r =>
    obtain ⟨s1, s2⟩ := jn_yes hl hpa hj
    rw [ascO_ext s1 h.1 fun z => by
      rw [s2, h.2, List.take_length, List.mem_map]]
/-- A list of marks that can be read, or nil and false. -/
def AmP (r : Option (List Mk)) (w : World) (e : Ending) (w' : World) : Prop := ∃ u, e = .returned (.tuple #[u, .bool r.isSome]) ∧ ListS mkE w' Any u (r.getD []) ∧ CapL u (r.getD []).length ∧ Below w.heap.size w w'
theorem amP_no {w w' : World} (hb : Below w.heap.size w w') : AmP none w (.returned (.tuple #[.slice none 0 0, .bool false])) w' := ⟨_, rfl, .nil _ _, .inl ⟨rfl, rfl⟩, hb⟩
theorem varsOf_all {t : Tm} (h : Ok t) : varsOf t = allVars t := by
  rw [varsOf, if_pos h, show Lib.compact (sorted t.vl) = t.vl.foldl insAsc [] from (by rw [ins_is_compact]; rfl)]
  rfl
theorem allVars_asc (t : Tm) : (allVars t).Pairwise (· < ·) := (insL_spec t.vl [] List.Pairwise.nil).1

set_option maxRecDepth 100000 in
set_option maxHeartbeats 32000000 in
theorem specMark_any (l : List Mk) (V : Value) (t : Tm) (Vt : Value) (tag : ByteArray) (w : World) (hA : ListS mkE w Any V l) (hC : CapL V l.length) (hL : l.length ≤ 17179869184) (hl : AscO ordM l) (hT : ArgsAt w Vt t.args) (hZ : t.sz ≤ 1048576) (hO : Ok t) (hS : tag.size ≤ maxLen) :
    Calls Tryz.prog 53 #[V, .agg #[.int .i64 t.kind, .int .i64 t.num, .string t.name, Vt], .string tag] w (AmP ((poM [⟨0, tag⟩] t).bind (jn ordM l)) w) := by
  obtain ⟨A0, cap0, rfl, hc0, hm0, hn0⟩ := hC.slice
  obtain ⟨ta, tc, rfl⟩ := hT.slice
  obtain ⟨i0, hi, hz0, hz1, hz2⟩ := info_parts infoMark
  have HII := Lib.hid (And.intro hi (And.intro hz0 (And.intro hz1 hz2)))
  obtain ⟨nl, hnl⟩ : ∃ n : Nat, n = l.length := ⟨_, rfl⟩
  rw [← hnl] at hA hL hc0 hn0 hC
  rw [← hnl]
  have HNL := Lib.hid hnl
  have HA := Lib.hid hA
  have HT := Lib.hid hT
  have HLA := Lib.hid hl
  have HN0 := Lib.hid hn0
  have HCP0 : Hid (CapL (.slice A0 nl cap0) nl) := Lib.hid hC
  have hal : Below w.heap.size w (w.alloc (.cells #[.int .i64 t.kind, .int .i64 t.num, .string t.name, .slice ta t.args.length tc] 38)) := belowAlloc (Below.refl _ _) _
  have HBX := Lib.hid (at_box_of w #[.int .i64 t.kind, .int .i64 t.num, .string t.name, .slice ta t.args.length tc] 38 w.heap.size rfl)
  have HW := Lib.hid hal
  have HC1 := Lib.hid (contains_any (t.nodes + 1) t (.slice ta t.args.length tc) tag (w.alloc (.cells #[.int .i64 t.kind, .int .i64 t.num, .string t.name, .slice ta t.args.length tc] 38)) (Nat.lt_succ_self _) (hT.kept hal) hZ hS)
  have HNO : Hid (syB t tag = true → (poM [⟨0, tag⟩] t).bind (jn ordM l) = none) := Lib.hid fun h => by rw [poM, if_neg (by simp [mkAllows, h])]; rfl
  have HYES : Hid (syB t tag = false → ∀ cur, MarkR l (allVars t) tag (allVars t).length cur → (poM [⟨0, tag⟩] t).bind (jn ordM l) = some cur) := Lib.hid fun h cur hm => markR_end hl (varsOf_all hO) h (allVars_asc t) hm
  generalize (poM [⟨0, tag⟩] t).bind (jn ordM l) = R at HNO HYES ⊢
  have hnd : t.nodes ≤ 5000 := hO.1
  clear hi hz0 hz1 hz2 hA hC hT hl hO hal hnl hn0
  go_enter Tryz.func53, Tryz.ntmps53
  go_wp2_with fail
  refine HC1.out.mono ?_
  rintro e w1 ⟨rfl, hb⟩
  have HW1 := Lib.hid (HW.out.trans (hb.mono HW.out.size))
  have HB1 := Lib.hid (HBX.out.read hb)
  obtain ⟨e0, e1, e2, e3⟩ := HB1.out.cells
  have hz9 := HB1.out.le
  clear hb HC1 HBX
  cases hsy : syB t tag with
  | true =>
    obtain rfl := HNO.out hsy
    clear hsy
    go_wp2
    go_ret2
    exact amP_no HW1.out
  | false =>
    have HSY := Lib.hid hsy
    clear hsy
    have HC2 := Lib.hid (specVars_any (t.nodes + 1) t _ w1 (.slice none 0 0) [] w1 (Nat.lt_succ_self _) (HT.out.kept HW1.out) (Below.refl _ _) (World.ownsRow_nil w1 0 3 1) (by simp; omega) hZ)
    go_wp2_with fail
    refine HC2.out.mono ?_
    rintro e w2 ⟨vv, rfl, hrow, hb⟩
    have HW2 := Lib.hid (HW1.out.trans (hb.mono HW1.out.size))
    have hvl : (allVars t).length ≤ 5000 := by have := allVars_len t; omega
    obtain ⟨va, vc, rfl, hvals⟩ := hrow.vals
    have hfd : t.vl.foldl insAsc [] = allVars t := rfl
    rw [List.length_map]
    rw [hfd] at hvals ⊢
    obtain ⟨vs, hvs⟩ : ∃ vs, allVars t = vs := ⟨_, rfl⟩
    rw [hvs] at hvals hvl HYES ⊢
    obtain ⟨nv, hnv⟩ : ∃ n : Nat, n = vs.length := ⟨_, rfl⟩
    rw [← hnv] at hvl HYES ⊢
    have HNV := Lib.hid hnv
    have HVV := Lib.hid hvals
    clear hb hrow hvals hfd e0 e1 e2 e3 hz9 HC2 HB1 HW1 hvs hnv HNO HW
    go_wp2
    go_loopw [0, 19] (fun v0 kv wr => ∃ (k n cap : Nat) (A : Option Addr) (cur : List Mk), k ≤ nv ∧ kv = .int .i64 k ∧ v0 = .slice A n cap ∧ n ≤ cap ∧ cap ≤ 9223372036854775807 ∧ n ≤ nl + k ∧ Hid (n = cur.length) ∧ Hid (A = none → n = 0 ∧ cap = 0) ∧ Hid (CapL (.slice A n cap) n) ∧ Hid (ListS mkE wr Any (.slice A n cap) cur) ∧ Hid (MarkR l vs tag k cur) ∧ Hid (Below w2.heap.size w2 wr)) (fun _ kv _ => nv - (intOf kv).toNat)
    case atStart => exact ⟨0, nl, cap0, A0, l, Nat.zero_le _, rfl, rfl, hc0, hm0, by omega, HNL, HN0, HCP0, Lib.hid (HA.out.kept HW2.out), Lib.hid ⟨HLA.out, fun z => by simp⟩, Lib.hid (Below.refl _ _)⟩
    case round =>
      obtain ⟨k, n, cap, A, cur, hk, rfl, rfl, hnc, hcm, hnk, HN, HAN, HCP, HLS, HMR, HB⟩ := hrel
      by_cases hlt : k < nv
      · have hltI : (k : Int) < (nv : Int) := by omega
        have hk0 : (0 : Int) ≤ (k : Int) := by omega
        obtain ⟨v, hv⟩ : ∃ v, vs[k]? = some v := ⟨_, List.getElem?_eq_getElem (by rw [← HNV.out]; exact hlt)⟩
        obtain ⟨vg, vo, rfl, hvg, hvc⟩ := HVV.out.resolve_left (fun e => by have h1 := congrArg List.length e; rw [List.length_map, ← HNV.out] at h1; simp at h1; omega)
        have hcv := (HB.out.cell (p := ⟨vg, vo + k, none⟩) hvg).trans (hvc k (.int .i64 v) (by rw [List.getElem?_map, hv]; rfl))
        have HV := Lib.hid hv
        obtain ⟨wo, hwo⟩ : ∃ wo : World, wo = wr := ⟨_, rfl⟩
        rw [← hwo] at HLS HB hcv ⊢
        clear hwo hv hvc
        go_upto_region 7 with (fail)
        have hal5 : Below wo.heap.size wo (wo.alloc (.cells #[.int .i64 v, .string tag] 92)) := belowAlloc (Below.refl _ _) _
        have HMB := Lib.hid (at_box_of wo #[.int .i64 v, .string tag] 92 wo.heap.size rfl)
        have HW5 := Lib.hid (belowOn HB.out (Nat.le_refl _) hal5)
        have HL5 := Lib.hid (HLS.out.kept hal5)
        obtain ⟨nb, hnb⟩ : ∃ n : Nat, n = wo.heap.size := ⟨_, rfl⟩
        clear hal5 hcv
        rw [← hnb] at HMB ⊢
        clear hnb HB HLS
        generalize hw5 : wo.alloc (.cells #[.int .i64 v, .string tag] 92) = w5 at HMB HW5 HL5 ⊢
        clear hw5
        have HCB : Hid (∀ W, Below w5.heap.size w5 W → W.cell? ⟨nb, 0, none⟩ = some (.int .i64 v) ∧ W.cell? ⟨nb, 1, none⟩ = some (.string tag)) := Lib.hid fun W hW => by
          obtain ⟨y0, y1, _⟩ := box_cells2mk (HMB.out.read hW).now
          exact ⟨y0, y1⟩
        go_wp2
        go_loopw [11] (fun iv wr => ∃ i : Nat, i ≤ n ∧ iv = .int .i64 i ∧ Hid (∀ (j : Nat) (x : Mk), j < i → cur[j]? = some x → mkLt x ⟨v, tag⟩ = true) ∧ Hid (Below w5.heap.size w5 wr)) (fun iv _ => n - (intOf iv).toNat)
        case atStart => exact ⟨0, Nat.zero_le _, rfl, Lib.hid (fun j x hj => absurd hj (Nat.not_lt_zero _)), Lib.hid (Below.refl _ _)⟩
        case round =>
          obtain ⟨i, hi, rfl, HSC, HB6⟩ := hrel
          have hi0 : (0 : Int) ≤ (i : Int) := by omega
          have HWR : Hid (Below w2.heap.size w2 wr) := Lib.hid (belowOn HW5.out (Nat.le_refl _) HB6.out)
          have hself : Below wr.heap.size wr wr := Below.refl _ _
          have hdrew : Below wr.heap.size wr wr.drew := hself.drew
          have HTR : Hid (∀ a b, Below wr.heap.size wr a → Below a.heap.size a b → Below wr.heap.size wr b) := Lib.hid fun a b h1 h2 => belowOn h1 (Nat.le_refl _) h2
          obtain ⟨e0, e1⟩ := HCB.out wr HB6.out
          by_cases hin : i < n
          · have hinI : (i : Int) < (n : Int) := by omega
            obtain ⟨x, hx⟩ : ∃ x, cur[i]? = some x := ⟨_, List.getElem?_eq_getElem (by rw [← HN.out]; exact hin)⟩
            obtain ⟨g, off, rfl, hg, hq, hc⟩ := HL5.out.mk hx
            have HX := Lib.hid hx
            obtain ⟨xv, xs⟩ := x
            have HCE : Hid (∀ W, Below wr.heap.size wr W → (W.cell? ⟨nb, 0, none⟩ = some (.int .i64 v) ∧ W.cell? ⟨nb, 1, none⟩ = some (.string tag)) ∧ W.cell? ⟨g, off + i * 2, none⟩ = some (.int .i64 xv) ∧ W.cell? ⟨g, off + i * 2 + 1, none⟩ = some (.string xs)) := Lib.hid fun W hW => ⟨HCB.out W (belowOn HB6.out (Nat.le_refl _) hW), hc W (belowOn HB6.out (Nat.le_refl _) hW)⟩
            have HLS1 : Hid (∀ W, Calls Tryz.prog 77 #[.agg #[.int .i64 xv, .string xs], .agg #[.int .i64 v, .string tag]] W fun e w' => e = .returned (.bool (mkLt ⟨xv, xs⟩ ⟨v, tag⟩)) ∧ Below W.heap.size W w') := Lib.hid fun W => specLess_any ⟨xv, xs⟩ ⟨v, tag⟩ W
            have HLS2 : Hid (∀ W, Calls Tryz.prog 77 #[.agg #[.int .i64 v, .string tag], .agg #[.int .i64 xv, .string xs]] W fun e w' => e = .returned (.bool (mkLt ⟨v, tag⟩ ⟨xv, xs⟩)) ∧ Below W.heap.size W w') := Lib.hid fun W => specLess_any ⟨v, tag⟩ ⟨xv, xs⟩ W
            obtain ⟨_, d0, d1⟩ := HCE.out wr hself
            clear hx hc hq
            go_upto_region 8 with (fail)
            cases hl1 : mkLt ⟨xv, xs⟩ ⟨v, tag⟩ with
            | true =>
              rw [hl1] at HLS1
              have HL1 := Lib.hid hl1
              clear hl1
              refine wp_region_held_drew (S := (fun w' => Below wr.heap.size wr w' ∧ w'.cell? ⟨nb, 0, none⟩ = some (.int .i64 v) ∧ w'.cell? ⟨nb, 1, none⟩ = some (.string tag) ∧ w'.cell? ⟨g, off + i * 2, none⟩ = some (.int .i64 xv) ∧ w'.cell? ⟨g, off + i * 2 + 1, none⟩ = some (.string xs))) (by kernel_rfl) (by (try dsimp only); go_keep) (fun hHeld => ?_)
              (refine wpAnyH_take (i := 0) (oi := ⟨_, _, _, _, _, _⟩) (v := ?_) rfl (by kernel_rfl) (by kernel_rfl) (by kernel_rfl) (fun _ _ _ h => h) (Or.inl ⟨by rfl, ?_⟩) (by assumption) ?_; rotate_left; focus ((intro w' hSw; (try dsimp only at hSw); go_simp; (try with_reducible rfl)))); (try simp only [Act.put, List.setIfInBounds_toArray, List.set_cons_zero, List.set_cons_succ])
              (refine wpAnyH_take (i := 1) (oi := ⟨_, _, _, _, _, _⟩) (v := ?_) rfl (by kernel_rfl) (by kernel_rfl) (by kernel_rfl) (fun _ _ _ h => h) (Or.inl ⟨by rfl, ?_⟩) (by assumption) ?_; rotate_left; focus ((intro w' hSw; (try dsimp only at hSw); go_simp; (try with_reducible rfl)))); (try simp only [Act.put, List.setIfInBounds_toArray, List.set_cons_zero, List.set_cons_succ])
              (refine wpAnyH_take (i := 2) (oi := ⟨_, _, _, _, _, _⟩) (v := ?_) rfl (by kernel_rfl) (by kernel_rfl) (by kernel_rfl) (fun _ _ _ h => h) (Or.inl ⟨by rfl, ?_⟩) (by assumption) ?_; rotate_left; focus ((intro w' hSw; (try dsimp only at hSw); go_simp; (try with_reducible rfl)))); (try simp only [Act.put, List.setIfInBounds_toArray, List.set_cons_zero, List.set_cons_succ])
              (refine wpAnyH_take (i := 3) (oi := ⟨_, _, _, _, _, _⟩) (v := ?_) rfl (by kernel_rfl) (by kernel_rfl) (by kernel_rfl) (fun _ _ _ h => h) (Or.inl ⟨by rfl, ?_⟩) (by assumption) ?_; rotate_left; focus ((intro w' hSw; (try dsimp only at hSw); go_simp; (try with_reducible rfl)))); (try simp only [Act.put, List.setIfInBounds_toArray, List.set_cons_zero, List.set_cons_succ])
              (refine wpAnyH_take (i := 4) (oi := ⟨_, _, _, _, _, _⟩) (v := ?_) rfl (by kernel_rfl) (by kernel_rfl) (by kernel_rfl) (fun _ _ _ h => h) (Or.inl ⟨by rfl, ?_⟩) (by assumption) ?_; rotate_left; focus ((intro w' hSw; (try dsimp only at hSw); go_simp; (try with_reducible rfl)))); (try simp only [Act.put, List.setIfInBounds_toArray, List.set_cons_zero, List.set_cons_succ])
              (refine wpAnyH_take (i := 5) (oi := ⟨_, _, _, _, _, _⟩) (v := ?_) rfl (by kernel_rfl) (by kernel_rfl) (by kernel_rfl) (fun _ _ _ h => h) (Or.inl ⟨by rfl, ?_⟩) (by assumption) ?_; rotate_left; focus ((intro w' hSw; (try dsimp only at hSw); go_simp; (try with_reducible rfl)))); (try simp only [Act.put, List.setIfInBounds_toArray, List.set_cons_zero, List.set_cons_succ])
              (refine wpAnyH_take (i := 6) (oi := ⟨_, _, _, _, _, _⟩) (v := ?_) rfl (by kernel_rfl) (by kernel_rfl) (by kernel_rfl) (fun _ _ _ h => h) (Or.inl ⟨by rfl, ?_⟩) (by assumption) ?_; rotate_left; focus ((intro w' hSw; (try dsimp only at hSw); go_simp; (try with_reducible rfl)))); (try simp only [Act.put, List.setIfInBounds_toArray, List.set_cons_zero, List.set_cons_succ])
              (refine wpAnyH_take (i := 7) (oi := ⟨_, _, _, _, _, _⟩) (v := ?_) rfl (by kernel_rfl) (by kernel_rfl) (by kernel_rfl) (fun _ _ _ h => h) (Or.inl ⟨by rfl, ?_⟩) (by assumption) ?_; rotate_left; focus ((intro w' hSw; (try dsimp only at hSw); go_simp; (try with_reducible rfl)))); (try simp only [Act.put, List.setIfInBounds_toArray, List.set_cons_zero, List.set_cons_succ])
              (refine wpAnyH_take (i := 8) (oi := ⟨_, _, _, _, _, _⟩) (v := ?_) rfl (by kernel_rfl) (by kernel_rfl) (by kernel_rfl) (fun _ _ _ h => h) (Or.inl ⟨by rfl, ?_⟩) (by assumption) ?_; rotate_left; focus ((intro w' hSw; (try dsimp only at hSw); go_simp; (try with_reducible rfl)))); (try simp only [Act.put, List.setIfInBounds_toArray, List.set_cons_zero, List.set_cons_succ])
              (refine wpAnyH_take (i := 9) (oi := ⟨_, _, _, _, _, _⟩) (v := ?_) rfl (by kernel_rfl) (by kernel_rfl) (by kernel_rfl) (fun _ _ _ h => h) (Or.inl ⟨by rfl, ?_⟩) (by assumption) ?_; rotate_left; focus ((intro w' hSw; (try dsimp only at hSw); go_simp; (try with_reducible rfl)))); (try simp only [Act.put, List.setIfInBounds_toArray, List.set_cons_zero, List.set_cons_succ])
              refine wpAnyH_ready (rs := [10]) (by kernel_rfl) (by simp) ?_
              refine AllReadyH.cons (o := ⟨_, _, _, _, _, _⟩) rfl (fun K hK => ?_) AllReadyH.nil
              go_simp
              (first | (go_at_call 77; (with_reducible refine Calls.mono (HLS1.out _) ?_); rintro e w7 ⟨rfl, hb7⟩; have hB7 := HTR.out _ _ (by assumption) hb7; obtain ⟨⟨k0, k1⟩, k2, k3⟩ := HCE.out _ hB7))
              (try go_wp2_with fail)
              refine hK.out _ _ (by (try dsimp only); (first | go_keep | (refine ⟨by assumption, ?_⟩; go_keep))) (fun hHeld => ?_)
              clear hK K
              (try simp only [Act.put, List.setIfInBounds_toArray, List.set_cons_zero, List.set_cons_succ])
              (refine wpAnyH_take (i := 11) (oi := ⟨_, _, _, _, _, _⟩) (v := ?_) rfl (by kernel_rfl) (by kernel_rfl) (by kernel_rfl) (fun _ _ _ h => h) (Or.inl ⟨by rfl, ?_⟩) (by assumption) ?_; rotate_left; focus ((intro w' hSw; (try dsimp only at hSw); go_simp; (try with_reducible rfl)))); (try simp only [Act.put, List.setIfInBounds_toArray, List.set_cons_zero, List.set_cons_succ])
              refine wpAnyH_done (by kernel_rfl) ?_ _
              have HB7 : Hid (Below w5.heap.size w5 w7) := Lib.hid (belowOn HB6.out (Nat.le_refl _) hB7)
              clear hHeld hB7 hb7 e0 e1 d0 d1 hself hdrew HTR HCE HLS1 HLS2
              try clear k0 k1 k2 k3
              go_wp2
              go_roundw
              case rel => exact ⟨i + 1, by omega, by go_num, Lib.hid (fun j y hj hy => by
                by_cases e : j = i
                · subst e; cases hy.symm.trans HX.out; exact HL1.out
                · exact HSC.out j y (by omega) hy), HB7⟩
              case measure => simp [intOf]; omega
            | false =>
              rw [hl1] at HLS1
              have HL1 := Lib.hid hl1
              clear hl1
              refine wp_region_held_drew (S := (fun w' => Below wr.heap.size wr w' ∧ w'.cell? ⟨nb, 0, none⟩ = some (.int .i64 v) ∧ w'.cell? ⟨nb, 1, none⟩ = some (.string tag) ∧ w'.cell? ⟨g, off + i * 2, none⟩ = some (.int .i64 xv) ∧ w'.cell? ⟨g, off + i * 2 + 1, none⟩ = some (.string xs))) (by kernel_rfl) (by (try dsimp only); go_keep) (fun hHeld => ?_)
              (refine wpAnyH_take (i := 0) (oi := ⟨_, _, _, _, _, _⟩) (v := ?_) rfl (by kernel_rfl) (by kernel_rfl) (by kernel_rfl) (fun _ _ _ h => h) (Or.inl ⟨by rfl, ?_⟩) (by assumption) ?_; rotate_left; focus ((intro w' hSw; (try dsimp only at hSw); go_simp; (try with_reducible rfl)))); (try simp only [Act.put, List.setIfInBounds_toArray, List.set_cons_zero, List.set_cons_succ])
              (refine wpAnyH_take (i := 1) (oi := ⟨_, _, _, _, _, _⟩) (v := ?_) rfl (by kernel_rfl) (by kernel_rfl) (by kernel_rfl) (fun _ _ _ h => h) (Or.inl ⟨by rfl, ?_⟩) (by assumption) ?_; rotate_left; focus ((intro w' hSw; (try dsimp only at hSw); go_simp; (try with_reducible rfl)))); (try simp only [Act.put, List.setIfInBounds_toArray, List.set_cons_zero, List.set_cons_succ])
              (refine wpAnyH_take (i := 2) (oi := ⟨_, _, _, _, _, _⟩) (v := ?_) rfl (by kernel_rfl) (by kernel_rfl) (by kernel_rfl) (fun _ _ _ h => h) (Or.inl ⟨by rfl, ?_⟩) (by assumption) ?_; rotate_left; focus ((intro w' hSw; (try dsimp only at hSw); go_simp; (try with_reducible rfl)))); (try simp only [Act.put, List.setIfInBounds_toArray, List.set_cons_zero, List.set_cons_succ])
              (refine wpAnyH_take (i := 3) (oi := ⟨_, _, _, _, _, _⟩) (v := ?_) rfl (by kernel_rfl) (by kernel_rfl) (by kernel_rfl) (fun _ _ _ h => h) (Or.inl ⟨by rfl, ?_⟩) (by assumption) ?_; rotate_left; focus ((intro w' hSw; (try dsimp only at hSw); go_simp; (try with_reducible rfl)))); (try simp only [Act.put, List.setIfInBounds_toArray, List.set_cons_zero, List.set_cons_succ])
              (refine wpAnyH_take (i := 4) (oi := ⟨_, _, _, _, _, _⟩) (v := ?_) rfl (by kernel_rfl) (by kernel_rfl) (by kernel_rfl) (fun _ _ _ h => h) (Or.inl ⟨by rfl, ?_⟩) (by assumption) ?_; rotate_left; focus ((intro w' hSw; (try dsimp only at hSw); go_simp; (try with_reducible rfl)))); (try simp only [Act.put, List.setIfInBounds_toArray, List.set_cons_zero, List.set_cons_succ])
              (refine wpAnyH_take (i := 5) (oi := ⟨_, _, _, _, _, _⟩) (v := ?_) rfl (by kernel_rfl) (by kernel_rfl) (by kernel_rfl) (fun _ _ _ h => h) (Or.inl ⟨by rfl, ?_⟩) (by assumption) ?_; rotate_left; focus ((intro w' hSw; (try dsimp only at hSw); go_simp; (try with_reducible rfl)))); (try simp only [Act.put, List.setIfInBounds_toArray, List.set_cons_zero, List.set_cons_succ])
              (refine wpAnyH_take (i := 6) (oi := ⟨_, _, _, _, _, _⟩) (v := ?_) rfl (by kernel_rfl) (by kernel_rfl) (by kernel_rfl) (fun _ _ _ h => h) (Or.inl ⟨by rfl, ?_⟩) (by assumption) ?_; rotate_left; focus ((intro w' hSw; (try dsimp only at hSw); go_simp; (try with_reducible rfl)))); (try simp only [Act.put, List.setIfInBounds_toArray, List.set_cons_zero, List.set_cons_succ])
              (refine wpAnyH_take (i := 7) (oi := ⟨_, _, _, _, _, _⟩) (v := ?_) rfl (by kernel_rfl) (by kernel_rfl) (by kernel_rfl) (fun _ _ _ h => h) (Or.inl ⟨by rfl, ?_⟩) (by assumption) ?_; rotate_left; focus ((intro w' hSw; (try dsimp only at hSw); go_simp; (try with_reducible rfl)))); (try simp only [Act.put, List.setIfInBounds_toArray, List.set_cons_zero, List.set_cons_succ])
              (refine wpAnyH_take (i := 8) (oi := ⟨_, _, _, _, _, _⟩) (v := ?_) rfl (by kernel_rfl) (by kernel_rfl) (by kernel_rfl) (fun _ _ _ h => h) (Or.inl ⟨by rfl, ?_⟩) (by assumption) ?_; rotate_left; focus ((intro w' hSw; (try dsimp only at hSw); go_simp; (try with_reducible rfl)))); (try simp only [Act.put, List.setIfInBounds_toArray, List.set_cons_zero, List.set_cons_succ])
              (refine wpAnyH_take (i := 9) (oi := ⟨_, _, _, _, _, _⟩) (v := ?_) rfl (by kernel_rfl) (by kernel_rfl) (by kernel_rfl) (fun _ _ _ h => h) (Or.inl ⟨by rfl, ?_⟩) (by assumption) ?_; rotate_left; focus ((intro w' hSw; (try dsimp only at hSw); go_simp; (try with_reducible rfl)))); (try simp only [Act.put, List.setIfInBounds_toArray, List.set_cons_zero, List.set_cons_succ])
              refine wpAnyH_ready (rs := [10]) (by kernel_rfl) (by simp) ?_
              refine AllReadyH.cons (o := ⟨_, _, _, _, _, _⟩) rfl (fun K hK => ?_) AllReadyH.nil
              go_simp
              (first | (go_at_call 77; (with_reducible refine Calls.mono (HLS1.out _) ?_); rintro e w7 ⟨rfl, hb7⟩; have hB7 := HTR.out _ _ (by assumption) hb7; obtain ⟨⟨k0, k1⟩, k2, k3⟩ := HCE.out _ hB7))
              (try go_wp2_with fail)
              refine hK.out _ _ (by (try dsimp only); (first | go_keep | (refine ⟨by assumption, ?_⟩; go_keep))) (fun hHeld => ?_)
              clear hK K
              (try simp only [Act.put, List.setIfInBounds_toArray, List.set_cons_zero, List.set_cons_succ])
              (refine wpAnyH_take (i := 11) (oi := ⟨_, _, _, _, _, _⟩) (v := ?_) rfl (by kernel_rfl) (by kernel_rfl) (by kernel_rfl) (fun _ _ _ h => h) (Or.inl ⟨by rfl, ?_⟩) (by assumption) ?_; rotate_left; focus ((intro w' hSw; (try dsimp only at hSw); go_simp; (try with_reducible rfl)))); (try simp only [Act.put, List.setIfInBounds_toArray, List.set_cons_zero, List.set_cons_succ])
              refine wpAnyH_done (by kernel_rfl) ?_ _
              have HB7 : Hid (Below w5.heap.size w5 w7) := Lib.hid (belowOn HB6.out (Nat.le_refl _) hB7)
              clear hHeld hB7 hb7 e0 e1 d0 d1 hself hdrew HTR HLS1
              try clear k0 k1 k2 k3
              have hself : Below w7.heap.size w7 w7 := Below.refl _ _
              have hdrew : Below w7.heap.size w7 w7.drew := hself.drew
              have HTR : Hid (∀ a b, Below w7.heap.size w7 a → Below a.heap.size a b → Below w7.heap.size w7 b) := Lib.hid fun a b h1 h2 => belowOn h1 (Nat.le_refl _) h2
              have HCE7 : Hid (∀ W, Below w7.heap.size w7 W → (W.cell? ⟨nb, 0, none⟩ = some (.int .i64 v) ∧ W.cell? ⟨nb, 1, none⟩ = some (.string tag)) ∧ W.cell? ⟨g, off + i * 2, none⟩ = some (.int .i64 xv) ∧ W.cell? ⟨g, off + i * 2 + 1, none⟩ = some (.string xs)) := Lib.hid fun W hW => ⟨HCB.out W (belowOn HB7.out (Nat.le_refl _) hW), by
                obtain ⟨g2, off2, hg2, _, _, hc2⟩ := HL5.out.mk HX.out
                cases hg2
                exact hc2 W (belowOn HB7.out (Nat.le_refl _) hW)⟩
              obtain ⟨⟨e0, e1⟩, d0, d1⟩ := HCE7.out w7 hself
              have qn : ((i : Int) == (n : Int)) = false := by rw [beq_eq_false_iff_ne]; omega
              have qnn : (i == n) = false := by rw [beq_eq_false_iff_ne]; omega
              clear HCE HB6 HWR
              go_upto_region 10 with (fail)
              cases hl2 : mkLt ⟨v, tag⟩ ⟨xv, xs⟩ with
              | false =>
                rw [hl2] at HLS2
                have HL2 := Lib.hid hl2
                clear hl2
                refine wp_region_held_drew (S := (fun w' => Below w7.heap.size w7 w' ∧ w'.cell? ⟨nb, 0, none⟩ = some (.int .i64 v) ∧ w'.cell? ⟨nb, 1, none⟩ = some (.string tag) ∧ w'.cell? ⟨g, off + i * 2, none⟩ = some (.int .i64 xv) ∧ w'.cell? ⟨g, off + i * 2 + 1, none⟩ = some (.string xs))) (by kernel_rfl) (by (try dsimp only); go_keep) (fun hHeld => ?_)
                (refine wpAnyH_take (i := 0) (oi := ⟨_, _, _, _, _, _⟩) (v := ?_) rfl (by kernel_rfl) (by kernel_rfl) (by kernel_rfl) (fun _ _ _ h => h) (Or.inl ⟨by rfl, ?_⟩) (by assumption) ?_; rotate_left; focus ((intro w' hSw; (try dsimp only at hSw); go_simp; (try with_reducible rfl)))); (try simp only [Act.put, List.setIfInBounds_toArray, List.set_cons_zero, List.set_cons_succ])
                (refine wpAnyH_take (i := 1) (oi := ⟨_, _, _, _, _, _⟩) (v := ?_) rfl (by kernel_rfl) (by kernel_rfl) (by kernel_rfl) (fun _ _ _ h => h) (Or.inl ⟨by rfl, ?_⟩) (by assumption) ?_; rotate_left; focus ((intro w' hSw; (try dsimp only at hSw); go_simp; (try with_reducible rfl)))); (try simp only [Act.put, List.setIfInBounds_toArray, List.set_cons_zero, List.set_cons_succ])
                (refine wpAnyH_take (i := 2) (oi := ⟨_, _, _, _, _, _⟩) (v := ?_) rfl (by kernel_rfl) (by kernel_rfl) (by kernel_rfl) (fun _ _ _ h => h) (Or.inl ⟨by rfl, ?_⟩) (by assumption) ?_; rotate_left; focus ((intro w' hSw; (try dsimp only at hSw); go_simp; (try with_reducible rfl)))); (try simp only [Act.put, List.setIfInBounds_toArray, List.set_cons_zero, List.set_cons_succ])
                (refine wpAnyH_take (i := 3) (oi := ⟨_, _, _, _, _, _⟩) (v := ?_) rfl (by kernel_rfl) (by kernel_rfl) (by kernel_rfl) (fun _ _ _ h => h) (Or.inl ⟨by rfl, ?_⟩) (by assumption) ?_; rotate_left; focus ((intro w' hSw; (try dsimp only at hSw); go_simp; (try with_reducible rfl)))); (try simp only [Act.put, List.setIfInBounds_toArray, List.set_cons_zero, List.set_cons_succ])
                (refine wpAnyH_take (i := 4) (oi := ⟨_, _, _, _, _, _⟩) (v := ?_) rfl (by kernel_rfl) (by kernel_rfl) (by kernel_rfl) (fun _ _ _ h => h) (Or.inl ⟨by rfl, ?_⟩) (by assumption) ?_; rotate_left; focus ((intro w' hSw; (try dsimp only at hSw); go_simp; (try with_reducible rfl)))); (try simp only [Act.put, List.setIfInBounds_toArray, List.set_cons_zero, List.set_cons_succ])
                (refine wpAnyH_take (i := 5) (oi := ⟨_, _, _, _, _, _⟩) (v := ?_) rfl (by kernel_rfl) (by kernel_rfl) (by kernel_rfl) (fun _ _ _ h => h) (Or.inl ⟨by rfl, ?_⟩) (by assumption) ?_; rotate_left; focus ((intro w' hSw; (try dsimp only at hSw); go_simp; (try with_reducible rfl)))); (try simp only [Act.put, List.setIfInBounds_toArray, List.set_cons_zero, List.set_cons_succ])
                (refine wpAnyH_take (i := 6) (oi := ⟨_, _, _, _, _, _⟩) (v := ?_) rfl (by kernel_rfl) (by kernel_rfl) (by kernel_rfl) (fun _ _ _ h => h) (Or.inl ⟨by rfl, ?_⟩) (by assumption) ?_; rotate_left; focus ((intro w' hSw; (try dsimp only at hSw); go_simp; (try with_reducible rfl)))); (try simp only [Act.put, List.setIfInBounds_toArray, List.set_cons_zero, List.set_cons_succ])
                (refine wpAnyH_take (i := 7) (oi := ⟨_, _, _, _, _, _⟩) (v := ?_) rfl (by kernel_rfl) (by kernel_rfl) (by kernel_rfl) (fun _ _ _ h => h) (Or.inl ⟨by rfl, ?_⟩) (by assumption) ?_; rotate_left; focus ((intro w' hSw; (try dsimp only at hSw); go_simp; (try with_reducible rfl)))); (try simp only [Act.put, List.setIfInBounds_toArray, List.set_cons_zero, List.set_cons_succ])
                (refine wpAnyH_take (i := 8) (oi := ⟨_, _, _, _, _, _⟩) (v := ?_) rfl (by kernel_rfl) (by kernel_rfl) (by kernel_rfl) (fun _ _ _ h => h) (Or.inl ⟨by rfl, ?_⟩) (by assumption) ?_; rotate_left; focus ((intro w' hSw; (try dsimp only at hSw); go_simp; (try with_reducible rfl)))); (try simp only [Act.put, List.setIfInBounds_toArray, List.set_cons_zero, List.set_cons_succ])
                (refine wpAnyH_take (i := 9) (oi := ⟨_, _, _, _, _, _⟩) (v := ?_) rfl (by kernel_rfl) (by kernel_rfl) (by kernel_rfl) (fun _ _ _ h => h) (Or.inl ⟨by rfl, ?_⟩) (by assumption) ?_; rotate_left; focus ((intro w' hSw; (try dsimp only at hSw); go_simp; (try with_reducible rfl)))); (try simp only [Act.put, List.setIfInBounds_toArray, List.set_cons_zero, List.set_cons_succ])
                refine wpAnyH_ready (rs := [10]) (by kernel_rfl) (by simp) ?_
                refine AllReadyH.cons (o := ⟨_, _, _, _, _, _⟩) rfl (fun K hK => ?_) AllReadyH.nil
                go_simp
                (first | (go_at_call 77; (with_reducible refine Calls.mono (HLS2.out _) ?_); rintro e w8 ⟨rfl, hb8⟩; have hB8 := HTR.out _ _ (by assumption) hb8; obtain ⟨⟨k0, k1⟩, k2, k3⟩ := HCE7.out _ hB8))
                (try go_wp2_with fail)
                refine hK.out _ _ (by (try dsimp only); (first | go_keep | (refine ⟨by assumption, ?_⟩; go_keep))) (fun hHeld => ?_)
                clear hK K
                (try simp only [Act.put, List.setIfInBounds_toArray, List.set_cons_zero, List.set_cons_succ])
                (refine wpAnyH_take (i := 11) (oi := ⟨_, _, _, _, _, _⟩) (v := ?_) rfl (by kernel_rfl) (by kernel_rfl) (by kernel_rfl) (fun _ _ _ h => h) (Or.inl ⟨by rfl, ?_⟩) (by assumption) ?_; rotate_left; focus ((intro w' hSw; (try dsimp only at hSw); go_simp; (try with_reducible rfl)))); (try simp only [Act.put, List.setIfInBounds_toArray, List.set_cons_zero, List.set_cons_succ])
                refine wpAnyH_done (by kernel_rfl) ?_ _
                have HB8 : Hid (Below w5.heap.size w5 w8) := Lib.hid (belowOn HB7.out (Nat.le_refl _) hB8)
                have HWR8 : Hid (Below w2.heap.size w2 w8) := Lib.hid (belowOn HW5.out (Nat.le_refl _) HB8.out)
                clear hHeld hB8 hb8 e0 e1 d0 d1 hself hdrew HTR HLS2
                try clear k0 k1 k2 k3
                go_wp2
                go_roundw
                case rel => exact ⟨k + 1, n, cap, _, cur, by omega, by go_num, rfl, hnc, hcm, by omega, HN, HAN, HCP, Lib.hid (HL5.out.kept HB8.out), Lib.hid (markR_on HMR.out HV.out HMR.out.1 fun z => ⟨.inl, fun h => h.elim id fun e => by
                  rw [e, ← mkLt_total HL1.out HL2.out]
                  exact List.mem_of_getElem? HX.out⟩), HWR8⟩
                case measure => simp [intOf]; omega
              | true =>
                rw [hl2] at HLS2
                have HL2 := Lib.hid hl2
                clear hl2
                refine wp_region_held_drew (S := (fun w' => Below w7.heap.size w7 w' ∧ w'.cell? ⟨nb, 0, none⟩ = some (.int .i64 v) ∧ w'.cell? ⟨nb, 1, none⟩ = some (.string tag) ∧ w'.cell? ⟨g, off + i * 2, none⟩ = some (.int .i64 xv) ∧ w'.cell? ⟨g, off + i * 2 + 1, none⟩ = some (.string xs))) (by kernel_rfl) (by (try dsimp only); go_keep) (fun hHeld => ?_)
                (refine wpAnyH_take (i := 0) (oi := ⟨_, _, _, _, _, _⟩) (v := ?_) rfl (by kernel_rfl) (by kernel_rfl) (by kernel_rfl) (fun _ _ _ h => h) (Or.inl ⟨by rfl, ?_⟩) (by assumption) ?_; rotate_left; focus ((intro w' hSw; (try dsimp only at hSw); go_simp; (try with_reducible rfl)))); (try simp only [Act.put, List.setIfInBounds_toArray, List.set_cons_zero, List.set_cons_succ])
                (refine wpAnyH_take (i := 1) (oi := ⟨_, _, _, _, _, _⟩) (v := ?_) rfl (by kernel_rfl) (by kernel_rfl) (by kernel_rfl) (fun _ _ _ h => h) (Or.inl ⟨by rfl, ?_⟩) (by assumption) ?_; rotate_left; focus ((intro w' hSw; (try dsimp only at hSw); go_simp; (try with_reducible rfl)))); (try simp only [Act.put, List.setIfInBounds_toArray, List.set_cons_zero, List.set_cons_succ])
                (refine wpAnyH_take (i := 2) (oi := ⟨_, _, _, _, _, _⟩) (v := ?_) rfl (by kernel_rfl) (by kernel_rfl) (by kernel_rfl) (fun _ _ _ h => h) (Or.inl ⟨by rfl, ?_⟩) (by assumption) ?_; rotate_left; focus ((intro w' hSw; (try dsimp only at hSw); go_simp; (try with_reducible rfl)))); (try simp only [Act.put, List.setIfInBounds_toArray, List.set_cons_zero, List.set_cons_succ])
                (refine wpAnyH_take (i := 3) (oi := ⟨_, _, _, _, _, _⟩) (v := ?_) rfl (by kernel_rfl) (by kernel_rfl) (by kernel_rfl) (fun _ _ _ h => h) (Or.inl ⟨by rfl, ?_⟩) (by assumption) ?_; rotate_left; focus ((intro w' hSw; (try dsimp only at hSw); go_simp; (try with_reducible rfl)))); (try simp only [Act.put, List.setIfInBounds_toArray, List.set_cons_zero, List.set_cons_succ])
                (refine wpAnyH_take (i := 4) (oi := ⟨_, _, _, _, _, _⟩) (v := ?_) rfl (by kernel_rfl) (by kernel_rfl) (by kernel_rfl) (fun _ _ _ h => h) (Or.inl ⟨by rfl, ?_⟩) (by assumption) ?_; rotate_left; focus ((intro w' hSw; (try dsimp only at hSw); go_simp; (try with_reducible rfl)))); (try simp only [Act.put, List.setIfInBounds_toArray, List.set_cons_zero, List.set_cons_succ])
                (refine wpAnyH_take (i := 5) (oi := ⟨_, _, _, _, _, _⟩) (v := ?_) rfl (by kernel_rfl) (by kernel_rfl) (by kernel_rfl) (fun _ _ _ h => h) (Or.inl ⟨by rfl, ?_⟩) (by assumption) ?_; rotate_left; focus ((intro w' hSw; (try dsimp only at hSw); go_simp; (try with_reducible rfl)))); (try simp only [Act.put, List.setIfInBounds_toArray, List.set_cons_zero, List.set_cons_succ])
                (refine wpAnyH_take (i := 6) (oi := ⟨_, _, _, _, _, _⟩) (v := ?_) rfl (by kernel_rfl) (by kernel_rfl) (by kernel_rfl) (fun _ _ _ h => h) (Or.inl ⟨by rfl, ?_⟩) (by assumption) ?_; rotate_left; focus ((intro w' hSw; (try dsimp only at hSw); go_simp; (try with_reducible rfl)))); (try simp only [Act.put, List.setIfInBounds_toArray, List.set_cons_zero, List.set_cons_succ])
                (refine wpAnyH_take (i := 7) (oi := ⟨_, _, _, _, _, _⟩) (v := ?_) rfl (by kernel_rfl) (by kernel_rfl) (by kernel_rfl) (fun _ _ _ h => h) (Or.inl ⟨by rfl, ?_⟩) (by assumption) ?_; rotate_left; focus ((intro w' hSw; (try dsimp only at hSw); go_simp; (try with_reducible rfl)))); (try simp only [Act.put, List.setIfInBounds_toArray, List.set_cons_zero, List.set_cons_succ])
                (refine wpAnyH_take (i := 8) (oi := ⟨_, _, _, _, _, _⟩) (v := ?_) rfl (by kernel_rfl) (by kernel_rfl) (by kernel_rfl) (fun _ _ _ h => h) (Or.inl ⟨by rfl, ?_⟩) (by assumption) ?_; rotate_left; focus ((intro w' hSw; (try dsimp only at hSw); go_simp; (try with_reducible rfl)))); (try simp only [Act.put, List.setIfInBounds_toArray, List.set_cons_zero, List.set_cons_succ])
                (refine wpAnyH_take (i := 9) (oi := ⟨_, _, _, _, _, _⟩) (v := ?_) rfl (by kernel_rfl) (by kernel_rfl) (by kernel_rfl) (fun _ _ _ h => h) (Or.inl ⟨by rfl, ?_⟩) (by assumption) ?_; rotate_left; focus ((intro w' hSw; (try dsimp only at hSw); go_simp; (try with_reducible rfl)))); (try simp only [Act.put, List.setIfInBounds_toArray, List.set_cons_zero, List.set_cons_succ])
                refine wpAnyH_ready (rs := [10]) (by kernel_rfl) (by simp) ?_
                refine AllReadyH.cons (o := ⟨_, _, _, _, _, _⟩) rfl (fun K hK => ?_) AllReadyH.nil
                go_simp
                (first | (go_at_call 77; (with_reducible refine Calls.mono (HLS2.out _) ?_); rintro e w8 ⟨rfl, hb8⟩; have hB8 := HTR.out _ _ (by assumption) hb8; obtain ⟨⟨k0, k1⟩, k2, k3⟩ := HCE7.out _ hB8))
                (try go_wp2_with fail)
                refine hK.out _ _ (by (try dsimp only); (first | go_keep | (refine ⟨by assumption, ?_⟩; go_keep))) (fun hHeld => ?_)
                clear hK K
                (try simp only [Act.put, List.setIfInBounds_toArray, List.set_cons_zero, List.set_cons_succ])
                (refine wpAnyH_take (i := 11) (oi := ⟨_, _, _, _, _, _⟩) (v := ?_) rfl (by kernel_rfl) (by kernel_rfl) (by kernel_rfl) (fun _ _ _ h => h) (Or.inl ⟨by rfl, ?_⟩) (by assumption) ?_; rotate_left; focus ((intro w' hSw; (try dsimp only at hSw); go_simp; (try with_reducible rfl)))); (try simp only [Act.put, List.setIfInBounds_toArray, List.set_cons_zero, List.set_cons_succ])
                refine wpAnyH_done (by kernel_rfl) ?_ _
                have HB8 : Hid (Below w5.heap.size w5 w8) := Lib.hid (belowOn HB7.out (Nat.le_refl _) hB8)
                clear hHeld hB8 hb8 e0 e1 d0 d1 hself hdrew HTR HLS2 HCE7 HB7
                try clear k0 k1 k2 k3
                have HIN := Lib.hid (insM_ok HMR.out.1 HSC.out fun y hy => by cases hy.symm.trans HX.out; exact HL2.out)
                have HWR8 : Hid (Below w2.heap.size w2 w8) := Lib.hid (belowOn HW5.out (Nat.le_refl _) HB8.out)
                have HL8 := Lib.hid (HL5.out.kept HB8.out)
                obtain ⟨A1, A2, hs1, hl1, hA1, hs2, hl2, hA2⟩ := cut_two (E := mkE) 51 92 Tryz.underlying51 (fun W => by kernel_rfl) HN.out HL8.out hnc (i := i) (by omega) HAN.out
                obtain ⟨L1, hL1, hn1, hc1⟩ := hl1.flatCells
                obtain ⟨L2, hL2, hn2, hc2⟩ := hl2.flatCells
                have HL1' := Lib.hid (And.intro hn1 hn2)
                have HCC1 := Lib.hid hc1
                have HCC2 := Lib.hid hc2
                have HAA := Lib.hid (And.intro hA1 hA2)
                have HSS := Lib.hid (And.intro hs1 hs2)
                have HEQ : Hid (insM cur (i) ⟨v, tag⟩ = (([] ++ L1.map Prod.fst) ++ [((⟨v, tag⟩ : Mk), Value.slice none 0 0)].map Prod.fst) ++ L2.map Prod.fst) := Lib.hid (by rw [← hL1, ← hL2, insM]; simp)
                have HRS := Lib.hid (rowX_start (E := mkE) (e := 92) (w := w8) (lo := w8.heap.size) (Nat.le_refl _))
                have HWA : Hid (Below w8.heap.size w8 (w8.alloc (.cells #[] 92))) := Lib.hid (belowAlloc (Below.refl _ _) _)
                have HC8 : Hid (∀ W, Below w8.heap.size w8 W → W.cell? ⟨nb, 0, none⟩ = some (.int .i64 v) ∧ W.cell? ⟨nb, 1, none⟩ = some (.string tag)) := Lib.hid fun W hW => HCB.out W (belowOn HB8.out (Nat.le_refl _) hW)
                have HNB : Hid (nb < w8.heap.size) := Lib.hid ((HMB.out.read HB8.out).le)
                clear hs1 hl1 hA1 hs2 hl2 hA2 hL1 hn1 hc1 hL2 hn2 hc2 HCB HMB
                obtain ⟨hs1, hs2⟩ := HSS.out
                go_upto_region 12 with (at_builtin; refine append_rowY rfl _ _ 51 rfl mkE mkFlat w8.heap.size 92 i0 _ 24 Tryz.underlying51 HII.out.1 HII.out.2.1 HII.out.2.2.1 HII.out.2.2.2 rfl (by omega) _ _ rfl HRS.out A1 (i) cap rfl L1 HL1'.out.1 HAA.out.1 (HCC1.out _ HWA.out) (by simp; omega) (by simp) ?_; intro v21 w21 hown21 hb21; have HO21 := Lib.hid hown21; have HX21 := Lib.hid hb21; clear hown21 hb21)
                have HW21 : Hid (Below w8.heap.size w8 w21) := Lib.hid (HWA.out.trans (HX21.out))
                obtain ⟨q0, q1⟩ := HC8.out w21 HW21.out
                have hq9 : nb < w21.heap.size := Nat.lt_of_lt_of_le HNB.out HW21.out.size
                have hal21 : Below w21.heap.size w21 (w21.alloc (.cells #[.int .i64 v, .string tag] 92)) := belowAlloc (Below.refl _ _) _
                have HR21 := Lib.hid (HO21.out.kept hal21)
                have HWB : Hid (Below w8.heap.size w8 (w21.alloc (.cells #[.int .i64 v, .string tag] 92))) := Lib.hid (belowOn HW21.out (Nat.le_refl _) hal21)
                have HLN1 : Hid (([] ++ L1.map Prod.fst : List Mk).length = i) := Lib.hid (by rw [List.nil_append, List.length_map]; exact HL1'.out.1)
                have HZ21 : Hid (w8.heap.size ≤ w21.heap.size) := Lib.hid HW21.out.size
                clear HRS HX21 HWA hal21
                go_upto_region 13 with (at_builtin; refine append_rowY rfl _ _ 51 rfl mkE mkFlat w8.heap.size 92 i0 _ 24 Tryz.underlying51 HII.out.1 HII.out.2.1 HII.out.2.2.1 HII.out.2.2.2 rfl (by omega) v21 _ rfl HR21.out (some ⟨w21.heap.size, 0, none⟩) 1 1 rfl [((⟨v, tag⟩ : Mk), Value.slice none 0 0)] rfl (fun h => by cases h) (fun ad h j u hj => by cases h; rw [cellsE_one] at hj; exact World.news_of_block (heap_alloc_new w21 _) j u hj) (by have := HLN1.out; omega) (by have := HZ21.out; simp; omega) ?_; intro v22 w22 hown22 hb22; have HO22 := Lib.hid hown22; have HX22 := Lib.hid hb22; clear hown22 hb22)
                have HW22 : Hid (Below w8.heap.size w8 w22) := Lib.hid (HWB.out.trans HX22.out)
                have HLN2 : Hid ((([] ++ L1.map Prod.fst) ++ [((⟨v, tag⟩ : Mk), Value.slice none 0 0)].map Prod.fst : List Mk).length = i + 1) := Lib.hid (by rw [List.length_append, HLN1.out]; rfl)
                have hz22 : w8.heap.size ≤ w22.heap.size := HW22.out.size
                clear q0 q1 hq9
                go_wp2_with (at_builtin; refine append_rowY rfl _ _ 51 rfl mkE mkFlat w8.heap.size 92 i0 _ 24 Tryz.underlying51 HII.out.1 HII.out.2.1 HII.out.2.2.1 HII.out.2.2.2 rfl (by omega) v22 _ rfl HO22.out A2 (n - i) (cap - i) rfl L2 HL1'.out.2 HAA.out.2 (HCC2.out _ HW22.out) (by have h1 := HLN2.out; omega) hz22 ?_; intro v23 w23 hown23 hb23; have HO23 := Lib.hid hown23; have HX23 := Lib.hid hb23; clear hown23 hb23)
                have HLF : Hid (RowX mkE 92 w23 w8.heap.size v23 (insM cur (i) ⟨v, tag⟩)) := Lib.hid (by rw [HEQ.out]; exact HO23.out)
                have HLM : Hid ((insM cur (i) ⟨v, tag⟩).length = n + 1) := Lib.hid (by have h1 := congrArg List.length (List.take_append_drop (i) cur); rw [List.length_append] at h1; have h2 := HN.out; rw [insM, List.length_append, List.length_cons]; omega)
                obtain ⟨g9, n9, c9, hv9⟩ := rowX_some HLF.out (by rw [HLM.out]; exact Nat.succ_pos _)
                subst hv9
                obtain ⟨L9, hL9, hn9, hrow9⟩ := rowX_at HLF.out
                have HCK := Lib.hid (rowX_cap hrow9)
                have hn9' : n9 = n + 1 := by rw [hn9, ← HLM.out, hL9, List.length_map]
                have HN9 := Lib.hid hn9'
                have hnk9 : n9 ≤ nl + (k + 1) := by omega
                obtain ⟨g8, o8, c8, hv8, hc8, hm8⟩ := HCK.out
                cases hv8
                clear hL9 hn9 hrow9 hn9' hs1 hs2
                go_roundw
                case rel => exact ⟨k + 1, n9, c9, _, insM cur (i) ⟨v, tag⟩, by omega, by go_num, rfl, hc8, hm8, hnk9, Lib.hid (by rw [HN9.out, HLM.out]), Lib.hid (fun h => by cases h), Lib.hid (.inr HCK.out), Lib.hid HLF.out.list, Lib.hid (markR_on HMR.out HV.out HIN.out.1 HIN.out.2), Lib.hid (HWR8.out.trans ((HW22.out.trans HX23.out).mono HWR8.out.size))⟩
                case measure => simp [intOf]; omega
          · obtain rfl : n = i := by omega
            have qn : ((n : Int) == (n : Int)) = true := beq_self_eq_true _
            have qnn : (n == n) = true := beq_self_eq_true _
            go_upto_region 8 with (fail)
            refine wp_region_held_drew (S := (fun w' => Below wr.heap.size wr w')) (by kernel_rfl) (by (try dsimp only); go_keep) (fun hHeld => ?_)
            (refine wpAnyH_take (i := 0) (oi := ⟨_, _, _, _, _, _⟩) (v := ?_) rfl (by kernel_rfl) (by kernel_rfl) (by kernel_rfl) (fun _ _ _ h => h) (Or.inl ⟨by rfl, ?_⟩) (by assumption) ?_; rotate_left; focus ((intro w' hSw; (try dsimp only at hSw); go_simp; (try with_reducible rfl)))); (try simp only [Act.put, List.setIfInBounds_toArray, List.set_cons_zero, List.set_cons_succ])
            (refine wpAnyH_take (i := 1) (oi := ⟨_, _, _, _, _, _⟩) (v := ?_) rfl (by kernel_rfl) (by kernel_rfl) (by kernel_rfl) (fun _ _ _ h => h) (Or.inl ⟨by rfl, ?_⟩) (by assumption) ?_; rotate_left; focus ((intro w' hSw; (try dsimp only at hSw); go_simp; (try with_reducible rfl)))); (try simp only [Act.put, List.setIfInBounds_toArray, List.set_cons_zero, List.set_cons_succ])
            (refine wpAnyH_take (i := 2) (oi := ⟨_, _, _, _, _, _⟩) (v := ?_) rfl (by kernel_rfl) (by kernel_rfl) (by kernel_rfl) (fun _ _ _ h => h) (Or.inl ⟨by rfl, ?_⟩) (by assumption) ?_; rotate_left; focus ((intro w' hSw; (try dsimp only at hSw); go_simp; (try with_reducible rfl)))); (try simp only [Act.put, List.setIfInBounds_toArray, List.set_cons_zero, List.set_cons_succ])
            (refine wpAnyH_take (i := 3) (oi := ⟨_, _, _, _, _, _⟩) (v := ?_) rfl (by kernel_rfl) (by kernel_rfl) (by kernel_rfl) (fun _ _ _ h => h) (Or.inl ⟨by rfl, ?_⟩) (by assumption) ?_; rotate_left; focus ((intro w' hSw; (try dsimp only at hSw); go_simp; (try with_reducible rfl)))); (try simp only [Act.put, List.setIfInBounds_toArray, List.set_cons_zero, List.set_cons_succ])
            (refine wpAnyH_take (i := 4) (oi := ⟨_, _, _, _, _, _⟩) (v := ?_) rfl (by kernel_rfl) (by kernel_rfl) (by kernel_rfl) (fun _ _ _ h => h) (Or.inl ⟨by rfl, ?_⟩) (by assumption) ?_; rotate_left; focus ((intro w' hSw; (try dsimp only at hSw); go_simp; (try with_reducible rfl)))); (try simp only [Act.put, List.setIfInBounds_toArray, List.set_cons_zero, List.set_cons_succ])
            (refine wpAnyH_take (i := 5) (oi := ⟨_, _, _, _, _, _⟩) (v := undef) rfl (by kernel_rfl) (by kernel_rfl) (by kernel_rfl) (fun _ _ _ h => h) (Or.inr ⟨by rfl, rfl⟩) (by assumption) ?_); (try simp only [Act.put, List.setIfInBounds_toArray, List.set_cons_zero, List.set_cons_succ])
            (refine wpAnyH_take (i := 6) (oi := ⟨_, _, _, _, _, _⟩) (v := undef) rfl (by kernel_rfl) (by kernel_rfl) (by kernel_rfl) (fun _ _ _ h => h) (Or.inr ⟨by rfl, rfl⟩) (by assumption) ?_); (try simp only [Act.put, List.setIfInBounds_toArray, List.set_cons_zero, List.set_cons_succ])
            (refine wpAnyH_take (i := 7) (oi := ⟨_, _, _, _, _, _⟩) (v := undef) rfl (by kernel_rfl) (by kernel_rfl) (by kernel_rfl) (fun _ _ _ h => h) (Or.inr ⟨by rfl, rfl⟩) (by assumption) ?_); (try simp only [Act.put, List.setIfInBounds_toArray, List.set_cons_zero, List.set_cons_succ])
            (refine wpAnyH_take (i := 8) (oi := ⟨_, _, _, _, _, _⟩) (v := undef) rfl (by kernel_rfl) (by kernel_rfl) (by kernel_rfl) (fun _ _ _ h => h) (Or.inr ⟨by rfl, rfl⟩) (by assumption) ?_); (try simp only [Act.put, List.setIfInBounds_toArray, List.set_cons_zero, List.set_cons_succ])
            (refine wpAnyH_take (i := 9) (oi := ⟨_, _, _, _, _, _⟩) (v := undef) rfl (by kernel_rfl) (by kernel_rfl) (by kernel_rfl) (fun _ _ _ h => h) (Or.inr ⟨by rfl, rfl⟩) (by assumption) ?_); (try simp only [Act.put, List.setIfInBounds_toArray, List.set_cons_zero, List.set_cons_succ])
            (refine wpAnyH_take (i := 10) (oi := ⟨_, _, _, _, _, _⟩) (v := undef) rfl (by kernel_rfl) (by kernel_rfl) (by kernel_rfl) (fun _ _ _ h => h) (Or.inr ⟨by rfl, rfl⟩) (by assumption) ?_); (try simp only [Act.put, List.setIfInBounds_toArray, List.set_cons_zero, List.set_cons_succ])
            (refine wpAnyH_take (i := 11) (oi := ⟨_, _, _, _, _, _⟩) (v := ?_) rfl (by kernel_rfl) (by kernel_rfl) (by kernel_rfl) (fun _ _ _ h => h) (Or.inl ⟨by rfl, ?_⟩) (by assumption) ?_; rotate_left; focus ((intro w' hSw; (try dsimp only at hSw); go_simp; (try with_reducible rfl)))); (try simp only [Act.put, List.setIfInBounds_toArray, List.set_cons_zero, List.set_cons_succ])
            refine wpAnyH_done (by kernel_rfl) ?_ _
            have HB7 : Hid (Below w5.heap.size w5 wr.drew) := Lib.hid HB6.out.drew
            clear hHeld e0 e1 hself hdrew HTR HWR HB6
            generalize wr.drew = w7 at HB7 ⊢
            go_upto_region 10 with (fail)
            have hself : Below w7.heap.size w7 w7 := Below.refl _ _
            have hdrew : Below w7.heap.size w7 w7.drew := hself.drew
            refine wp_region_held_drew (S := (fun w' => Below w7.heap.size w7 w')) (by kernel_rfl) (by (try dsimp only); go_keep) (fun hHeld => ?_)
            (refine wpAnyH_take (i := 0) (oi := ⟨_, _, _, _, _, _⟩) (v := ?_) rfl (by kernel_rfl) (by kernel_rfl) (by kernel_rfl) (fun _ _ _ h => h) (Or.inl ⟨by rfl, ?_⟩) (by assumption) ?_; rotate_left; focus ((intro w' hSw; (try dsimp only at hSw); go_simp; (try with_reducible rfl)))); (try simp only [Act.put, List.setIfInBounds_toArray, List.set_cons_zero, List.set_cons_succ])
            (refine wpAnyH_take (i := 1) (oi := ⟨_, _, _, _, _, _⟩) (v := ?_) rfl (by kernel_rfl) (by kernel_rfl) (by kernel_rfl) (fun _ _ _ h => h) (Or.inl ⟨by rfl, ?_⟩) (by assumption) ?_; rotate_left; focus ((intro w' hSw; (try dsimp only at hSw); go_simp; (try with_reducible rfl)))); (try simp only [Act.put, List.setIfInBounds_toArray, List.set_cons_zero, List.set_cons_succ])
            (refine wpAnyH_take (i := 2) (oi := ⟨_, _, _, _, _, _⟩) (v := ?_) rfl (by kernel_rfl) (by kernel_rfl) (by kernel_rfl) (fun _ _ _ h => h) (Or.inl ⟨by rfl, ?_⟩) (by assumption) ?_; rotate_left; focus ((intro w' hSw; (try dsimp only at hSw); go_simp; (try with_reducible rfl)))); (try simp only [Act.put, List.setIfInBounds_toArray, List.set_cons_zero, List.set_cons_succ])
            (refine wpAnyH_take (i := 3) (oi := ⟨_, _, _, _, _, _⟩) (v := ?_) rfl (by kernel_rfl) (by kernel_rfl) (by kernel_rfl) (fun _ _ _ h => h) (Or.inl ⟨by rfl, ?_⟩) (by assumption) ?_; rotate_left; focus ((intro w' hSw; (try dsimp only at hSw); go_simp; (try with_reducible rfl)))); (try simp only [Act.put, List.setIfInBounds_toArray, List.set_cons_zero, List.set_cons_succ])
            (refine wpAnyH_take (i := 4) (oi := ⟨_, _, _, _, _, _⟩) (v := ?_) rfl (by kernel_rfl) (by kernel_rfl) (by kernel_rfl) (fun _ _ _ h => h) (Or.inl ⟨by rfl, ?_⟩) (by assumption) ?_; rotate_left; focus ((intro w' hSw; (try dsimp only at hSw); go_simp; (try with_reducible rfl)))); (try simp only [Act.put, List.setIfInBounds_toArray, List.set_cons_zero, List.set_cons_succ])
            (refine wpAnyH_take (i := 5) (oi := ⟨_, _, _, _, _, _⟩) (v := undef) rfl (by kernel_rfl) (by kernel_rfl) (by kernel_rfl) (fun _ _ _ h => h) (Or.inr ⟨by rfl, rfl⟩) (by assumption) ?_); (try simp only [Act.put, List.setIfInBounds_toArray, List.set_cons_zero, List.set_cons_succ])
            (refine wpAnyH_take (i := 6) (oi := ⟨_, _, _, _, _, _⟩) (v := undef) rfl (by kernel_rfl) (by kernel_rfl) (by kernel_rfl) (fun _ _ _ h => h) (Or.inr ⟨by rfl, rfl⟩) (by assumption) ?_); (try simp only [Act.put, List.setIfInBounds_toArray, List.set_cons_zero, List.set_cons_succ])
            (refine wpAnyH_take (i := 7) (oi := ⟨_, _, _, _, _, _⟩) (v := undef) rfl (by kernel_rfl) (by kernel_rfl) (by kernel_rfl) (fun _ _ _ h => h) (Or.inr ⟨by rfl, rfl⟩) (by assumption) ?_); (try simp only [Act.put, List.setIfInBounds_toArray, List.set_cons_zero, List.set_cons_succ])
            (refine wpAnyH_take (i := 8) (oi := ⟨_, _, _, _, _, _⟩) (v := undef) rfl (by kernel_rfl) (by kernel_rfl) (by kernel_rfl) (fun _ _ _ h => h) (Or.inr ⟨by rfl, rfl⟩) (by assumption) ?_); (try simp only [Act.put, List.setIfInBounds_toArray, List.set_cons_zero, List.set_cons_succ])
            (refine wpAnyH_take (i := 9) (oi := ⟨_, _, _, _, _, _⟩) (v := undef) rfl (by kernel_rfl) (by kernel_rfl) (by kernel_rfl) (fun _ _ _ h => h) (Or.inr ⟨by rfl, rfl⟩) (by assumption) ?_); (try simp only [Act.put, List.setIfInBounds_toArray, List.set_cons_zero, List.set_cons_succ])
            (refine wpAnyH_take (i := 10) (oi := ⟨_, _, _, _, _, _⟩) (v := undef) rfl (by kernel_rfl) (by kernel_rfl) (by kernel_rfl) (fun _ _ _ h => h) (Or.inr ⟨by rfl, rfl⟩) (by assumption) ?_); (try simp only [Act.put, List.setIfInBounds_toArray, List.set_cons_zero, List.set_cons_succ])
            (refine wpAnyH_take (i := 11) (oi := ⟨_, _, _, _, _, _⟩) (v := ?_) rfl (by kernel_rfl) (by kernel_rfl) (by kernel_rfl) (fun _ _ _ h => h) (Or.inl ⟨by rfl, ?_⟩) (by assumption) ?_; rotate_left; focus ((intro w' hSw; (try dsimp only at hSw); go_simp; (try with_reducible rfl)))); (try simp only [Act.put, List.setIfInBounds_toArray, List.set_cons_zero, List.set_cons_succ])
            refine wpAnyH_done (by kernel_rfl) ?_ _
            have HB8 : Hid (Below w5.heap.size w5 w7.drew) := Lib.hid HB7.out.drew
            clear hHeld hself hdrew HB7
            generalize w7.drew = w8 at HB8 ⊢
            have HIN := Lib.hid (insM_ok (i := n) HMR.out.1 HSC.out fun y hy => by rw [List.getElem?_eq_none (by rw [← HN.out]; exact Nat.le_refl _)] at hy; cases hy)
            have HWR8 : Hid (Below w2.heap.size w2 w8) := Lib.hid (belowOn HW5.out (Nat.le_refl _) HB8.out)
            have HL8 := Lib.hid (HL5.out.kept HB8.out)
            obtain ⟨A1, A2, hs1, hl1, hA1, hs2, hl2, hA2⟩ := cut_two (E := mkE) 51 92 Tryz.underlying51 (fun W => by kernel_rfl) HN.out HL8.out hnc (i := n) (by omega) HAN.out
            obtain ⟨L1, hL1, hn1, hc1⟩ := hl1.flatCells
            obtain ⟨L2, hL2, hn2, hc2⟩ := hl2.flatCells
            have HL1' := Lib.hid (And.intro hn1 hn2)
            have HCC1 := Lib.hid hc1
            have HCC2 := Lib.hid hc2
            have HAA := Lib.hid (And.intro hA1 hA2)
            have HSS := Lib.hid (And.intro hs1 hs2)
            have HEQ : Hid (insM cur (n) ⟨v, tag⟩ = (([] ++ L1.map Prod.fst) ++ [((⟨v, tag⟩ : Mk), Value.slice none 0 0)].map Prod.fst) ++ L2.map Prod.fst) := Lib.hid (by rw [← hL1, ← hL2, insM]; simp)
            have HRS := Lib.hid (rowX_start (E := mkE) (e := 92) (w := w8) (lo := w8.heap.size) (Nat.le_refl _))
            have HWA : Hid (Below w8.heap.size w8 (w8.alloc (.cells #[] 92))) := Lib.hid (belowAlloc (Below.refl _ _) _)
            have HC8 : Hid (∀ W, Below w8.heap.size w8 W → W.cell? ⟨nb, 0, none⟩ = some (.int .i64 v) ∧ W.cell? ⟨nb, 1, none⟩ = some (.string tag)) := Lib.hid fun W hW => HCB.out W (belowOn HB8.out (Nat.le_refl _) hW)
            have HNB : Hid (nb < w8.heap.size) := Lib.hid ((HMB.out.read HB8.out).le)
            clear hs1 hl1 hA1 hs2 hl2 hA2 hL1 hn1 hc1 hL2 hn2 hc2 HCB HMB
            obtain ⟨hs1, hs2⟩ := HSS.out
            go_upto_region 12 with (at_builtin; refine append_rowY rfl _ _ 51 rfl mkE mkFlat w8.heap.size 92 i0 _ 24 Tryz.underlying51 HII.out.1 HII.out.2.1 HII.out.2.2.1 HII.out.2.2.2 rfl (by omega) _ _ rfl HRS.out A1 (n) cap rfl L1 HL1'.out.1 HAA.out.1 (HCC1.out _ HWA.out) (by simp; omega) (by simp) ?_; intro v21 w21 hown21 hb21; have HO21 := Lib.hid hown21; have HX21 := Lib.hid hb21; clear hown21 hb21)
            have HW21 : Hid (Below w8.heap.size w8 w21) := Lib.hid (HWA.out.trans (HX21.out))
            obtain ⟨q0, q1⟩ := HC8.out w21 HW21.out
            have hq9 : nb < w21.heap.size := Nat.lt_of_lt_of_le HNB.out HW21.out.size
            have hal21 : Below w21.heap.size w21 (w21.alloc (.cells #[.int .i64 v, .string tag] 92)) := belowAlloc (Below.refl _ _) _
            have HR21 := Lib.hid (HO21.out.kept hal21)
            have HWB : Hid (Below w8.heap.size w8 (w21.alloc (.cells #[.int .i64 v, .string tag] 92))) := Lib.hid (belowOn HW21.out (Nat.le_refl _) hal21)
            have HLN1 : Hid (([] ++ L1.map Prod.fst : List Mk).length = n) := Lib.hid (by rw [List.nil_append, List.length_map]; exact HL1'.out.1)
            have HZ21 : Hid (w8.heap.size ≤ w21.heap.size) := Lib.hid HW21.out.size
            clear HRS HX21 HWA hal21
            go_upto_region 13 with (at_builtin; refine append_rowY rfl _ _ 51 rfl mkE mkFlat w8.heap.size 92 i0 _ 24 Tryz.underlying51 HII.out.1 HII.out.2.1 HII.out.2.2.1 HII.out.2.2.2 rfl (by omega) v21 _ rfl HR21.out (some ⟨w21.heap.size, 0, none⟩) 1 1 rfl [((⟨v, tag⟩ : Mk), Value.slice none 0 0)] rfl (fun h => by cases h) (fun ad h j u hj => by cases h; rw [cellsE_one] at hj; exact World.news_of_block (heap_alloc_new w21 _) j u hj) (by have := HLN1.out; omega) (by have := HZ21.out; simp; omega) ?_; intro v22 w22 hown22 hb22; have HO22 := Lib.hid hown22; have HX22 := Lib.hid hb22; clear hown22 hb22)
            have HW22 : Hid (Below w8.heap.size w8 w22) := Lib.hid (HWB.out.trans HX22.out)
            have HLN2 : Hid ((([] ++ L1.map Prod.fst) ++ [((⟨v, tag⟩ : Mk), Value.slice none 0 0)].map Prod.fst : List Mk).length = n + 1) := Lib.hid (by rw [List.length_append, HLN1.out]; rfl)
            have hz22 : w8.heap.size ≤ w22.heap.size := HW22.out.size
            clear q0 q1 hq9
            go_wp2_with (at_builtin; refine append_rowY rfl _ _ 51 rfl mkE mkFlat w8.heap.size 92 i0 _ 24 Tryz.underlying51 HII.out.1 HII.out.2.1 HII.out.2.2.1 HII.out.2.2.2 rfl (by omega) v22 _ rfl HO22.out A2 (0) (cap - n) rfl L2 (by have := HL1'.out.2; omega) (fun h => by have h2 := HAA.out.2 h; exact ⟨rfl, h2.2⟩) (HCC2.out _ HW22.out) (by have h1 := HLN2.out; omega) hz22 ?_; intro v23 w23 hown23 hb23; have HO23 := Lib.hid hown23; have HX23 := Lib.hid hb23; clear hown23 hb23)
            have HLF : Hid (RowX mkE 92 w23 w8.heap.size v23 (insM cur (n) ⟨v, tag⟩)) := Lib.hid (by rw [HEQ.out]; exact HO23.out)
            have HLM : Hid ((insM cur (n) ⟨v, tag⟩).length = n + 1) := Lib.hid (by have h1 := congrArg List.length (List.take_append_drop (n) cur); rw [List.length_append] at h1; have h2 := HN.out; rw [insM, List.length_append, List.length_cons]; omega)
            obtain ⟨g9, n9, c9, hv9⟩ := rowX_some HLF.out (by rw [HLM.out]; exact Nat.succ_pos _)
            subst hv9
            obtain ⟨L9, hL9, hn9, hrow9⟩ := rowX_at HLF.out
            have HCK := Lib.hid (rowX_cap hrow9)
            have hn9' : n9 = n + 1 := by rw [hn9, ← HLM.out, hL9, List.length_map]
            have HN9 := Lib.hid hn9'
            have hnk9 : n9 ≤ nl + (k + 1) := by omega
            obtain ⟨g8, o8, c8, hv8, hc8, hm8⟩ := HCK.out
            cases hv8
            clear hL9 hn9 hrow9 hn9' hs1 hs2
            go_roundw
            case rel => exact ⟨k + 1, n9, c9, _, insM cur (n) ⟨v, tag⟩, by omega, by go_num, rfl, hc8, hm8, hnk9, Lib.hid (by rw [HN9.out, HLM.out]), Lib.hid (fun h => by cases h), Lib.hid (.inr HCK.out), Lib.hid HLF.out.list, Lib.hid (markR_on HMR.out HV.out HIN.out.1 HIN.out.2), Lib.hid (HWR8.out.trans ((HW22.out.trans HX23.out).mono HWR8.out.size))⟩
            case measure => simp [intOf]; omega
      · obtain rfl : nv = k := by omega
        obtain rfl := HYES.out HSY.out cur HMR.out
        have HCF : Hid (CapL (.slice A n cap) cur.length) := Lib.hid (by
          have h1 := HN.out
          rw [← h1]
          exact HCP.out)
        go_wp2
        go_ret2
        exact ⟨_, rfl, HLS.out, HCF.out, HW2.out.trans (HB.out.mono HW2.out.size)⟩
end Go.Proofs.YtnmdnajbafpfiaaGreat

