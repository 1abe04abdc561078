/-
  The program's added and AddKind. (Written by wip/tools/gen_dema.py.)
-/
import Derived.Test.YtnmdnajbafpfiaaDemPoK
import Derived.Test.YtnmdnajbafpfiaaImplApp
import Derived.Test.YtnmdnajbafpfiaaSpecKind2
namespace Go.Proofs.Ytnmdnajbafpfiaa
open Go.RowKit
set_option linter.unusedVariables false
set_option linter.unusedSimpArgs false

theorem NewDK.wide {r : Option (List Kd)} {w W w' : World} {e : Ending} (h : NewDK r W e w') (hb : Below w.heap.size w W) : NewDK r w e w' := by
  obtain ⟨v, he, hv, hc, hw⟩ := h
  exact ⟨v, he, hv.sub fun k hk => ⟨Nat.le_trans hb.size hk.1, hk.2⟩, hc, hb.trans (hw.mono hb.size)⟩
/-- What adding a demand gives. -/
noncomputable def adVK (s : List Bd) (l : List Kd) (t : Tm) (d : Kd) : Option (List Kd) :=
  if apB s t = true ∧ kdsB l = true ∧ kdFitB d = true then (poK [d] (apT s t)).bind (jn ordK l) else none
theorem adVK_no {s : List Bd} {l : List Kd} {t : Tm} {d : Kd} (h : ¬ (apB s t = true ∧ kdsB l = true ∧ kdFitB d = true)) : adVK s l t d = none := if_neg h
theorem adVK_yes {s : List Bd} {l : List Kd} {t : Tm} {d : Kd} (h : apB s t = true ∧ kdsB l = true ∧ kdFitB d = true) : adVK s l t d = (poK [d] (apT s t)).bind (jn ordK l) := if_pos h
theorem ap_is {s : List Bd} {t : Tm} (h : apB s t = true) : SubstP s ∧ Ok t ∧ (putT s t).nodes ≤ 5000 := Classical.byContradiction fun hn => by
  rw [(ap_no hn).2] at h
  cases h
theorem ap_okT {s : List Bd} {t : Tm} (h : apB s t = true) : Ok (apT s t) ∧ (apT s t).sz ≤ 1048576 := by
  obtain ⟨h1, h2, h3⟩ := ap_is h
  have hf := fitT_sz (s := s) (t := t) h1.fits h2.2
  rw [← (ap_fit h1 h2).1] at hf
  exact ⟨⟨hf.2.2, hf.2.1⟩, by omega⟩
theorem poK_one {d : Kd} {t : Tm} {p : List Kd} (ht : Ok t) (h : poK [d] t = some p) : p.length ≤ 5000 := by
  unfold poK at h
  split at h
  · cases h
    rw [poLK_len, List.length_singleton, Nat.mul_one]
    exact vars_few ht
  · cases h
theorem listS_oneK (w : World) (d : Kd) : ListS kdE (w.alloc (.cells #[.int .i64 d.v, .int .i64 d.k] 39)) Any (.slice (some ⟨w.heap.size, 0, none⟩) 1 1) [d] := by
  refine .row w.heap.size 0 1 1 [(d, .slice none 0 0)] [d] rfl rfl trivial (by simp) (fun i v hi => ?_) (fun _ _ _ => trivial)
  have h := World.news_of_block (heap_alloc_new w (.cells #[.int .i64 d.v, .int .i64 d.k] 39)) i v (by rw [cellsE_one] at hi; exact hi)
  rw [addr_add] at h
  exact h

set_option maxRecDepth 100000 in
set_option maxHeartbeats 16000000 in
theorem kdAdded_any (l : List Kd) (Vl : Value) (s : List Bd) (Vs : Value) (t : Tm) (Vt : Value) (d : Kd) (w : World) (hA : ListS kdE w Any Vl l) (hC : CapL Vl l.length) (hL : l.length ≤ 1048577) (hS : ListS bdE w Any Vs s) (hZs : szB s ≤ 1048576) (hF : fineB s) (hT : ArgsAt w Vt t.args) (hZ : t.sz ≤ 1048576) :
    Calls Try.prog 41 #[Vl, Vs, .agg #[.int .i64 t.kind, .int .i64 t.num, .string t.name, Vt], .agg #[.int .i64 d.v, .int .i64 d.k]] w (NewDK (adVK s l t d) w) := by
  obtain ⟨ta, tc, rfl⟩ := hT.slice
  have hal0 : Below w.heap.size w ((w.alloc (.cells #[.int .i64 t.kind, .int .i64 t.num, .string t.name, .slice ta t.args.length tc] 28)).alloc (.cells #[.int .i64 d.v, .int .i64 d.k] 39)) := belowAlloc (belowAlloc (Below.refl _ _) _) _
  have HDB := Lib.hid (at_box_of (w.alloc (.cells #[.int .i64 t.kind, .int .i64 t.num, .string t.name, .slice ta t.args.length tc] 28)) #[.int .i64 d.v, .int .i64 d.k] 39 (w.heap.size + 1) (by simp))
  have HC := Lib.hid (implApplySubst_any s Vs t (.slice ta t.args.length tc) ((w.alloc (.cells #[.int .i64 t.kind, .int .i64 t.num, .string t.name, .slice ta t.args.length tc] 28)).alloc (.cells #[.int .i64 d.v, .int .i64 d.k] 39)) (hS.kept hal0) hZs hF (hT.kept hal0) hZ)
  have HW := Lib.hid hal0
  have HA := Lib.hid hA
  have HCL := Lib.hid hC
  have HNO : Hid (¬ (apB s t = true ∧ kdsB l = true ∧ kdFitB d = true) → adVK s l t d = none) := Lib.hid adVK_no
  have HYES : Hid (apB s t = true ∧ kdsB l = true ∧ kdFitB d = true → adVK s l t d = (poK [d] (apT s t)).bind (jn ordK l)) := Lib.hid adVK_yes
  have HOK : Hid (apB s t = true → Ok (apT s t) ∧ (apT s t).sz ≤ 1048576) := Lib.hid ap_okT
  generalize adVK s l t d = R at HNO HYES ⊢
  generalize apT s t = x at HYES HOK HC
  generalize apB s t = xb at HNO HYES HOK HC
  clear hA hC hS hF hT hal0
  go_enter Try.func41, Try.ntmps41
  go_wp2_with fail
  refine HC.out.mono ?_
  rintro e w1 ⟨u, rfl, hn⟩
  have HW1 := Lib.hid (HW.out.trans (hn.2.mono HW.out.size))
  have HD1 := Lib.hid (HDB.out.read hn.2)
  have HU := Lib.hid hn.1.argsAt
  obtain ⟨ua, uc, rfl⟩ := hn.1.argsAt.slice
  clear hn HC HDB HW
  have hal1 : Below w1.heap.size w1 (w1.alloc (.cells #[.int .i64 x.kind, .int .i64 x.num, .string x.name, .slice ua x.args.length uc] 28)) := belowAlloc (Below.refl _ _) _
  have HXB := Lib.hid (at_box_of w1 #[.int .i64 x.kind, .int .i64 x.num, .string x.name, .slice ua x.args.length uc] 28 w1.heap.size rfl)
  have HW2 := Lib.hid (HW1.out.trans (hal1.mono HW1.out.size))
  have HD2 := Lib.hid (HD1.out.read hal1)
  have HU2 := Lib.hid (HU.out.kept hal1)
  clear HD1 HU
  cases xb with
  | false =>
    obtain rfl := HNO.out fun h => Bool.false_ne_true h.1
    go_wp2
    go_ret2
    exact newDK_no HW2.out
  | true =>
    obtain ⟨hxo, hxz⟩ := HOK.out rfl
    have HXO := Lib.hid hxo
    have HC2 := Lib.hid (kdOk_any l Vl (w1.alloc (.cells #[.int .i64 x.kind, .int .i64 x.num, .string x.name, .slice ua x.args.length uc] 28)) (HA.out.kept HW2.out) hL)
    clear hal1 hxo HOK
    go_wp2_with fail
    refine HC2.out.mono ?_
    rintro e w3 ⟨rfl, hb⟩
    have HW3 := Lib.hid (HW2.out.trans (hb.mono HW2.out.size))
    have HD3 := Lib.hid (HD2.out.read hb)
    have HX3 := Lib.hid (HXB.out.read hb)
    have HU3 := Lib.hid (HU2.out.kept hb)
    obtain ⟨e0, e1, _⟩ := box_cells2kd HD3.out.now
    clear hb HC2 HD2 HXB HU2
    cases hlb : kdsB l with
    | false =>
      obtain rfl := HNO.out fun h => Bool.false_ne_true (hlb.symm.trans h.2.1)
      clear hlb
      go_wp2
      go_ret2
      exact newDK_no HW3.out
    | true =>
      have HLB := Lib.hid hlb
      have HC3 := Lib.hid (kdFits_any d w3)
      clear hlb
      go_wp2_with fail
      refine HC3.out.mono ?_
      rintro e w4 ⟨rfl, hb⟩
      have HW4 := Lib.hid (HW3.out.trans (hb.mono HW3.out.size))
      have HD4 := Lib.hid (HD3.out.read hb)
      have HX4 := Lib.hid (HX3.out.read hb)
      have HU4 := Lib.hid (HU3.out.kept hb)
      clear e0 e1
      obtain ⟨e0, e1, _⟩ := box_cells2kd HD4.out.now
      obtain ⟨x0, x1, x2, x3⟩ := HX4.out.cells
      have hx9 : w1.heap.size < w4.heap.size := HX4.out.le
      clear hb HC3 HD3 HX3 HU3
      cases hfb : kdFitB d with
      | false =>
        obtain rfl := HNO.out fun h => Bool.false_ne_true (hfb.symm.trans h.2.2)
        clear hfb
        go_wp2
        go_ret2
        exact newDK_no HW4.out
      | true =>
        have HRE := Lib.hid (HYES.out (by simp [HLB.out, hfb]))
        have hal5 : Below w4.heap.size w4 (w4.alloc (.cells #[.int .i64 d.v, .int .i64 d.k] 39)) := belowAlloc (Below.refl _ _) _
        have HW5 := Lib.hid (HW4.out.trans (hal5.mono HW4.out.size))
        have HC4 := Lib.hid (kdPassed_any [d] (.slice (some ⟨w4.heap.size, 0, none⟩) 1 1) x (.slice ua x.args.length uc) (w4.alloc (.cells #[.int .i64 d.v, .int .i64 d.k] 39)) (listS_oneK w4 d) (by rw [List.length_singleton]; decide) (HU4.out.kept hal5) hxz HXO.out)
        have HPL : Hid (∀ p, poK [d] x = some p → p.length ≤ 5000) := Lib.hid fun p hp => poK_one HXO.out hp
        clear hfb hal5 HNO HYES
        generalize poK [d] x = q at HC4 HPL HRE
        go_wp2_with fail
        refine HC4.out.mono ?_
        rintro e w6 ⟨v6, rfl, hv6, hc6, hb6⟩
        have HW6 := Lib.hid (HW5.out.trans (hb6.mono HW5.out.size))
        have HV6 := Lib.hid hv6.inS.any
        have HC6 := Lib.hid hc6
        clear hv6 hc6 hb6 HC4 e0 e1 x0 x1 x2 x3 hx9
        cases q with
        | none =>
          obtain rfl : R = none := HRE.out
          go_wp2
          go_ret2
          exact newDK_no HW6.out
        | some p =>
          have hpl := HPL.out p rfl
          have HC5 := Lib.hid (kdJoined_any l p Vl v6 w6 (HA.out.kept HW6.out) HCL.out HV6.out HC6.out (by omega))
          rw [show jn ordK l p = R from HRE.out.symm] at HC5
          go_wp2_with fail
          refine HC5.out.mono ?_
          rintro e w7 ⟨v7, rfl, hv7, hc7, hb7⟩
          have HEND := Lib.hid (NewDK.wide ⟨v7, rfl, hv7, hc7, hb7⟩ HW6.out)
          clear hv7 hc7 hb7 HC5
          go_wp2
          go_ret2
          exact HEND.out

/-! ### AddKind -/
theorem pos_is (l : List Kd) (n : Int) : ∃ i, i ≤ l.length ∧ (∀ (j : Nat) (x : Kd), j < i → l[j]? = some x → x.v < n) ∧ (∀ x, l[i]? = some x → ¬ x.v < n) := by
  induction l with
  | nil => exact ⟨0, Nat.le_refl _, fun j x h => absurd h (Nat.not_lt_zero _), fun x h => by simp at h⟩
  | cons y l ih =>
    by_cases hy : y.v < n
    · obtain ⟨i, h1, h2, h3⟩ := ih
      refine ⟨i + 1, Nat.succ_le_succ h1, fun j x hj hx => ?_, fun x hx => h3 x (by simpa using hx)⟩
      cases j with
      | zero => simp at hx; subst hx; exact hy
      | succ j => exact h2 j x (by omega) (by simpa using hx)
    · exact ⟨0, Nat.zero_le _, fun j x h => absurd h (Nat.not_lt_zero _), fun x hx => by simp at hx; subst hx; exact hy⟩
theorem ascK_at {l : List Kd} (h : AscO ordK l) {i j : Nat} {x y : Kd} (hij : i < j) (hx : l[i]? = some x) (hy : l[j]? = some y) : x.v < y.v := by
  obtain ⟨hi, rfl⟩ := List.getElem?_eq_some_iff.1 hx
  obtain ⟨hj, rfl⟩ := List.getElem?_eq_some_iff.1 hy
  exact ordK_lt.1 (List.pairwise_iff_getElem.1 h i j hi hj hij)
theorem kdsP_asc {l : List Kd} (h : KdsP l) : AscO ordK l := by
  refine List.pairwise_iff_getElem.2 fun i j hi hj hij => ordK_lt.2 ?_
  have step : ∀ (d i : Nat) (x y : Kd), l[i]? = some x → l[i + 1 + d]? = some y → x.v < y.v := by
    intro d
    induction d with
    | zero => intro i x y hx hy; exact (h (i + 1) y hy).2 i x rfl hx
    | succ d ih =>
      intro i x y hx hy
      have hlen := (List.getElem?_eq_some_iff.1 hy).1
      obtain ⟨z, hz⟩ : ∃ z, l[i + 1 + d]? = some z := ⟨_, List.getElem?_eq_getElem (by omega)⟩
      have h1 := ih i x z hx hz
      have h2 := (h (i + 1 + d + 1) y (by rw [show i + 1 + d + 1 = i + 1 + (d + 1) from rfl]; exact hy)).2 (i + 1 + d) z rfl hz
      omega
  exact step (j - i - 1) i _ _ (List.getElem?_eq_getElem hi) (by rw [show i + 1 + (j - i - 1) = j from by omega]; exact List.getElem?_eq_getElem hj)
/-- One demand joined: what the model's l10Kind gives. -/
theorem akR_jn {l : List Kd} {x : Tm} {k : Int} (hl : AscO ordK l) (hx : x.kind = 1) : akR l x k = (match jn ordK l [⟨x.num, k⟩] with | some r => (r, true) | none => (l, false)) := by
  have hone : AscO ordK [(⟨x.num, k⟩ : Kd)] := List.pairwise_singleton _ _
  obtain ⟨i, h1, h2, h3⟩ := pos_is l x.num
  have hp : kpos l x.num = i := kpos_of h1 h2 h3
  by_cases hy : ∃ y, l[i]? = some y ∧ y.v = x.num
  · obtain ⟨y, hy, hv⟩ := hy
    have hym := List.mem_of_getElem? hy
    rw [akR_had hx hp hy hv]
    by_cases hk : y.k = k
    · have e : y = ⟨x.num, k⟩ := by obtain ⟨a, b⟩ := y; simp only at hv hk; rw [hv, hk]
      subst e
      cases hj : jn ordK l [⟨x.num, k⟩] with
      | none =>
        obtain ⟨a, ha, b, hb, hc⟩ := (jn_no hl hone).1 hj
        rw [List.mem_singleton] at hb
        subst hb
        exact absurd hc (hl.no_clash a ha _ hym)
      | some r =>
        obtain ⟨s1, s2⟩ := jn_yes hl hone hj
        have : r = l := ascO_ext s1 hl fun z => by
          rw [s2, List.mem_singleton]
          exact ⟨fun h => h.elim id fun e => by rw [e]; exact hym, .inl⟩
        rw [this]
        simp
    · have hj : jn ordK l [⟨x.num, k⟩] = none := (jn_no hl hone).2 ⟨y, hym, _, List.mem_singleton.2 rfl, by rw [Bool.eq_false_iff]; intro h; have := ordK_lt.1 h; simp only at this; omega, by rw [Bool.eq_false_iff]; intro h; have := ordK_lt.1 h; simp only at this; omega, fun e => hk (by rw [e])⟩
      rw [hj]
      have : (y.k == k) = false := by rw [beq_eq_false_iff_ne]; exact hk
      rw [this]
  · have hne : ∀ y, l[i]? = some y → ¬ y.v = x.num := fun y h e => hy ⟨y, h, e⟩
    rw [akR_new hx hp hne]
    have hgt : ∀ (j : Nat) (y : Kd), i ≤ j → l[j]? = some y → x.num < y.v := by
      intro j y hij hy
      have hlen := (List.getElem?_eq_some_iff.1 hy).1
      obtain ⟨z, hz⟩ : ∃ z, l[i]? = some z := ⟨_, List.getElem?_eq_getElem (by omega)⟩
      have a1 := h3 z hz
      have a2 := hne z hz
      rcases Nat.lt_or_eq_of_le hij with h | h
      · have := ascK_at hl h hz hy; omega
      · subst h; cases hz.symm.trans hy; omega
    have hmem : ∀ z ∈ l, z.v < x.num ∨ x.num < z.v := by
      intro z hz
      obtain ⟨j, hj⟩ := List.getElem?_of_mem hz
      by_cases h : j < i
      · exact .inl (h2 j z h hj)
      · exact .inr (hgt j z (by omega) hj)
    have hasc : AscO ordK (insK l i ⟨x.num, k⟩) := by
      unfold insK AscO
      have hsplit : (l.take i ++ l.drop i).Pairwise (fun a b => ordK.lt a b = true) := by rw [List.take_append_drop]; exact hl
      obtain ⟨p1, p2, p3⟩ := List.pairwise_append.1 hsplit
      refine List.pairwise_append.2 ⟨p1, List.pairwise_cons.2 ⟨fun z hz => ?_, p2⟩, fun a ha b hb => ?_⟩
      · obtain ⟨j, hj⟩ := List.getElem?_of_mem hz
        rw [List.getElem?_drop] at hj
        exact ordK_lt.2 (hgt (i + j) z (by omega) hj)
      · rcases List.mem_cons.1 hb with rfl | hb
        · obtain ⟨j, hj⟩ := List.getElem?_of_mem ha
          rw [List.getElem?_take] at hj
          split at hj
          · exact ordK_lt.2 (h2 j a (by assumption) hj)
          · cases hj
        · exact p3 a ha b hb
    cases hj : jn ordK l [⟨x.num, k⟩] with
    | none =>
      obtain ⟨a, ha, b, hb, hc⟩ := (jn_no hl hone).1 hj
      rw [List.mem_singleton] at hb
      subst hb
      rcases hmem a ha with h | h
      · have := ordK_lt (x := a) (y := ⟨x.num, k⟩).2 h; rw [hc.1] at this; cases this
      · have := ordK_lt (x := ⟨x.num, k⟩) (y := a).2 h; rw [hc.2.1] at this; cases this
    | some r =>
      obtain ⟨s1, s2⟩ := jn_yes hl hone hj
      have : r = insK l i ⟨x.num, k⟩ := ascO_ext s1 hasc fun z => by
        rw [s2, List.mem_singleton, insK, List.mem_append, List.mem_cons]
        constructor
        · rintro (h | h)
          · rw [← List.take_append_drop i l] at h
            exact (List.mem_append.1 h).imp id .inr
          · exact .inr (.inl h)
        · rintro (h | h | h)
          · exact .inl (List.mem_of_mem_take h)
          · exact .inr h
          · exact .inl (List.mem_of_mem_drop h)
      rw [this]
theorem vars_var {t : Tm} (ht : Ok t) (h : t.kind = 1) : varsOf t = [t.num] := by
  rw [varsOf, if_pos ht, show Lib.compact (sorted t.vl) = t.vl.foldl insAsc [] from (by rw [ins_is_compact]; rfl), vl_of_var h]
  rfl
theorem vars_none {t : Tm} (ht : Ok t) (h : t.kind = 2 ∨ t.kind = 3) : varsOf t = [] := by
  have hv : t.vl = [] := by
    obtain ⟨_, hg⟩ := ht
    cases hg with
    | nil => rcases h with h | h <;> cases h
    | var i _ _ => rcases h with h | h <;> cases h
    | sym s _ => rfl
    | int i _ _ => rfl
    | pair a b _ _ => rcases h with h | h <;> cases h
  rw [varsOf, if_pos ht, show Lib.compact (sorted t.vl) = t.vl.foldl insAsc [] from (by rw [ins_is_compact]; rfl), hv]
  rfl
/-- One demand passed on and joined: what the model's l10Kind gives. -/
theorem akR_po {l : List Kd} {x : Tm} {k : Int} {v : Int} (hl : AscO ordK l) (hx : Ok x) (hk : k = 2 ∨ k = 3) :
    (poK [⟨v, k⟩] x).bind (jn ordK l) = if (akR l x k).2 = true then some (akR l x k).1 else none := by
  by_cases h1 : x.kind = 1
  · have hp : poK [⟨v, k⟩] x = some [⟨x.num, k⟩] := by
      rw [poK, if_pos (by simp [kdAllows, h1]), vars_var hx h1]
      rfl
    rw [hp, akR_jn hl h1]
    show jn ordK l [⟨x.num, k⟩] = _
    cases jn ordK l [⟨x.num, k⟩] <;> rfl
  · rw [akR_other h1]
    by_cases h2 : x.kind = k
    · have hp : poK [⟨v, k⟩] x = some [] := by
        rw [poK, if_pos (by simp [kdAllows, h2]), vars_none hx (by rw [h2]; exact hk)]
        rfl
      rw [hp]
      show jn ordK l [] = _
      rw [jn_none2]
      simp [h2]
    · have hp : poK [⟨v, k⟩] x = none := if_neg (by simp [kdAllows, h1, h2])
      rw [hp]
      have : (x.kind == k) = false := by rw [beq_eq_false_iff_ne]; exact h2
      simp [this]
theorem ad_is (s : List Bd) (l : List Kd) (t : Tm) (k : Int) : adVK s l t ⟨0, k⟩ = if adB s l t k = true then some (adL s l t k) else none := by
  by_cases h : apB s t = true ∧ kdsB l = true ∧ kdFitB ⟨0, k⟩ = true
  · have hk : k = 2 ∨ k = 3 := (kdFit_true.1 h.2.2).2
    rw [adVK_yes h, akR_po (kdsP_asc (kdsB_true.1 h.2.1)) (ap_okT h.1).1 hk]
    by_cases hr : (akR l (apT s t) k).2 = true
    · have hp : AdP s l t k := ⟨h.1, kdsB_true.1 h.2.1, hk, hr⟩
      rw [if_pos hr, (ad_yes hp).1, (ad_yes hp).2, if_pos rfl]
    · have hp : ¬ AdP s l t k := fun hh => hr hh.2.2.2
      rw [if_neg hr, (ad_no hp).2, if_neg Bool.false_ne_true]
  · have hp : ¬ AdP s l t k := fun hh => h ⟨hh.1, kdsB_true.2 hh.2.1, kdFit_true.2 ⟨⟨Int.le_refl _, by show (0 : Int) ≤ 100000; decide⟩, hh.2.2.1⟩⟩
    rw [adVK_no h, (ad_no hp).2, if_neg Bool.false_ne_true]

set_option maxRecDepth 100000 in
set_option maxHeartbeats 2000000 in
theorem implAddKind_any (s : List Bd) (Vs : Value) (l : List Kd) (Vl : Value) (t : Tm) (Vt : Value) (k : Int) (w : World) (hS : ListS bdE w Any Vs s) (hZs : szB s ≤ 1048576) (hF : fineB s) (hA : ListS kdE w Any Vl l) (hV : CapOk Vl l.length) (hL : l.length ≤ 1048577) (hT : ArgsAt w Vt t.args) (hZ : t.sz ≤ 1048576) :
    Calls Try.prog 11 #[Vs, Vl, .agg #[.int .i64 t.kind, .int .i64 t.num, .string t.name, Vt], .int .i64 k] w fun e w' => ∃ v, e = .returned (.tuple #[v, .bool (adB s l t k)]) ∧ ListO kdE 39 w' (iv w.heap.size w'.heap.size) v (adL s l t k) ∧ Below w.heap.size w w' := by
  obtain ⟨ta, tc, rfl⟩ := hT.slice
  have hb0 : Below w.heap.size w (w.alloc (.cells #[.int .i64 t.kind, .int .i64 t.num, .string t.name, .slice ta t.args.length tc] 28)) := belowAlloc (Below.refl _ _) _
  have HC := Lib.hid (kdAdded_any l Vl s Vs t (.slice ta t.args.length tc) ⟨0, k⟩ (w.alloc (.cells #[.int .i64 t.kind, .int .i64 t.num, .string t.name, .slice ta t.args.length tc] 28)) (hA.kept hb0) (.inr hV) hL (hS.kept hb0) hZs hF (hT.kept hb0) hZ)
  have HW := Lib.hid hb0
  rw [ad_is] at HC
  have HN : Hid (adB s l t k = false → adL s l t k = []) := Lib.hid fun h => (ad_no fun hh => by rw [(ad_yes hh).2] at h; cases h).1
  generalize adB s l t k = rb at HC HN ⊢
  generalize adL s l t k = rl at HC HN ⊢
  clear hS hF hA hV hT hb0
  go_enter Try.func11, Try.ntmps11
  go_wp2_with fail
  refine HC.out.mono ?_
  cases rb with
  | false =>
    rintro e w1 ⟨v, rfl, hv, hc, hb⟩
    have HV := Lib.hid hv
    have HB := Lib.hid (HW.out.trans (hb.mono HW.out.size))
    have HZ := Lib.hid HW.out.size
    clear hv hc hb HC
    obtain rfl := HN.out rfl
    go_wp2
    go_ret2
    exact ⟨_, rfl, HV.out.sub fun k hk => ⟨Nat.le_trans HZ.out hk.1, hk.2⟩, HB.out⟩
  | true =>
    rintro e w1 ⟨v, rfl, hv, hc, hb⟩
    have HV := Lib.hid hv
    have HB := Lib.hid (HW.out.trans (hb.mono HW.out.size))
    have HZ := Lib.hid HW.out.size
    clear hv hc hb HC
    go_wp2
    go_ret2
    exact ⟨_, rfl, HV.out.sub fun k hk => ⟨Nat.le_trans HZ.out hk.1, hk.2⟩, HB.out⟩
end Go.Proofs.Ytnmdnajbafpfiaa

