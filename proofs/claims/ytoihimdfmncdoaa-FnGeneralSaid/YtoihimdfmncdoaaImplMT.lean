/-
  The program's ValuesOk, Instantiate, valuesFor, MatchTerm, IsInstance.
-/
import Derived.Test.YtoihimdfmncdoaaImplMatch
namespace Go.Proofs.Ytoihimdfmncdoaa
open Go.RowKit
set_option linter.unusedVariables false
set_option linter.unusedSimpArgs false

/-- The instance of a term, and whether it fits. -/
def InP (s : List Bd) (t : Tm) : Prop := Ok t ∧ ValuesP s ∧ (putT s t).nodes ≤ 5000
open Classical in
noncomputable def instT (s : List Bd) (t : Tm) : Tm := if InP s t then putT s t else zeroTm
open Classical in
noncomputable def instB (s : List Bd) (t : Tm) : Bool := decide (InP s t)
open Classical in
theorem in_yes {s : List Bd} {t : Tm} (h : InP s t) : instT s t = putT s t ∧ instB s t = true := ⟨by rw [instT, if_pos h], by unfold instB; exact decide_eq_true h⟩
open Classical in
theorem in_not {s : List Bd} {t : Tm} (h : ¬ InP s t) : instT s t = zeroTm ∧ instB s t = false := ⟨by rw [instT, if_neg h], by unfold instB; exact decide_eq_false h⟩
theorem in_no {s : List Bd} {t : Tm} (h : ¬ (Ok t ∧ ValuesP s)) : instT s t = zeroTm ∧ instB s t = false := in_not fun hh => h ⟨hh.1, hh.2.1⟩
theorem in_fit {s : List Bd} {t : Tm} (ht : Ok t) (hs : ValuesP s) : instT s t = fitT s t ∧ instB s t = fitB s t := by
  by_cases h : (putT s t).nodes ≤ 5000
  · obtain ⟨a1, a2⟩ := in_yes ⟨ht, hs, h⟩
    obtain ⟨b1, b2⟩ := fit_yes (s := s) (t := t) h
    exact ⟨by rw [a1, b1], by rw [a2, b2]⟩
  · obtain ⟨a1, a2⟩ := in_not (s := s) (t := t) fun hh => h hh.2.2
    obtain ⟨b1, b2⟩ := fit_no (s := s) (t := t) h
    exact ⟨by rw [a1, b1], by rw [a2, b2]⟩
theorem ValuesP.fits {s : List Bd} (h : ValuesP s) : FitB s := fun b hb => by
  obtain ⟨i, hi⟩ := List.getElem?_of_mem hb
  exact (h.1 i b hi).2

theorem nodup_len : ∀ {l m : List Int}, l.Nodup → (∀ x ∈ l, x ∈ m) → l.length ≤ m.length
  | [], _, _, _ => Nat.zero_le _
  | x :: l, m, hn, h => by
    obtain ⟨h1, h2⟩ := List.nodup_cons.1 hn
    have hx := h x (List.mem_cons_self ..)
    have h3 := nodup_len (m := m.erase x) h2 fun y hy => (List.mem_erase_of_ne (fun e => h1 (by rw [← e]; exact hy))).2 (h y (List.mem_cons_of_mem _ hy))
    rw [List.length_erase_of_mem hx] at h3
    have h4 := List.length_pos_of_mem hx
    rw [List.length_cons]
    omega
theorem binds_get {g : Int → Option Tm} {l : List Bd} (h1 : ∀ b ∈ l, g b.v = some b.t) (h2 : ∀ v, g v ≠ none → ∃ b ∈ l, b.v = v) (v : Int) : getO l v = g v := by
  cases hg : getO l v with
  | none =>
    by_cases h : g v = none
    · exact h.symm
    · obtain ⟨b, hb, hbv⟩ := h2 v h
      exact absurd hbv (getO_none.1 hg b hb)
  | some t =>
    obtain ⟨b, hb, hbv, rfl⟩ := getO_some hg
    rw [← hbv, h1 b hb]
theorem binds_len {ks : List Int} {g : Int → Option Tm} {l : List Bd} (hn : ks.Nodup) (hk : ∀ v, v ∈ ks ↔ g v ≠ none) (ho : l.Pairwise fun a b => ¬ a.v = b.v) (h1 : ∀ b ∈ l, g b.v = some b.t) (h2 : ∀ v, g v ≠ none → ∃ b ∈ l, b.v = v) : l.length = ks.length := by
  have hl : (l.map Bd.v).Nodup := by rw [List.nodup_iff_pairwise_ne, List.pairwise_map]; exact ho.imp fun h => h
  have a := nodup_len hl fun x hx => by
    obtain ⟨b, hb, rfl⟩ := List.mem_map.1 hx
    exact (hk b.v).2 (by rw [h1 b hb]; simp)
  have b := nodup_len (m := l.map Bd.v) hn fun x hx => by
    obtain ⟨b, hb, rfl⟩ := h2 x ((hk x).1 hx)
    exact List.mem_map.2 ⟨b, hb, rfl⟩
  rw [List.length_map] at a b
  omega
/-- What valuesFor leaves. -/
def ValsP (p t : Tm) (w : World) (e : Ending) (w' : World) : Prop :=
  ((¬ (Ok p ∧ Ok t) ∧ e = .returned (.tuple #[.map none, .bool false])) ∨
   ((Ok p ∧ Ok t) ∧ ∃ (b : Nat) (ks : List Int) (g : Int → Option Tm), e = .returned (.tuple #[.map (some b), .bool (matB (fun _ => none) p t)]) ∧ MapV w.heap.size w' b ks g ∧ OkG g ∧ ks.length ≤ 5000 ∧ (matB (fun _ => none) p t = true → MatY (fun _ => none) p t g) ∧ w.heap.size ≤ b)) ∧ Below w.heap.size w w'

set_option maxRecDepth 100000 in
set_option maxHeartbeats 2000000 in
theorem valuesFor_any (p t : Tm) (Vp Vt : Value) (w : World) (hP : ArgsAt w Vp p.args) (hZp : p.sz ≤ 1048576) (hT : ArgsAt w Vt t.args) (hZt : t.sz ≤ 1048576) :
    Calls Try.prog 98 #[.agg #[.int .i64 p.kind, .int .i64 p.num, .string p.name, Vp], .agg #[.int .i64 t.kind, .int .i64 t.num, .string t.name, Vt]] w (ValsP p t w) := by
  obtain ⟨pa, pc, rfl⟩ := hP.slice
  obtain ⟨ta, tc, rfl⟩ := hT.slice
  have hB : Below w.heap.size w ((w.alloc (.cells #[.int .i64 p.kind, .int .i64 p.num, .string p.name, .slice pa p.args.length pc] 25)).alloc (.cells #[.int .i64 t.kind, .int .i64 t.num, .string t.name, .slice ta t.args.length tc] 25)) := belowAlloc (belowAlloc (Below.refl _ _) _) _
  have HX := Lib.hid ((at_box_of w #[.int .i64 p.kind, .int .i64 p.num, .string p.name, .slice pa p.args.length pc] 25 w.heap.size rfl).read (belowAlloc (Below.refl _ _) (.cells #[.int .i64 t.kind, .int .i64 t.num, .string t.name, .slice ta t.args.length tc] 25)))
  have HY := Lib.hid (at_box_of (w.alloc (.cells #[.int .i64 p.kind, .int .i64 p.num, .string p.name, .slice pa p.args.length pc] 25)) #[.int .i64 t.kind, .int .i64 t.num, .string t.name, .slice ta t.args.length tc] 25 (w.heap.size + 1) (by simp))
  have HP := Lib.hid (hP.inS.kept hB)
  have HT := Lib.hid (hT.inS.kept hB)
  have HW := Lib.hid hB
  clear hP hT hB
  go_enter Try.func98, Try.ntmps98
  go_upto_region 1 with (fail)
  generalize hw0 : (w.alloc (.cells #[.int .i64 p.kind, .int .i64 p.num, .string p.name, .slice pa p.args.length pc] 25)).alloc (.cells #[.int .i64 t.kind, .int .i64 t.num, .string t.name, .slice ta t.args.length tc] 25) = w0 at HX HY HP HT HW ⊢
  clear hw0
  have HC := Lib.hid (implTermOk_any p _ w0 HP.out.at hZp)
  obtain ⟨c0, c1, c2, c3⟩ := HX.out.cells
  have z0 := HX.out.le
  go_wp2_with fail
  refine HC.out.mono ?_
  rintro e w1 ⟨rfl, hb⟩
  replace HX := Lib.hid (HX.out.read hb)
  replace HY := Lib.hid (HY.out.read hb)
  replace HP := Lib.hid (HP.out.kept hb)
  replace HT := Lib.hid (HT.out.kept hb)
  replace HW := Lib.hid (belowOn HW.out (Nat.le_refl _) hb)
  clear hb HC c0 c1 c2 c3 z0
  cases hop : okB p with
  | false =>
    have HF : Hid (ValsP p t w (.returned (.tuple #[.map none, .bool false])) w1) := Lib.hid ⟨.inl ⟨fun h => okB_false.1 hop h.1, rfl⟩, HW.out⟩
    clear hop
    go_wp2
    go_ret2
    exact HF.out
  | true =>
  have HOP := Lib.hid (okB_true.1 hop)
  clear hop
  have HC := Lib.hid (implTermOk_any t _ w1 HT.out.at hZt)
  obtain ⟨d0, d1, d2, d3⟩ := HY.out.cells
  have z1 := HY.out.le
  go_wp2_with fail
  refine HC.out.mono ?_
  rintro e w2 ⟨rfl, hb⟩
  replace HX := Lib.hid (HX.out.read hb)
  replace HY := Lib.hid (HY.out.read hb)
  replace HP := Lib.hid (HP.out.kept hb)
  replace HT := Lib.hid (HT.out.kept hb)
  replace HW := Lib.hid (belowOn HW.out (Nat.le_refl _) hb)
  clear hb HC d0 d1 d2 d3 z1
  cases hot : okB t with
  | false =>
    have HF : Hid (ValsP p t w (.returned (.tuple #[.map none, .bool false])) w2) := Lib.hid ⟨.inl ⟨fun h => okB_false.1 hot h.2, rfl⟩, HW.out⟩
    clear hot
    go_wp2
    go_ret2
    exact HF.out
  | true =>
  have HOT := Lib.hid (okB_true.1 hot)
  clear hot
  have hmm := @run_makeMap Try.prog
  go_upto_region 4 with (fail)
  clear hmm
  have hal : Below w2.heap.size w2 (w2.alloc (.map #[] 0)) := belowAlloc (Below.refl _ _) _
  have HM := Lib.hid (mapV_made w.heap.size w2)
  have HLO : Hid (w.heap.size ≤ w2.heap.size) := Lib.hid HW.out.size
  replace HX := Lib.hid (HX.out.read hal)
  replace HY := Lib.hid (HY.out.read hal)
  replace HP := Lib.hid (HP.out.kept hal)
  replace HT := Lib.hid (HT.out.kept hal)
  have HW3 := Lib.hid (belowOn HW.out (Nat.le_refl _) hal)
  clear hal HW
  generalize hw3 : w2.alloc (.map #[] 0) = w3 at HX HY HP HT HW3 HM ⊢
  clear hw3
  generalize w2.heap.size = mb at HM HLO ⊢
  have HC := Lib.hid (match_any w.heap.size mb HLO.out (p.nodes + 1) p t _ _ [] (fun _ => none) w3 (Nat.lt_succ_self _) HM.out okG_none (by have := HOP.out.1; simp; omega) HP.out HT.out HOP.out HOT.out)
  obtain ⟨c0, c1, c2, c3⟩ := HX.out.cells
  have z0 := HX.out.le
  obtain ⟨d0, d1, d2, d3⟩ := HY.out.cells
  have z1 := HY.out.le
  go_wp2_with fail
  refine HC.out.mono ?_
  rintro e w4 ⟨rfl, ⟨ks, g, h1, h2, h3, h4⟩, ho⟩
  have HF : Hid (ValsP p t w (.returned (.tuple #[.map (some mb), .bool (matB (fun _ => none) p t)])) w4) := Lib.hid ⟨.inr ⟨⟨HOP.out, HOT.out⟩, mb, ks, g, rfl, h1, h2, by have := HOP.out.1; have h5 := h3; simp at h5; omega, h4, HLO.out⟩, HW3.out.trans (ho.below (fun k hk => by have := hk.1; have := HLO.out; omega) HW3.out.size)⟩
  clear h1 h2 h3 h4 ho HC c0 c1 c2 c3 z0 d0 d1 d2 d3 z1
  go_wp2
  go_ret2
  exact HF.out

set_option maxRecDepth 100000 in
set_option maxHeartbeats 2000000 in
theorem implMatchTerm_any (p : Tm) (Vp : Value) (t : Tm) (Vt : Value) (w : World) (hP : ArgsAt w Vp p.args) (hZp : p.sz ≤ 1048576) (hT : ArgsAt w Vt t.args) (hZt : t.sz ≤ 1048576) :
    Calls Try.prog 48 #[.agg #[.int .i64 p.kind, .int .i64 p.num, .string p.name, Vp], .agg #[.int .i64 t.kind, .int .i64 t.num, .string t.name, Vt]] w (NewB2 (mtL p t) (mtB p t) w) := by
  obtain ⟨pa, pc, rfl⟩ := hP.slice
  obtain ⟨ta, tc, rfl⟩ := hT.slice
  have hB : Below w.heap.size w ((w.alloc (.cells #[.int .i64 p.kind, .int .i64 p.num, .string p.name, .slice pa p.args.length pc] 25)).alloc (.cells #[.int .i64 t.kind, .int .i64 t.num, .string t.name, .slice ta t.args.length tc] 25)) := belowAlloc (belowAlloc (Below.refl _ _) _) _
  have HX := Lib.hid ((at_box_of w #[.int .i64 p.kind, .int .i64 p.num, .string p.name, .slice pa p.args.length pc] 25 w.heap.size rfl).read (belowAlloc (Below.refl _ _) (.cells #[.int .i64 t.kind, .int .i64 t.num, .string t.name, .slice ta t.args.length tc] 25)))
  have HY := Lib.hid (at_box_of (w.alloc (.cells #[.int .i64 p.kind, .int .i64 p.num, .string p.name, .slice pa p.args.length pc] 25)) #[.int .i64 t.kind, .int .i64 t.num, .string t.name, .slice ta t.args.length tc] 25 (w.heap.size + 1) (by simp))
  have HW := Lib.hid hB
  have HC := Lib.hid (valuesFor_any p t _ _ _ (hP.kept hB) hZp (hT.kept hB) hZt)
  have HNO := Lib.hid (fun (h : ∀ l, ¬ MtP p t l) => mt_no h)
  have HYES := Lib.hid (fun (l : List Bd) (h : MtP p t l) => mt_yes h)
  generalize mtL p t = rl at HNO HYES ⊢
  generalize mtB p t = rb at HNO HYES ⊢
  clear hP hT hB
  go_enter Try.func48, Try.ntmps48
  go_upto_region 1 with (fail)
  generalize hw0 : (w.alloc (.cells #[.int .i64 p.kind, .int .i64 p.num, .string p.name, .slice pa p.args.length pc] 25)).alloc (.cells #[.int .i64 t.kind, .int .i64 t.num, .string t.name, .slice ta t.args.length tc] 25) = w0 at HX HY HW HC ⊢
  clear hw0
  obtain ⟨c0, c1, c2, c3⟩ := HX.out.cells
  have z0 := HX.out.le
  obtain ⟨d0, d1, d2, d3⟩ := HY.out.cells
  have z1 := HY.out.le
  go_wp2_with fail
  refine HC.out.mono ?_
  rintro e w1 ⟨hcase, hb⟩
  have HW1 := Lib.hid (belowOn HW.out (Nat.le_refl _) hb)
  have HS1 := Lib.hid (Nat.le_trans HW.out.size hb.size)
  clear hb HC c0 c1 c2 c3 z0 d0 d1 d2 d3 z1 HX HY
  rcases hcase with ⟨hno, rfl⟩ | ⟨hok, b, ks, g, rfl, hm, hg, hkl, hmy, -⟩
  · obtain ⟨rfl, rfl⟩ := HNO.out fun l h => hno ⟨h.1, h.2.1⟩
    clear hno
    go_wp2
    go_ret2
    exact ⟨_, rfl, .nil, HW1.out⟩
  · have HOK := Lib.hid hok
    have HM := Lib.hid hm
    have HG := Lib.hid hg
    clear hok hm hg
    cases hmb : matB (fun _ => none) p t with
    | false =>
      obtain ⟨rfl, rfl⟩ := HNO.out fun l h => nat_list HOK.out.1.2 (matB_false HOK.out.1.2 hmb) h.2.2.1
      clear hmb hmy
      go_wp2
      go_ret2
      exact ⟨_, rfl, .nil, HW1.out⟩
    | true =>
      have HMY := Lib.hid (hmy hmb)
      have hlen := HM.out.len
      clear hmb hmy
      obtain ⟨f, hmf, hf1, hf2⟩ := HM.out.map
      have HMF := Lib.hid hmf
      have HFA : Hid (∀ v q, f v = some q → ArgsAt w1 q.2 q.1.args ∧ q.1.sz ≤ 1048576 ∧ Good q.1) := Lib.hid fun v q hq => by
        have h1 := HG.out v q.1 (by rw [← hf1 v, hq]; rfl)
        exact ⟨(hf2 v q hq).at, by have h2 := good_sz h1.2; have h3 := h1.1; omega, h1.2⟩
      have HKS : Hid (ks.Nodup ∧ ∀ v, v ∈ ks ↔ g v ≠ none) := Lib.hid (by obtain ⟨_, _, _, _, _, h4, h5, _⟩ := HM.out; exact ⟨h4, h5⟩)
      have HBO : Hid (∀ l, BindsOf f l → (∀ x ∈ l, g x.v = some x.t) ∧ (∀ v, g v ≠ none → ∃ x ∈ l, x.v = v) ∧ l.length = ks.length) := Lib.hid fun l hl => by
        have h1 : ∀ x ∈ l, g x.v = some x.t := fun x hx => by
          obtain ⟨U, hU⟩ := hl.come x hx
          rw [← hf1 x.v, hU]; rfl
        have h2 : ∀ v, g v ≠ none → ∃ x ∈ l, x.v = v := fun v hv => hl.all v (by
          cases hfv : f v with
          | none => rw [← hf1 v, hfv] at hv; exact absurd rfl hv
          | some q => rfl)
        exact ⟨h1, h2, binds_len HKS.out.1 HKS.out.2 hl.once h1 h2⟩
      have HLIST : Hid (∀ l m, BindsOf f l → m.Perm l → m.Pairwise (fun a b => a.v ≤ b.v) → MatL p t m ∧ m.length = ks.length) := Lib.hid fun l m hl hp hpw => by
        obtain ⟨h1, h2, h3⟩ := HBO.out l hl
        have hon : m.Pairwise fun a b => ¬ a.v = b.v := hp.symm.pairwise hl.once (fun h e => h e.symm)
        have hasc : m.Pairwise fun a b => a.v < b.v := (hpw.and hon).imp fun {a b} h => by have e1 := h.1; have e2 := h.2; omega
        exact ⟨mat_list HOK.out.1.2 HMY.out HG.out hasc (binds_get (fun x hx => h1 x (hp.mem_iff.1 hx)) fun v hv => by obtain ⟨x, hx, e⟩ := h2 v hv; exact ⟨x, hp.mem_iff.2 hx, e⟩), by rw [hp.length_eq, h3]⟩
      have HC := Lib.hid (bindings_any b ks.length f w1 HMF.out HFA.out (by omega))
      clear hmf hf1 hf2
      by_cases h4 : ks.length ≤ 400
      · have h4I : ¬ 400 < (ks.length : Int) := by omega
        have h4d : decide (400 < (ks.length : Int)) = false := decide_eq_false h4I
        go_wp2_with fail
        refine HC.out.mono ?_
        rintro e w2 ⟨V, l, rfl, hlo, _, hbo, hll, hb⟩
        have HL := Lib.hid hlo
        have HBD := Lib.hid hbo
        have HW2 := Lib.hid (belowOn HW1.out (Nat.le_refl _) hb)
        have HS2 := Lib.hid hb.size
        clear hlo hbo hb HC hlen
        obtain ⟨la, lc, rfl⟩ := HL.out.slice
        have HC := Lib.hid (sortB_any _ _ _ w2 HL.out (by omega))
        go_wp2_with fail
        refine HC.out.mono ?_
        rintro e w3 ⟨rfl, m, hpm, hpw, hlm, hom⟩
        obtain ⟨hml, hmn⟩ := HLIST.out l m HBD.out hpm (by first | exact hpw | exact hpw.imp fun h => by omega)
        obtain ⟨rfl, rfl⟩ := HYES.out m ⟨HOK.out.1, HOK.out.2, hml, by omega⟩
        have HW3 : Hid (Below w.heap.size w w3) := Lib.hid (below_after_only HW2.out hom (fun j hj => by have := hj.1; have := HS1.out; omega) HW2.out.size)
        have HL3 := Lib.hid (hlm.sub (S' := iv w.heap.size w3.heap.size) fun k hk => ⟨by have := hk.1; have := HS1.out; omega, Nat.lt_of_lt_of_le hk.2 hom.size⟩)
        clear hpm hpw hlm hom hml hmn HC h4 h4I h4d
        go_wp2
        go_ret2
        exact ⟨_, rfl, HL3.out, HW3.out⟩
      · have h4I : 400 < (ks.length : Int) := by omega
        have h4d : decide (400 < (ks.length : Int)) = true := decide_eq_true h4I
        obtain ⟨rfl, rfl⟩ := HNO.out fun l h => by
          have hy := (HMY.out.1 (sgm l)).2 ⟨(fun v x hx => by cases hx), (by rw [← put_ev HOK.out.1.2]; exact h.2.2.1.put)⟩
          have hle : ks.length ≤ (l.map Bd.v).length := nodup_len HKS.out.1 fun v hv => by
            have h1 : g v ≠ none := (HKS.out.2 v).1 hv
            have h2 : v ∈ p.vl := ((HMY.out.2 v).1 h1).elim (fun h => absurd rfl h) id
            obtain ⟨x, hx, e⟩ := getO_ne.1 ((h.2.2.1.dom v).2 h2)
            exact List.mem_map.2 ⟨x, hx, e⟩
          rw [List.length_map] at hle
          have := h.2.2.2
          omega
        clear HC h4 HFA HMF HBO HLIST
        go_wp2
        go_ret2
        exact ⟨_, rfl, .nil, HW1.out⟩

set_option maxHeartbeats 1000000 in
theorem implIsInstance_any (t : Tm) (Vt : Value) (p : Tm) (Vp : Value) (w : World) (hT : ArgsAt w Vt t.args) (hZt : t.sz ≤ 1048576) (hP : ArgsAt w Vp p.args) (hZp : p.sz ≤ 1048576) :
    Calls Try.prog 16 #[.agg #[.int .i64 t.kind, .int .i64 t.num, .string t.name, Vt], .agg #[.int .i64 p.kind, .int .i64 p.num, .string p.name, Vp]] w fun e w' => e = .returned (.bool (mtB p t)) ∧ Below w.heap.size w w' := by
  obtain ⟨pa, pc, rfl⟩ := hP.slice
  obtain ⟨ta, tc, rfl⟩ := hT.slice
  have hB : Below w.heap.size w ((w.alloc (.cells #[.int .i64 t.kind, .int .i64 t.num, .string t.name, .slice ta t.args.length tc] 25)).alloc (.cells #[.int .i64 p.kind, .int .i64 p.num, .string p.name, .slice pa p.args.length pc] 25)) := belowAlloc (belowAlloc (Below.refl _ _) _) _
  have HX := Lib.hid ((at_box_of w #[.int .i64 t.kind, .int .i64 t.num, .string t.name, .slice ta t.args.length tc] 25 w.heap.size rfl).read (belowAlloc (Below.refl _ _) (.cells #[.int .i64 p.kind, .int .i64 p.num, .string p.name, .slice pa p.args.length pc] 25)))
  have HY := Lib.hid (at_box_of (w.alloc (.cells #[.int .i64 t.kind, .int .i64 t.num, .string t.name, .slice ta t.args.length tc] 25)) #[.int .i64 p.kind, .int .i64 p.num, .string p.name, .slice pa p.args.length pc] 25 (w.heap.size + 1) (by simp))
  have HW := Lib.hid hB
  have HC := Lib.hid (implMatchTerm_any p _ t _ _ (hP.kept hB) hZp (hT.kept hB) hZt)
  generalize mtB p t = rb at HC ⊢
  clear hP hT hB
  go_enter Try.func16, Try.ntmps16
  go_upto_region 1 with (fail)
  generalize hw0 : (w.alloc (.cells #[.int .i64 t.kind, .int .i64 t.num, .string t.name, .slice ta t.args.length tc] 25)).alloc (.cells #[.int .i64 p.kind, .int .i64 p.num, .string p.name, .slice pa p.args.length pc] 25) = w0 at HX HY HW HC ⊢
  clear hw0
  obtain ⟨c0, c1, c2, c3⟩ := HX.out.cells
  have z0 := HX.out.le
  obtain ⟨d0, d1, d2, d3⟩ := HY.out.cells
  have z1 := HY.out.le
  go_wp2_with fail
  refine HC.out.mono ?_
  rintro e w1 ⟨v, rfl, hl, hb⟩
  obtain ⟨la, lc, rfl⟩ := hl.slice
  have HB := Lib.hid (belowOn HW.out (Nat.le_refl _) hb)
  clear hb hl HC c0 c1 c2 c3 z0 d0 d1 d2 d3 z1 HX HY
  go_wp2
  go_ret
  exact ⟨rfl, HB.out⟩
end Go.Proofs.Ytoihimdfmncdoaa

