/-
  The model's l06Gen and Generalize.
-/
import Derived.Test.YtoihimdfmncdoaaSpecGenB
import Derived.Test.YtoihimdfmncdoaaListOk
namespace Go.Proofs.Ytoihimdfmncdoaa
open Go.RowKit
set_option linter.unusedVariables false
set_option linter.unusedSimpArgs false

theorem allPair_same {l : List Tm} {f : Tm} (hf : l[0]? = some f) (hg : ∀ t ∈ l, Good t) (h : AllPair l) : SameP f l ∧ f.kind = 4 := by
  have hfm := List.mem_of_getElem? hf
  have h4 := h f hfm
  refine ⟨⟨by omega, fun t ht => ?_⟩, h4⟩
  have h5 := h t ht
  obtain ⟨a1, a2⟩ := pair_fields (hg f hfm) h4
  obtain ⟨b1, b2⟩ := pair_fields (hg t ht) h5
  exact ⟨by rw [h4, h5], by rw [a1, b1], by rw [a2, b2]⟩
theorem same_pair {l : List Tm} {f : Tm} (h : SameP f l) (h4 : f.kind = 4) : AllPair l := fun t ht => by rw [(h.2 t ht).1]; exact h4
theorem same_atom {l : List Tm} {f : Tm} (hf : l[0]? = some f) (hg : ∀ t ∈ l, Good t) (h : SameP f l) (h4 : ¬ f.kind = 4) : ¬ AllPair l ∧ OneAtom l := by
  have hfm := List.mem_of_getElem? hf
  refine ⟨fun h' => h4 (h' f hfm), f, by rw [List.head?_eq_getElem?]; exact hf, h.1, fun t ht => leaf_eq (hg t ht) (hg f hfm) (by rw [(h.2 t ht).1]; exact h4) (h.2 t ht)⟩
theorem atom_same {l : List Tm} {f : Tm} (hf : l[0]? = some f) (h : OneAtom l) : SameP f l := by
  obtain ⟨g, hg, h1, h2⟩ := h
  rw [List.head?_eq_getElem?, hf] at hg
  cases hg
  exact ⟨h1, fun t ht => by rw [h2 t ht]; exact ⟨rfl, rfl, rfl⟩⟩
theorem genF_atom {n : Nat} {l : List Tm} {k : List (List Tm)} {f : Tm} (hf : l[0]? = some f) (hg : ∀ t ∈ l, Good t) (h : SameP f l) (h4 : ¬ f.kind = 4) : genF (n + 1) l k = (f, k) := by
  obtain ⟨h1, h2⟩ := same_atom hf hg h h4
  rw [genF, if_neg h1, if_pos h2, List.headD_eq_head?_getD, List.head?_eq_getElem?, hf]
  rfl
theorem genF_var {n : Nat} {l : List Tm} {k : List (List Tm)} {f : Tm} (hf : l[0]? = some f) (hg : ∀ t ∈ l, Good t) (h : ¬ SameP f l) : genF (n + 1) l k = (.mk 1 (idxL k l) ⟨#[]⟩ [], kAdd k l) := by
  rw [genF, if_neg fun h' => h (allPair_same hf hg h').1, if_neg fun h' => h (atom_same hf h')]
theorem genF_pair {n : Nat} {l : List Tm} {k : List (List Tm)} (h : AllPair l) : genF (n + 1) l k = (.mk 4 0 ⟨#[]⟩ [(genF n (l.map headT) k).1, (genF n (l.map tailT) (genF n (l.map headT) k).2).1], (genF n (l.map tailT) (genF n (l.map headT) k).2).2) := by
  rw [genF, if_pos h]
theorem idx_le {k : List (List Tm)} {l : List Tm} : idxL k l ≤ k.length := by
  by_cases h : l ∈ k
  · have := (List.getElem?_eq_some_iff.1 (idx_in h).1).1; omega
  · rw [idx_out h]; exact Nat.le_refl _
theorem gen_good (n : Nat) : ∀ (l : List Tm) (k : List (List Tm)) (f : Tm), l[0]? = some f → (∀ t ∈ l, Good t) → f.nodes ≤ n → k.length + f.nodes ≤ 100000 → Good (genF n l k).1 ∧ (genF n l k).1.nodes ≤ f.nodes := by
  induction n with
  | zero => intro l k f _ _ h; have := nodes_pos f; omega
  | succ n ih =>
    intro l k f hf hg hn hk
    have hp := nodes_pos f
    have hfm := List.mem_of_getElem? hf
    by_cases hs : SameP f l
    · by_cases h4 : f.kind = 4
      · have h := same_pair hs h4
        have hparts : ∀ t ∈ l, Good (headT t) ∧ Good (tailT t) := fun t ht => by
          obtain ⟨x, y, rfl, hx, hy⟩ := good_pair (hg t ht) (h t ht)
          exact ⟨hx, hy⟩
        obtain ⟨x, y, hxy, hx, hy⟩ := good_pair (hg f hfm) h4
        have g1 : ∀ t ∈ l.map headT, Good t := fun t ht => by obtain ⟨u, hu, rfl⟩ := List.mem_map.1 ht; exact (hparts u hu).1
        have g2 : ∀ t ∈ l.map tailT, Good t := fun t ht => by obtain ⟨u, hu, rfl⟩ := List.mem_map.1 ht; exact (hparts u hu).2
        have e1 : (l.map headT)[0]? = some x := by rw [List.getElem?_map, hf, hxy]; rfl
        have e2 : (l.map tailT)[0]? = some y := by rw [List.getElem?_map, hf, hxy]; rfl
        have h3 : f.nodes = 1 + (x.nodes + y.nodes) := by rw [hxy, nodes_eq]; show 1 + nodesL [x, y] = _; rw [nodesL, nodesL, nodesL]; omega
        have hl := gen_len n (l.map headT) k x e1 g1
        obtain ⟨a1, a2⟩ := ih (l.map headT) k x e1 g1 (by omega) (by omega)
        obtain ⟨b1, b2⟩ := ih (l.map tailT) (genF n (l.map headT) k).2 y e2 g2 (by omega) (by omega)
        rw [genF_pair h]
        refine ⟨.pair _ _ a1 b1, ?_⟩
        rw [nodes_eq]
        show 1 + nodesL [_, _] ≤ _
        rw [nodesL, nodesL, nodesL]
        omega
      · rw [genF_atom hf hg hs h4]; exact ⟨hg f hfm, Nat.le_refl _⟩
    · rw [genF_var hf hg hs]
      have := @idx_le k l
      refine ⟨.var _ (by omega) (by omega), ?_⟩
      rw [nodes_eq]
      show 1 + nodesL [] ≤ _
      rw [nodesL]
      exact hp
theorem specGen_any (n : Nat) : ∀ (X : Nat → Prop) (l : List Tm) (Vl : Value) (k : List (List Tm)) (Vk : Value) (f : Tm) (w : World), ArgsS w (Oth X w Vk) Vl l → KnR X w Vk k → (∀ b, X b → b < w.heap.size) → l[0]? = some f → (∀ t ∈ l, Good t) → szL l ≤ 1048576 → f.nodes ≤ n → k.length + f.nodes ≤ 1000000 →
    Calls Try.prog 53 #[Vl, Vk] w (GenR X (genF n l k).1 (genF n l k).2 Vk w) := by
  induction n with
  | zero => intro X l Vl k Vk f w _ _ _ _ _ _ h; have := nodes_pos f; omega
  | succ n ih =>
    intro X l Vl k Vk f w hA hK hX0 hf hg hZ hn hkn
    by_cases hs : SameP f l
    · by_cases h4 : f.kind = 4
      · exact gen_pair X l Vl k Vk f w hA hK hX0 hf hg hZ hs h4 n hkn ih hn
      · have h := gen_atom X l Vl k Vk f w hA hK hX0 hf hg hZ hs h4
        rw [genF_atom hf hg hs h4]
        exact h
    · have h := gen_var X l Vl k Vk f w hA hK hX0 hf hg hZ hs (by omega)
      rw [genF_var hf hg hs]
      exact h

/-! ### Generalize -/
def GzOk (l : List Tm) : Prop := (1 ≤ l.length ∧ l.length ≤ 40) ∧ l.all okB = true
open Classical in
noncomputable def gzT (l : List Tm) : Tm := if GzOk l then (genF 5000 l []).1 else zeroTm
open Classical in
noncomputable def gzB (l : List Tm) : Bool := decide (GzOk l)
theorem gz_no {l : List Tm} (h : ¬ GzOk l) : gzT l = zeroTm ∧ gzB l = false := ⟨by rw [gzT, if_neg h], by unfold gzB; simp [h]⟩
theorem gz_yes {l : List Tm} (h : GzOk l) : gzT l = (genF 5000 l []).1 ∧ gzB l = true := ⟨by rw [gzT, if_pos h], by unfold gzB; simp [h]⟩
theorem gz_first {l : List Tm} (h : GzOk l) : ∃ f, l[0]? = some f ∧ f.nodes ≤ 5000 ∧ ∀ t ∈ l, Good t := by
  have h1 := h.1.1
  have ha : ∀ x ∈ l, Ok x := fun x hx => okB_true.1 (List.all_eq_true.1 h.2 x hx)
  exact ⟨l[0], List.getElem?_eq_getElem (by omega), (ha _ (List.getElem_mem _)).1, fun t ht => (ha t ht).2⟩
theorem gz_ok (l : List Tm) : Ok (gzT l) := by
  by_cases h : GzOk l
  · obtain ⟨f, hf, hn, hg⟩ := gz_first h
    rw [(gz_yes h).1]
    obtain ⟨h1, h2⟩ := gen_good 5000 l [] f hf hg hn (by simp; omega)
    exact ⟨by omega, h1⟩
  · rw [(gz_no h).1]
    exact ⟨by decide, .nil⟩
theorem gz_sz (l : List Tm) : (gzT l).sz ≤ 1048576 := by have h := gz_ok l; have := good_sz h.2; have := h.1; omega
def In40 (n : Int) (e : Ending) : Prop := ∃ b, e = .returned (.bool b) ∧ (b = true ↔ 1 ≤ n ∧ n ≤ 40)
theorem in40_any (n : Int) (w : World) : Calls Try.prog 51 #[.int .i64 n, .int .i64 1, .int .i64 40] w fun e w' => In40 n e ∧ w = w' := by
  by_cases h0 : 1 ≤ n
  · by_cases h1 : n ≤ 40
    · have HI := Lib.hid (And.intro h0 h1)
      go_enter Try.func51, Try.ntmps51
      go_wp2
      go_ret
      exact ⟨⟨true, rfl, ⟨fun _ => HI.out, fun _ => rfl⟩⟩, rfl⟩
    · have HI := Lib.hid h1
      go_enter Try.func51, Try.ntmps51
      go_wp2
      go_ret
      exact ⟨⟨false, rfl, ⟨fun h => (by cases h), fun h => (by have := HI.out; have := h.2; omega)⟩⟩, rfl⟩
  · have HI := Lib.hid h0
    go_enter Try.func51, Try.ntmps51
    go_wp2
    go_ret
    exact ⟨⟨false, rfl, ⟨fun h => (by cases h), fun h => (by have := HI.out; have := h.1; omega)⟩⟩, rfl⟩

set_option maxRecDepth 100000 in
set_option maxHeartbeats 4000000 in
theorem specGeneralize_any (l : List Tm) (V : Value) (w : World) (hA : ArgsAt w V l) (hZ : szL l ≤ 1048576) :
    Calls Try.prog 20 #[V] w (OldTm2 (gzT l) (gzB l) w) := by
  obtain ⟨aa, ac, rfl⟩ := hA.slice
  have HNO := Lib.hid (fun h => gz_no (l := l) h)
  have HYES := Lib.hid (fun h => gz_yes (l := l) h)
  generalize gzT l = r at HNO HYES ⊢
  generalize gzB l = c at HNO HYES ⊢
  have hal : Below w.heap.size w (w.alloc (.cells #[.int .i64 0, .int .i64 0, .string ⟨#[]⟩, .slice none 0 0] 25)) := belowAlloc (Below.refl _ _) _
  have HA := Lib.hid (hA.kept hal)
  have HR := Lib.hid (at_box_of w #[.int .i64 0, .int .i64 0, .string ⟨#[]⟩, .slice none 0 0] 25 w.heap.size rfl)
  have HW := Lib.hid hal
  have HZ := Lib.hid hZ
  clear hA hZ hal
  go_enter Try.func20, Try.ntmps20
  go_upto_region 1 with (fail)
  generalize hw0 : w.alloc (.cells #[.int .i64 0, .int .i64 0, .string ⟨#[]⟩, .slice none 0 0] 25) = w0 at HA HR HW ⊢
  clear hw0
  have HI := Lib.hid (in40_any (l.length : Int) w0)
  go_wp2_with fail
  refine HI.out.mono ?_
  rintro e w' ⟨⟨b, rfl, hb⟩, rfl⟩
  have HB := Lib.hid hb
  clear HI hb
  cases b with
  | false =>
    obtain ⟨rfl, rfl⟩ := HNO.out fun h => by have := HB.out.2 ⟨by have := h.1.1; omega, by have := h.1.2; omega⟩; cases this
    have HRE := Lib.hid HR.out.now
    obtain ⟨r0, r1, r2, r3, rf⟩ := box_cells HR.out.now
    go_wp2
    exact oldTm2_end (t := zeroTm) (C := fun _ => False) (p := 2) (q := 3) (b := w.heap.size) rfl rfl rfl rfl rfl rfl rfl Try.underlying25 (by kernel_rfl) HRE.out HW.out (by omega) (fun h => h) (fun k h => h.elim) (.nil _ _)
  | true =>
    have HO := Lib.hid (specAllOk_any l _ w0 HA.out HZ.out)
    go_wp2_with fail
    refine HO.out.mono ?_
    rintro e w1 ⟨rfl, hb⟩
    replace HA := Lib.hid (HA.out.kept hb)
    replace HR := Lib.hid (HR.out.read hb)
    replace HW := Lib.hid (belowOn HW.out (Nat.le_refl _) hb)
    clear hb HO
    cases hoa : l.all okB with
    | false =>
      obtain ⟨rfl, rfl⟩ := HNO.out fun h => by have := h.2; rw [hoa] at this; cases this
      clear hoa
      have HRE := Lib.hid HR.out.now
      obtain ⟨r0, r1, r2, r3, rf⟩ := box_cells HR.out.now
      go_wp2
      exact oldTm2_end (t := zeroTm) (C := fun _ => False) (p := 2) (q := 3) (b := w.heap.size) rfl rfl rfl rfl rfl rfl rfl Try.underlying25 (by kernel_rfl) HRE.out HW.out (by omega) (fun h => h) (fun k h => h.elim) (.nil _ _)
    | true =>
      have HOK : Hid (GzOk l) := Lib.hid ⟨by have := HB.out; simp at this; omega, hoa⟩
      obtain ⟨hr, rfl⟩ := HYES.out HOK.out
      have HRR := Lib.hid hr
      clear hoa HNO HYES HB hr
      obtain ⟨f, hf, hn, hg⟩ := gz_first HOK.out
      have HC := Lib.hid (specGen_any 5000 (fun _ => False) l _ [] (.slice none 0 0) f w1 (HA.out.inS.sub fun j hj => ⟨hj, by simp [Value.ownBlock], fun h => h⟩) (knR_nil _ _) (fun b h => h.elim) hf hg HZ.out hn (by simp; omega))
      have HGG := Lib.hid (gen_good 5000 l [] f hf hg hn (by simp; omega))
      have HFN := Lib.hid hn
      clear hf hn hg
      rw [← HRR.out] at HC HGG
      generalize (genF 5000 l []).2 = k at HC
      go_wp2_with fail
      refine HC.out.mono ?_
      rintro e w2 ⟨u, V1, rfl, _, hu, ho, _⟩
      have hb : Below w1.heap.size w1 w2 := ⟨ho.os, ho.tape, ho.output, ho.size, fun j hj => ho.block j hj (by simp [Value.ownBlock])⟩
      obtain ⟨ua, uc, rfl⟩ := hu.at.slice
      have HU := Lib.hid hu.at
      replace HR := Lib.hid (HR.out.read hb)
      replace HW := Lib.hid (belowOn HW.out (Nat.le_refl _) hb)
      clear hb hu ho HC HA
      go_upto_region 4 with (fail)
      have hal : Below w2.heap.size w2 (w2.alloc (.cells #[.int .i64 r.kind, .int .i64 r.num, .string r.name, .slice ua r.args.length uc] 25)) := belowAlloc (Below.refl _ _) _
      have HX := Lib.hid (at_box_of w2 #[.int .i64 r.kind, .int .i64 r.num, .string r.name, .slice ua r.args.length uc] 25 w2.heap.size rfl)
      replace HU := Lib.hid (HU.out.kept hal)
      replace HR := Lib.hid (HR.out.read hal)
      replace HW := Lib.hid (belowOn HW.out (Nat.le_refl _) hal)
      clear hal
      generalize hw3 : w2.alloc (.cells #[.int .i64 r.kind, .int .i64 r.num, .string r.name, .slice ua r.args.length uc] 25) = w3 at HX HU HR HW ⊢
      clear hw3
      generalize w2.heap.size = nx at HX ⊢
      obtain ⟨c0, c1, c2, c3⟩ := HX.out.cells
      have z0 := HX.out.le
      have HC := Lib.hid (specCopy_any (r.nodes + 1) r _ w3 (Nat.lt_succ_self _) HU.out (by have := good_sz HGG.out.1; have := HGG.out.2; have := HFN.out; omega))
      go_wp2_with fail
      refine HC.out.mono ?_
      rintro e w4 ⟨u', rfl, hu, hb⟩
      obtain ⟨uA, uC, rfl⟩ := hu.at.slice
      have HU4 := Lib.hid hu
      have HSZ := Lib.hid hb.size
      have HRB := Lib.hid (HR.out.read hb)
      have HW3 := Lib.hid HW.out.size
      have HRL := Lib.hid HR.out.le
      replace HW := Lib.hid (belowOn HW.out (Nat.le_refl _) hb)
      clear c0 c1 c2 c3 z0 hu hb HC HX HU HR
      obtain ⟨r0, r1, r2, r3, rf⟩ := box_cells HRB.out.now
      go_wp2
      exact oldTm2_end (t := r) (C := iv w3.heap.size w4.heap.size) (p := 2) (q := 3) (b := w.heap.size) rfl rfl rfl rfl rfl rfl rfl Try.underlying25 (by kernel_rfl) HRB.out.now HW.out (Nat.le_refl _) (fun h => by have := h.1; have := HRL.out; omega) (fun k h => ⟨by have := h.1; have := HW3.out; omega, h.2⟩) HU4.out
end Go.Proofs.Ytoihimdfmncdoaa

