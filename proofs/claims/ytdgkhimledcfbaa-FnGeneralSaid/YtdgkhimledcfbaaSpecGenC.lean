/-
  The model's l06Gen and Generalize.
-/
import Derived.Test.YtdgkhimledcfbaaSpecGenB
import Derived.Test.YtdgkhimledcfbaaListOk
namespace Go.Proofs.Ytdgkhimledcfbaa
open Go.RowKit
set_option linter.unusedVariables false
set_option linter.unusedSimpArgs false

theorem allPair_same {l : List Tm} {f : Tm} (hf : l[0]? = some f) (hg : ∀ t ∈ l, Good t) (h : AllPair l) : SameP f l ∧ f.kind = 4 := by
  have hfm := List.mem_of_getElem? hf
  have h4 := h f hfm
  refine ⟨⟨by omega, fun t ht => ?_⟩, h4⟩
  have h5 := h t ht
  obtain ⟨a1, a2⟩ := pair_fields (hg f hfm) h4
  obtain ⟨b1, b2⟩ := pair_fields (hg t ht) h5
  exact ⟨by rw [h4, h5], by rw [a1, b1], by rw [a2, b2]⟩
theorem same_pair {l : List Tm} {f : Tm} (h : SameP f l) (h4 : f.kind = 4) : AllPair l := fun t ht => by rw [(h.2 t ht).1]; exact h4
theorem same_atom {l : List Tm} {f : Tm} (hf : l[0]? = some f) (hg : ∀ t ∈ l, Good t) (h : SameP f l) (h4 : ¬ f.kind = 4) : ¬ AllPair l ∧ OneAtom l := by
  have hfm := List.mem_of_getElem? hf
  refine ⟨fun h' => h4 (h' f hfm), f, by rw [List.head?_eq_getElem?]; exact hf, h.1, fun t ht => leaf_eq (hg t ht) (hg f hfm) (by rw [(h.2 t ht).1]; exact h4) (h.2 t ht)⟩
theorem atom_same {l : List Tm} {f : Tm} (hf : l[0]? = some f) (h : OneAtom l) : SameP f l := by
  obtain ⟨g, hg, h1, h2⟩ := h
  rw [List.head?_eq_getElem?, hf] at hg
  cases hg
  exact ⟨h1, fun t ht => by rw [h2 t ht]; exact ⟨rfl, rfl, rfl⟩⟩
theorem genF_atom {n : Nat} {l : List Tm} {k : List (List Tm)} {f : Tm} (hf : l[0]? = some f) (hg : ∀ t ∈ l, Good t) (h : SameP f l) (h4 : ¬ f.kind = 4) : genF (n + 1) l k = (f, k) := by
  obtain ⟨h1, h2⟩ := same_atom hf hg h h4
  rw [genF, if_neg h1, if_pos h2, List.headD_eq_head?_getD, List.head?_eq_getElem?, hf]
  rfl
theorem genF_var {n : Nat} {l : List Tm} {k : List (List Tm)} {f : Tm} (hf : l[0]? = some f) (hg : ∀ t ∈ l, Good t) (h : ¬ SameP f l) : genF (n + 1) l k = (.mk 1 (idxL k l) ⟨#[]⟩ [], kAdd k l) := by
  rw [genF, if_neg fun h' => h (allPair_same hf hg h').1, if_neg fun h' => h (atom_same hf h')]
theorem genF_pair {n : Nat} {l : List Tm} {k : List (List Tm)} (h : AllPair l) : genF (n + 1) l k = (.mk 4 0 ⟨#[]⟩ [(genF n (l.map headT) k).1, (genF n (l.map tailT) (genF n (l.map headT) k).2).1], (genF n (l.map tailT) (genF n (l.map headT) k).2).2) := by
  rw [genF, if_pos h]
theorem idx_le {k : List (List Tm)} {l : List Tm} : idxL k l ≤ k.length := by
  by_cases h : l ∈ k
  · have := (List.getElem?_eq_some_iff.1 (idx_in h).1).1; omega
  · rw [idx_out h]; exact Nat.le_refl _
theorem gen_good (n : Nat) : ∀ (l : List Tm) (k : List (List Tm)) (f : Tm), l[0]? = some f → (∀ t ∈ l, Good t) → f.nodes ≤ n → k.length + f.nodes ≤ 100000 → Good (genF n l k).1 ∧ (genF n l k).1.nodes ≤ f.nodes := by
  induction n with
  | zero => intro l k f _ _ h; have := nodes_pos f; omega
  | succ n ih =>
    intro l k f hf hg hn hk
    have hp := nodes_pos f
    have hfm := List.mem_of_getElem? hf
    by_cases hs : SameP f l
    · by_cases h4 : f.kind = 4
      · have h := same_pair hs h4
        have hparts : ∀ t ∈ l, Good (headT t) ∧ Good (tailT t) := fun t ht => by
          obtain ⟨x, y, rfl, hx, hy⟩ := good_pair (hg t ht) (h t ht)
          exact ⟨hx, hy⟩
        obtain ⟨x, y, hxy, hx, hy⟩ := good_pair (hg f hfm) h4
        have g1 : ∀ t ∈ l.map headT, Good t := fun t ht => by obtain ⟨u, hu, rfl⟩ := List.mem_map.1 ht; exact (hparts u hu).1
        have g2 : ∀ t ∈ l.map tailT, Good t := fun t ht => by obtain ⟨u, hu, rfl⟩ := List.mem_map.1 ht; exact (hparts u hu).2
        have e1 : (l.map headT)[0]? = some x := by rw [List.getElem?_map, hf, hxy]; rfl
        have e2 : (l.map tailT)[0]? = some y := by rw [List.getElem?_map, hf, hxy]; rfl
        have h3 : f.nodes = 1 + (x.nodes + y.nodes) := by rw [hxy, nodes_eq]; show 1 + nodesL [x, y] = _; rw [nodesL, nodesL, nodesL]; omega
        have hl := gen_len n (l.map headT) k x e1 g1
        obtain ⟨a1, a2⟩ := ih (l.map headT) k x e1 g1 (by omega) (by omega)
        obtain ⟨b1, b2⟩ := ih (l.map tailT) (genF n (l.map headT) k).2 y e2 g2 (by omega) (by omega)
        rw [genF_pair h]
        refine ⟨.pair _ _ a1 b1, ?_⟩
        rw [nodes_eq]
        show 1 + nodesL [_, _] ≤ _
        rw [nodesL, nodesL, nodesL]
        omega
      · rw [genF_atom hf hg hs h4]; exact ⟨hg f hfm, Nat.le_refl _⟩
    · rw [genF_var hf hg hs]
      have := @idx_le k l
      refine ⟨.var _ (by omega) (by omega), ?_⟩
      rw [nodes_eq]
      show 1 + nodesL [] ≤ _
      rw [nodesL]
      exact hp
def GzOk (l : List Tm) : Prop := (1 ≤ l.length ∧ l.length ≤ 40) ∧ l.all okB = true
open Classical in
noncomputable def gzT (l : List Tm) : Tm := if GzOk l then (genF 5000 l []).1 else zeroTm
open Classical in
noncomputable def gzB (l : List Tm) : Bool := decide (GzOk l)
theorem gz_no {l : List Tm} (h : ¬ GzOk l) : gzT l = zeroTm ∧ gzB l = false := ⟨by rw [gzT, if_neg h], by unfold gzB; simp [h]⟩
theorem gz_yes {l : List Tm} (h : GzOk l) : gzT l = (genF 5000 l []).1 ∧ gzB l = true := ⟨by rw [gzT, if_pos h], by unfold gzB; simp [h]⟩
theorem gz_first {l : List Tm} (h : GzOk l) : ∃ f, l[0]? = some f ∧ f.nodes ≤ 5000 ∧ ∀ t ∈ l, Good t := by
  have h1 := h.1.1
  have ha : ∀ x ∈ l, Ok x := fun x hx => okB_true.1 (List.all_eq_true.1 h.2 x hx)
  exact ⟨l[0], List.getElem?_eq_getElem (by omega), (ha _ (List.getElem_mem _)).1, fun t ht => (ha t ht).2⟩
theorem gz_ok (l : List Tm) : Ok (gzT l) := by
  by_cases h : GzOk l
  · obtain ⟨f, hf, hn, hg⟩ := gz_first h
    rw [(gz_yes h).1]
    obtain ⟨h1, h2⟩ := gen_good 5000 l [] f hf hg hn (by simp; omega)
    exact ⟨by omega, h1⟩
  · rw [(gz_no h).1]
    exact ⟨by decide, .nil⟩
theorem gz_sz (l : List Tm) : (gzT l).sz ≤ 1048576 := by have h := gz_ok l; have := good_sz h.2; have := h.1; omega
def In40 (n : Int) (e : Ending) : Prop := ∃ b, e = .returned (.bool b) ∧ (b = true ↔ 1 ≤ n ∧ n ≤ 40)
theorem in40_any (n : Int) (w : World) : Calls Try.prog 149 #[.int .i64 n, .int .i64 1, .int .i64 40] w fun e w' => In40 n e ∧ w = w' := by
  by_cases h0 : 1 ≤ n
  · by_cases h1 : n ≤ 40
    · have HI := Lib.hid (And.intro h0 h1)
      go_enter Try.func149, Try.ntmps149
      go_wp2
      go_ret
      exact ⟨⟨true, rfl, ⟨fun _ => HI.out, fun _ => rfl⟩⟩, rfl⟩
    · have HI := Lib.hid h1
      go_enter Try.func149, Try.ntmps149
      go_wp2
      go_ret
      exact ⟨⟨false, rfl, ⟨fun h => (by cases h), fun h => (by have := HI.out; have := h.2; omega)⟩⟩, rfl⟩
  · have HI := Lib.hid h0
    go_enter Try.func149, Try.ntmps149
    go_wp2
    go_ret
    exact ⟨⟨false, rfl, ⟨fun h => (by cases h), fun h => (by have := HI.out; have := h.1; omega)⟩⟩, rfl⟩

end Go.Proofs.Ytdgkhimledcfbaa

