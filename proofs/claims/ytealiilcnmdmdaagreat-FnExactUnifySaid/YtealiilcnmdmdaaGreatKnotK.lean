/-
  The program's solver in memory: a knot more, its parts laid, an equation pushed or popped, a variable bound.
-/
import Derived.Test.YtealiilcnmdmdaaGreatKnotW
namespace Go.Proofs.YtealiilcnmdmdaaGreat
open Go.RowKit
set_option linter.unusedVariables false
set_option linter.unusedSimpArgs false

theorem HeadC.ne {w0 w : World} {p : Nat} {s : St} {mb : Nat} {SV : Value} {xs : List Value} {n : Nat} (h : HeadC w0 p s mb SV xs n w) {b : Nat} (hb : isK w.heap[b]?) : ¬ b = p ∧ ¬ b = mb ∧ ¬ SV.ownBlock = some b := by
  obtain ⟨cs, hb⟩ := hb
  refine ⟨fun e => ?_, fun e => ?_, fun e => ?_⟩
  · subst e
    exact absurd (cells_inj hb h.cell).2 (by decide)
  · subst e
    obtain ⟨es, c, hm⟩ := h.map.block
    rw [hb] at hm
    simp at hm
  · rcases h.row.2 with ⟨rfl, _⟩ | ⟨g, cap, cur, rfl, h1, h2, h3⟩
    · simp [Value.ownBlock] at e
    · have : g = b := by simpa [Value.ownBlock] using e
      subst this
      exact absurd (cells_inj hb h2).2 (by decide)
theorem HeadC.p_ne {w0 w : World} {p : Nat} {s : St} {mb : Nat} {SV : Value} {xs : List Value} {n : Nat} (h : HeadC w0 p s mb SV xs n w) : ¬ mb = p ∧ ¬ SV.ownBlock = some p ∧ ¬ SV.ownBlock = some mb := by
  obtain ⟨es, c, hm⟩ := h.map.block
  refine ⟨fun e => ?_, fun e => ?_, fun e => ?_⟩
  · subst e
    rw [h.cell] at hm
    simp at hm
  · rcases h.row.2 with ⟨rfl, _⟩ | ⟨g, cap, cur, rfl, h1, h2, h3⟩
    · simp [Value.ownBlock] at e
    · have : g = p := by simpa [Value.ownBlock] using e
      subst this
      exact absurd (cells_inj h.cell h2).2 (by decide)
  · rcases h.row.2 with ⟨rfl, _⟩ | ⟨g, cap, cur, rfl, h1, h2, h3⟩
    · simp [Value.ownBlock] at e
    · have : g = mb := by simpa [Value.ownBlock] using e
      subst this
      rw [h2] at hm
      simp at hm
theorem SolT.change {w0 w w' : World} {p : Nat} {s s' : St} {tie : Nat → Option Nat} (h : SolT w0 p s tie w) (hf : Fr isM w w') (hB : Below w0.heap.size w w') (hk : ∀ b ∈ s.D, w'.heap[b]? = w.heap[b]?)
    (hh : ∃ mb SV xs n, HeadC w0 p s' mb SV xs n w') (hD : s'.D = s.D) (htm : s'.tm = s.tm) (hre : s'.rep = s.rep) (hpa : s'.parts = s.parts) : SolT w0 p s' tie w' := by
  refine ⟨h.old.trans hB, by rw [hD]; exact h.tieD, by rw [hD, hre]; exact h.chain, fun b hb => ?_, h.plo, hh⟩
  rw [hD] at hb
  rw [htm, hpa]
  exact (h.knots b hb).keep hf (fun _ => not_isM (by decide) (by decide) (by decide)) (hk b hb)

/-! A knot more. -/
theorem chain_fresh {tie tie' : Nat → Option Nat} {D : List Nat} (hD : ∀ b ∈ D, ∀ c, tie b = some c → c ∈ D) (he : ∀ b ∈ D, tie' b = tie b) {x n r : Nat} (h : Chain tie x n r) : x ∈ D → Chain tie' x n r := by
  induction h with
  | nil h => intro hx; exact .nil ((he _ hx).trans h)
  | cons h _ ih => intro hx; exact .cons ((he _ hx).trans h) (ih (hD _ hx _ h))
theorem SolT.fresh {w0 w w' : World} {p : Nat} {s : St} {tie : Nat → Option Nat} (h : SolT w0 p s tie w) {b : Nat} {t : Tm} (hb : w.heap.size ≤ b) (hf : Fr isM w w') (hB : Below w0.heap.size w w') (hk : ∀ b ∈ s.D, w'.heap[b]? = w.heap[b]?)
    (hn : KnotC w0 w' b t none none) (hh : ∃ mb SV xs n, HeadC w0 p (newS s b t) mb SV xs n w') : SolT w0 p (newS s b t) (updN tie b none) w' ∧ ¬ b ∈ s.D := by
  have hbD : ¬ b ∈ s.D := fun hD => by have := (h.knots b hD).lt; omega
  have hne : ∀ x ∈ s.D, ¬ x = b := fun x hx e => hbD (e ▸ hx)
  have he : ∀ x ∈ s.D, updN tie b none x = tie x := fun x hx => updN_ne _ _ (hne x hx)
  refine ⟨⟨h.old.trans hB, fun x hx c hc => ?_, fun x hx => ?_, fun x hx => ?_, h.plo, hh⟩, hbD⟩
  · rcases List.mem_cons.1 hx with rfl | hx
    · rw [updN_self] at hc; cases hc
    · rw [he x hx] at hc; exact List.mem_cons_of_mem _ (h.tieD x hx c hc)
  · rcases List.mem_cons.1 hx with rfl | hx
    · rw [(new_self s x t).2.1]; exact ⟨0, .nil (updN_self _ _ _)⟩
    · rw [(new_old t hbD hx).2.1]
      obtain ⟨n, hn⟩ := h.chain x hx
      exact ⟨n, chain_fresh h.tieD he hn hx⟩
  · rcases List.mem_cons.1 hx with rfl | hx
    · rw [(new_self s x t).1, (new_self s x t).2.2, updN_self]; exact hn
    · rw [(new_old t hbD hx).1, (new_old t hbD hx).2.2, he x hx]
      exact (h.knots x hx).keep hf (fun _ => not_isM (by decide) (by decide) (by decide)) (hk x hx)
/-- A knot just laid. -/
theorem knot_laid {w0 w : World} {t : Tm} {a : Option Addr} {c : Nat} (hA : ArgsS w0 (fun k => k < w0.heap.size) (.slice a t.args.length c) t.args) (hlo : w0.heap.size ≤ w.heap.size) :
    KnotC w0 (w.alloc (.cells #[.pointer none, .int .i64 t.kind, .int .i64 t.num, .string t.name, .slice a t.args.length c, .slice none 0 0] 110)) w.heap.size t none none :=
  ⟨hlo, a, c, .slice none 0 0, heap_new w _, hA, rfl⟩
theorem KnotC.kept {w0 w w' : World} {b : Nat} {t : Tm} {tied : Option Nat} {parts : Option (Nat × Nat)} (h : KnotC w0 w b t tied parts) (hb : Below w.heap.size w w') : KnotC w0 w' b t tied parts :=
  h.keep (Fr.of_below hb : Fr Go.Proofs.YtealiilcnmdmdaaGreat.isK w w') (fun _ => not_isK (by decide)) (hb.block b h.lt)
/-- A knot that stands for no variable, or for one that the map has not. -/
theorem SolT.new_other {w0 w w' : World} {p : Nat} {s : St} {tie : Nat → Option Nat} (h : SolT w0 p s tie w) {b : Nat} {t : Tm} (hb : w.heap.size ≤ b) (hB : Below w.heap.size w w') (hn : KnotC w0 w' b t none none) (hk : ¬ t.kind = 1) : SolW w0 p (newS s b t) w' ∧ ¬ b ∈ s.D := by
  obtain ⟨mb, SV, xs, n, hh⟩ := h.head
  have h2 := hh.frame (Fr.of_below hB)
  have hM : (newS s b t).M = s.M := funext fun v => if_neg fun e => hk e.1
  obtain ⟨r1, r2⟩ := h.fresh hb (Fr.of_below hB) (hB.mono h.old.size) (fun x hx => hB.block x (h.knots x hx).lt) hn ⟨mb, SV, xs, n, ⟨h2.cell, h2.mlo, by rw [hM]; exact h2.map, Nat.le_succ_of_le h2.count, h2.row, h2.steps⟩⟩
  exact ⟨⟨_, r1⟩, r2⟩
theorem SolT.new_var {w0 w w1 w2 : World} {p : Nat} {s : St} {tie : Nat → Option Nat} (h : SolT w0 p s tie w) {mb : Nat} {SV : Value} {xs : List Value} {n : Nat} (hh : HeadC w0 p s mb SV xs n w) {b : Nat} {t : Tm} (hb : w.heap.size ≤ b) (hB : Below w.heap.size w w1) (hn : KnotC w0 w1 b t none none) (hk : t.kind = 1)
    (hg : w1.grownBy w2 (some mb)) (hm : MapK w2 mb (n + 1) (updK s.M t.num b)) : SolW w0 p (newS s b t) w2 ∧ ¬ b ∈ s.D ∧ Fr isP w w2 := by
  have h2 := hh.frame (Fr.of_below hB)
  have hM : (newS s b t).M = updK s.M t.num b := funext fun v => by
    show (if t.kind = 1 ∧ v = t.num then some b else s.M v) = if v = t.num then some b else s.M v
    by_cases e : v = t.num
    · rw [if_pos ⟨hk, e⟩, if_pos e]
    · rw [if_neg (fun q => e q.2), if_neg e]
  have hot : ∀ k, k < w1.heap.size → ¬ k = mb → w2.heap[k]? = w1.heap[k]? := fun k hk he => hg.block k hk fun e => he (by cases e; rfl)
  have hfp : Fr isP w1 w2 := ⟨hg.os, hg.tape, hg.output, hg.size, fun k hk hq => hot k hk fun e => hq (by rw [e]; exact h2.map.block)⟩
  have hf2 : Fr isM w1 w2 := hfp.wideP
  have hf : Fr isM w w2 := (Fr.of_below hB).trans hf2
  have hB2 : Below w0.heap.size w w2 := (hB.mono h.old.size).trans ⟨hg.os, hg.tape, hg.output, hg.size, fun k hk => hot k (Nat.lt_of_lt_of_le hk (Nat.le_trans h.old.size hB.size)) fun e => by have := h2.mlo; omega⟩
  have hne := h2.p_ne
  obtain ⟨r1, r2⟩ := h.fresh (t := t) hb hf hB2 (fun x hx => by
    have hx1 := (hB.block x (h.knots x hx).lt)
    have hlt : x < w1.heap.size := by
      obtain ⟨cs, e⟩ := (h.knots x hx).isK
      rw [← hx1] at e
      exact lt_of_cells e
    exact (hot x hlt (h2.ne (by rw [hx1]; exact (h.knots x hx).isK)).2.1).trans hx1)
    (hn.keep hf2 (fun _ => not_isM (by decide) (by decide) (by decide)) (hot b hn.lt (h2.ne hn.isK).2.1))
    ⟨mb, SV, xs, n + 1, ⟨(hot p (lt_of_cells h2.cell) (fun e => hne.1 e.symm)).trans h2.cell, h2.mlo, by rw [hM]; exact hm, Nat.succ_le_succ h2.count,
      rowT_kept h2.row (fun k cs hk => hot k (lt_of_cells hk) fun e => by obtain ⟨es, c, e2⟩ := h2.map.block; rw [e, e2] at hk; simp at hk), h2.steps.frame hf2⟩⟩
  exact ⟨⟨_, r1⟩, r2, (Fr.of_below hB).trans hfp⟩

/-! The parts of a knot laid. -/
theorem only_isK {w : World} {b o : Nat} {u : Value} (hb : isK w.heap[b]?) : Fr isK w (w.setCell ⟨b, o, none⟩ u) := Fr.one (only_one w b o u) hb
theorem SolT.part {w0 w : World} {p : Nat} {s : St} {tie : Nat → Option Nat} (h : SolT w0 p s tie w) {b x y g : Nat} (hb : b ∈ s.D) (hg : w.heap[g]? = some (.cells #[ptrN x, ptrN y] 90 (0, 0))) :
    SolT w0 p (partS s b x y) tie (w.setCell ⟨b, 5, none⟩ (.slice (some ⟨g, 0, none⟩) 2 2)) := by
  have hkb := h.knots b hb
  have ho := only_one w b 5 (.slice (some ⟨g, 0, none⟩) 2 2)
  have hf : Fr isK w (w.setCell ⟨b, 5, none⟩ (.slice (some ⟨g, 0, none⟩) 2 2)) := only_isK hkb.isK
  obtain ⟨mb, SV, xs, n, hh⟩ := h.head
  have hh' := hh.frame hf
  refine ⟨h.old.trans (ho.below (fun k e => by subst e; exact hkb.1) h.old.size), h.tieD, h.chain, fun c hc => ?_, h.plo, mb, SV, xs, n, ⟨hh'.cell, hh'.mlo, hh'.map, hh'.count, hh'.row, hh'.steps⟩⟩
  show KnotC w0 _ c (s.tm c) (tie c) (updN s.parts b (some (x, y)) c)
  by_cases e : c = b
  · subst e
    rw [updN_self]
    obtain ⟨h1, a, cc, PV, h2, h3, h4⟩ := hkb
    refine ⟨h1, a, cc, .slice (some ⟨g, 0, none⟩) 2 2, ?_, h3, g, rfl, hf.cells hg (not_isK (by decide))⟩
    have := heap_setCell_same w c 5 _ _ (.slice (some ⟨g, 0, none⟩) 2 2) h2
    simpa using this
  · rw [updN_ne _ _ e]
    exact (h.knots c hc).keep hf (fun _ => not_isK (by decide)) (ho.block c (h.knots c hc).lt e)

/-! The stack. -/
theorem Row.init {w : World} {base : Nat} {e : TypeId} {a : Option Addr} {n cap : Nat} {xs : List Value} {x : Value} (h : Row w base e (.slice a n cap) (xs ++ [x])) : Row w base e (.slice a xs.length cap) xs ∧ n = xs.length + 1 := by
  obtain ⟨h1, h2 | ⟨g, c, cur, e1, h2, h3, h4, h5, h6, h7⟩⟩ := h
  · simp at h2
  · simp only [Value.slice.injEq] at e1
    obtain ⟨rfl, rfl, rfl⟩ := e1
    have hn : (xs ++ [x]).length = xs.length + 1 := by simp
    refine ⟨⟨by simp, .inr ⟨g, cap, cur, rfl, h2, h3, by omega, h5, h6, ?_⟩⟩, hn⟩
    rw [hn] at h7
    have : (cur.toList.take ((xs.length + 1) * 1)).take (xs.length * 1) = xs := by rw [h7]; simp
    rw [List.take_take] at this
    rwa [Nat.min_eq_left (by omega)] at this
theorem StepsC.init {w : World} {p : Nat} {xs : List Value} {st : List (Nat × Nat)} {q : Nat × Nat} (h : StepsC w p xs (st ++ [q])) : ∃ ys v, xs = ys ++ [v] ∧ StepsC w p ys st ∧ StepC w p v q := by
  obtain ⟨h1, h2⟩ := h
  rcases List.eq_nil_or_concat xs with rfl | ⟨ys, v, rfl⟩
  · simp at h1
  · simp only [List.concat_eq_append] at h1 h2 ⊢
    have hl : ys.length = st.length := by simpa using h1
    refine ⟨ys, v, rfl, ⟨hl, fun j u r hu hr => ?_⟩, h2 ys.length v q (by simp) (by rw [hl]; simp)⟩
    have hj := (List.getElem?_eq_some_iff.1 hu).1
    exact h2 j u r (by rw [List.getElem?_append_left hj]; exact hu) (by rw [List.getElem?_append_left (by omega)]; exact hr)
theorem StepsC.snoc {w : World} {p : Nat} {xs : List Value} {st : List (Nat × Nat)} {q : Nat × Nat} {v : Value} (h : StepsC w p xs st) (hv : StepC w p v q) : StepsC w p (xs ++ [v]) (st ++ [q]) := by
  refine ⟨by simp [h.1], fun j u r hu hr => ?_⟩
  have hl := h.1
  by_cases hj : j < xs.length
  · rw [List.getElem?_append_left hj] at hu
    rw [List.getElem?_append_left (by omega)] at hr
    exact h.2 j u r hu hr
  · have hj2 := (List.getElem?_eq_some_iff.1 hu).1
    have : j = xs.length := by simp at hj2; omega
    subst this
    simp at hu
    rw [hl] at hr
    simp at hr
    subst hu hr
    exact hv
/-- The solver's block written. -/
theorem head_isM {w0 w : World} {p : Nat} {s : St} {mb : Nat} {SV : Value} {xs : List Value} {n : Nat} (h : HeadC w0 p s mb SV xs n w) : isM w.heap[p]? := .inr (.inl ⟨_, h.cell⟩)
theorem HeadC.written {w0 w : World} {p : Nat} {s s' : St} {mb : Nat} {SV SV' : Value} {xs ys : List Value} {n o : Nat} {u : Value} (h : HeadC w0 p s mb SV xs n w) (hr : Row w w0.heap.size 81 SV' ys) (hs : StepsC w p ys s'.steps) (hM : s'.M = s.M) (hD : s'.D = s.D)
    (hc : #[Value.map (some mb), .int .i64 s.bound, SV].setIfInBounds o u = #[.map (some mb), .int .i64 s'.bound, SV']) : HeadC w0 p s' mb SV' ys n (w.setCell ⟨p, o, none⟩ u) ∧ Fr isM w (w.setCell ⟨p, o, none⟩ u) := by
  have ho := only_one w p o u
  have hf : Fr isM w (w.setCell ⟨p, o, none⟩ u) := Fr.one ho (head_isM h)
  obtain ⟨es, c, hm⟩ := h.map.block
  refine ⟨⟨?_, h.mlo, by rw [hM]; exact h.map.frame (ho.block mb (lt_of_cells hm) h.p_ne.1), by rw [hD]; exact h.count, rowT_kept hr fun k cs hk => ho.block k (lt_of_cells hk) fun e => ?_, hs.frame hf⟩, hf⟩
  · have := heap_setCell_same w p o _ _ u h.cell
    rw [hc] at this
    exact this
  · subst e
    exact absurd (cells_inj hk h.cell).2 (by decide)
/-- The last equation taken from the stack. -/
theorem SolT.pop {w0 w : World} {p : Nat} {s : St} {tie : Nat → Option Nat} (h : SolT w0 p s tie w) {mb : Nat} {a : Option Addr} {m cap : Nat} {ys : List Value} {v : Value} {n : Nat} {r : List (Nat × Nat)} {q : Nat × Nat} (hs : s.steps = r ++ [q]) (hh : HeadC w0 p s mb (.slice a m cap) (ys ++ [v]) n w) (hst : StepsC w p ys r) :
    SolT w0 p (popS s r) tie (w.setCell ⟨p, 2, none⟩ (.slice a ys.length cap)) ∧ Fr isM w (w.setCell ⟨p, 2, none⟩ (.slice a ys.length cap)) := by
  obtain ⟨h1, h2⟩ := hh.written (s' := popS s r) (SV' := .slice a ys.length cap) (ys := ys) (o := 2) (u := .slice a ys.length cap) hh.row.init.1 hst rfl rfl rfl
  have ho := only_one w p 2 (.slice a ys.length cap)
  exact ⟨h.change h2 (ho.below (fun k e => by subst e; exact h.plo) h.old.size) (fun b hb => ho.block b (h.knots b hb).lt (hh.ne (h.knots b hb).isK).1) ⟨mb, _, _, n, h1⟩ rfl rfl rfl rfl, h2⟩
/-- An equation pushed: its closure on the stack that is or was the solver's. -/
theorem SolT.pushed {w0 w W w' : World} {p : Nat} {s : St} {tie : Nat → Option Nat} (h : SolT w0 p s tie w) {mb : Nat} {SV SV' : Value} {xs : List Value} {v : Value} {n x y : Nat} (hh : HeadC w0 p s mb SV xs n w) (hB : Below w.heap.size w W) (hg : W.grownBy w' SV.ownBlock) (hr : Row w' w0.heap.size 81 SV' (xs ++ [v])) (hv : StepC W p v (x, y)) :
    SolT w0 p (pushS s x y) tie (w'.setCell ⟨p, 2, none⟩ SV') ∧ Fr isM w (w'.setCell ⟨p, 2, none⟩ SV') := by
  have hhW := hh.frame (Fr.of_below hB)
  have hTW := h.kept hB
  have hf : Fr isM W w' := ⟨hg.os, hg.tape, hg.output, hg.size, fun k hk hq => hg.block k hk fun e => hq (by
    rcases hhW.row.2 with ⟨rfl, _⟩ | ⟨g, cap, cur, rfl, h1, h2, h3⟩
    · simp [Value.ownBlock] at e
    · have : k = g := by simpa [Value.ownBlock] using e
      subst this
      exact .inr (.inr (.inl ⟨_, h2⟩)))⟩
  have hot : ∀ k, k < W.heap.size → ¬ SV.ownBlock = some k → w'.heap[k]? = W.heap[k]? := fun k hk he => hg.block k hk fun e => he e.symm
  have hB0 : Below w0.heap.size W w' := ⟨hg.os, hg.tape, hg.output, hg.size, fun k hk => hot k (Nat.lt_of_lt_of_le hk hTW.old.size) fun e => by have := hhW.row.ge k e; omega⟩
  obtain ⟨es, c, hm⟩ := hhW.map.block
  have hh' : HeadC w0 p s mb SV' (xs ++ [v]) n w' → True := fun _ => trivial
  have hcell : w'.heap[p]? = some (.cells #[.map (some mb), .int .i64 s.bound, SV] 88 (0, 0)) := (hot p (lt_of_cells hhW.cell) hhW.p_ne.2.1).trans hhW.cell
  have hst := (hhW.steps.frame hf).snoc (hv.frame hf)
  have ho := only_one w' p 2 SV'
  have hpM : isM w'.heap[p]? := .inr (.inl ⟨_, hcell⟩)
  have hf2 : Fr isM w' (w'.setCell ⟨p, 2, none⟩ SV') := Fr.one ho hpM
  have hmlt : mb < w'.heap.size := Nat.lt_of_lt_of_le (lt_of_cells hm) hg.size
  have hmap : MapK w' mb n s.M := hhW.map.frame (hot mb (lt_of_cells hm) hhW.p_ne.2.2)
  have hhead : HeadC w0 p (pushS s x y) mb SV' (xs ++ [v]) n (w'.setCell ⟨p, 2, none⟩ SV') := by
    refine ⟨?_, hh.mlo, hmap.frame (ho.block mb hmlt hhW.p_ne.1), hh.count, rowT_kept hr fun k cs hk => ho.block k (lt_of_cells hk) fun e => ?_, hst.frame hf2⟩
    · have := heap_setCell_same w' p 2 _ _ SV' hcell
      simpa [pushS] using this
    · subst e
      exact absurd (cells_inj hk hcell).2 (by decide)
  have hfin : Fr isM W (w'.setCell ⟨p, 2, none⟩ SV') := hf.trans hf2
  refine ⟨hTW.change hfin (hB0.trans (ho.below (fun k e => by subst e; exact h.plo) (Nat.le_trans hTW.old.size hg.size))) (fun b hb => ?_) ⟨mb, SV', _, n, hhead⟩ rfl rfl rfl rfl, (Fr.of_below hB).trans hfin⟩
  have hk := (hTW.knots b hb)
  have hne := hhW.ne hk.isK
  exact (ho.block b (Nat.lt_of_lt_of_le hk.lt hg.size) hne.1).trans (hot b hk.lt hne.2.2)
/-- A variable bound, or a pair tied: the knot's tie, then the count. -/
theorem SolT.bound {w0 w : World} {p : Nat} {s : St} {tie : Nat → Option Nat} (h : SolT w0 p s tie w) {a b : Nat} (ha : a ∈ s.D) (hb : b ∈ s.D) (hra : s.rep a = a) (hrb : s.rep b = b) (hab : a ≠ b) :
    SolT w0 p (linkS s s.steps a b s.bound) (updN tie a (some b)) (w.setCell ⟨a, 0, none⟩ (ptrN b)) ∧ Fr isK w (w.setCell ⟨a, 0, none⟩ (ptrN b)) := by
  have root : ∀ {x}, x ∈ s.D → s.rep x = x → tie x = none := fun {x} hx e => by
    obtain ⟨n, hn⟩ := h.chain x hx
    rw [e] at hn
    exact hn.end
  refine ⟨h.tied ha hb rfl rfl rfl rfl rfl rfl fun x hx => ?_, only_isK (h.knots a ha).isK⟩
  obtain ⟨n, hn⟩ := h.chain x hx
  obtain ⟨m, hm⟩ := chain_link (root ha hra) (root hb hrb) hab hn
  exact ⟨m, by rw [link_rep]; exact hm⟩
theorem SolT.counted {w0 w : World} {p : Nat} {s : St} {tie : Nat → Option Nat} (h : SolT w0 p s tie w) :
    SolT w0 p { s with bound := s.bound + 1 } tie (w.setCell ⟨p, 1, none⟩ (.int .i64 ((s.bound : Int) + 1))) ∧ Fr isM w (w.setCell ⟨p, 1, none⟩ (.int .i64 ((s.bound : Int) + 1))) := by
  obtain ⟨mb, SV, xs, n, hh⟩ := h.head
  obtain ⟨h1, h2⟩ := hh.written (s' := { s with bound := s.bound + 1 }) (SV' := SV) (ys := xs) (o := 1) (u := .int .i64 ((s.bound : Int) + 1)) hh.row hh.steps rfl rfl (by simp)
  have ho := only_one w p 1 (.int .i64 ((s.bound : Int) + 1))
  exact ⟨h.change h2 (ho.below (fun k e => by subst e; exact h.plo) h.old.size) (fun b hb => ho.block b (h.knots b hb).lt (hh.ne (h.knots b hb).isK).1) ⟨mb, _, _, n, h1⟩ rfl rfl rfl rfl, h2⟩
end Go.Proofs.YtealiilcnmdmdaaGreat

