/-
  The model's l02CmpAll and l06Gen. (Written by wip/tools/gen_specgen.py.)
-/
import Derived.Test.YtdgkhimledcfbaaGenP
import Derived.Test.YtdgkhimledcfbaaPuts
import Derived.BigQuiet
import Derived.Deep.AppendLies
namespace Go.Proofs.Ytdgkhimledcfbaa
open Go.RowKit
set_option linter.unusedVariables false
set_option linter.unusedSimpArgs false

theorem infoTermL : (Try.prog.info? 23).map (fun i => (i.zero, i.size, i.bytes)) = some (some (.slice none 0 0), 1, 24) := by kernel_rfl
/-- Blocks that are there, neither the row v nor one that is kept away. -/
def Oth (X : Nat → Prop) (w : World) (v : Value) (b : Nat) : Prop := b < w.heap.size ∧ v.ownBlock ≠ some b ∧ ¬ X b
/-- An own row of lists of parts that can be read without it. -/
def KnR (X : Nat → Prop) (w : World) (v : Value) (k : List (List Tm)) : Prop :=
  ∃ L : List (List Tm × Value), L.map Prod.fst = k ∧ Row w 0 23 v (L.map Prod.snd) ∧ ∀ (j : Nat) (p : List Tm × Value), L[j]? = some p → ArgsS w (Oth X w v) p.2 p.1 ∧ (∀ t ∈ p.1, Good t) ∧ szL p.1 ≤ 1048576
theorem KnR.frame {X X' : Nat → Prop} {w w' : World} {v : Value} {k : List (List Tm)} (h : KnR X w v k) (hs : w.heap.size ≤ w'.heap.size) (hb : ∀ j, j < w.heap.size → v.ownBlock = some j ∨ Oth X w v j → w'.heap[j]? = w.heap[j]?) (hX : ∀ j, j < w.heap.size → X' j → X j) : KnR X' w' v k := by
  obtain ⟨L, hL, hrow, hch⟩ := h
  refine ⟨L, hL, rowE_moved hrow fun j hj => hb j (World.ownsRow.lt hrow j hj).2 (.inl hj), fun j p hj => ?_⟩
  obtain ⟨h1, h2⟩ := hch j p hj
  exact ⟨(h1.frame hs fun j hj hlt => hb j hlt (.inr hj)).sub fun j hj => ⟨Nat.lt_of_lt_of_le hj.1 hs, hj.2.1, fun h => hj.2.2 (hX j hj.1 h)⟩, h2⟩
theorem KnR.kept {X : Nat → Prop} {w w' : World} {v : Value} {k : List (List Tm)} (h : KnR X w v k) (hb : Below w.heap.size w w') : KnR X w' v k := h.frame hb.size (fun j hj _ => hb.block j hj) fun _ _ h => h
theorem KnR.lt {X : Nat → Prop} {w : World} {v : Value} {k : List (List Tm)} (h : KnR X w v k) : ∀ j, v.ownBlock = some j → j < w.heap.size := by
  obtain ⟨L, hL, hrow, hch⟩ := h
  exact fun j hj => (World.ownsRow.lt hrow j hj).2
theorem KnR.slice {X : Nat → Prop} {w : World} {v : Value} {k : List (List Tm)} (h : KnR X w v k) : ∃ a c, v = .slice a k.length c := by
  obtain ⟨L, rfl, hrow, hch⟩ := h
  rcases hrow.2 with ⟨rfl, hn⟩ | ⟨g, cap, cur, rfl, _⟩
  · rw [List.length_map] at hn ⊢
    rw [hn]
    exact ⟨_, _, rfl⟩
  · rw [List.length_map, List.length_map]
    exact ⟨_, _, rfl⟩
theorem knR_nil (X : Nat → Prop) (w : World) : KnR X w (.slice none 0 0) [] := ⟨[], rfl, ⟨rfl, .inl ⟨rfl, rfl⟩⟩, fun j p hj => by simp at hj⟩
theorem KnR.elem {X : Nat → Prop} {w : World} {a : Option Addr} {n c : Nat} {k : List (List Tm)} (h : KnR X w (.slice a n c) k) {j : Nat} {x : List Tm} (hj : k[j]? = some x) :
    ∃ (g : Nat) (U : Option Addr × Nat), a = some ⟨g, 0, none⟩ ∧ n = k.length ∧ g < w.heap.size ∧ (∀ W, Below w.heap.size w W → W.cell? ⟨g, j, none⟩ = some (.slice U.1 x.length U.2)) ∧ ArgsS w (Oth X w (.slice a n c)) (.slice U.1 x.length U.2) x ∧ (∀ t ∈ x, Good t) ∧ szL x ≤ 1048576 := by
  obtain ⟨L, rfl, hrow, hch⟩ := h
  have hjl : j < L.length := by have := (List.getElem?_eq_some_iff.1 hj).1; simpa using this
  obtain ⟨p, hp⟩ : ∃ p, L[j]? = some p := ⟨_, List.getElem?_eq_getElem hjl⟩
  have hx : p.1 = x := by rw [List.getElem?_map, hp] at hj; simpa using hj
  obtain ⟨h1, h2, h3⟩ := hch j p hp
  obtain ⟨ua, uc, hU⟩ := h1.at.slice
  subst hx
  obtain ⟨g, cap, hv, _, hg, _, _, hc, _⟩ := Row.at hrow (by intro h; rw [List.map_eq_nil_iff] at h; rw [h] at hjl; simp at hjl)
  simp only [Value.slice.injEq] at hv
  obtain ⟨rfl, rfl, rfl⟩ := hv
  refine ⟨g, (ua, uc), rfl, by simp, hg, fun W hW => ?_, by rw [hU] at h1; exact h1, h2, h3⟩
  rw [← hU]
  exact (hW.cell (p := ⟨g, j, none⟩) hg).trans (hc j p.2 (by rw [List.getElem?_map, hp]; rfl))
theorem knR_append {X : Nat → Prop} {w W1 w1 : World} {v u : Value} {L : List (List Tm × Value)} {x : List Tm} {gg cap n : Nat} (hn : n = L.length)
    (hlt : ∀ j, v.ownBlock = some j → j < w.heap.size)
    (hch : ∀ (j : Nat) (p : List Tm × Value), L[j]? = some p → ArgsS w (Oth X w v) p.2 p.1 ∧ (∀ t ∈ p.1, Good t) ∧ szL p.1 ≤ 1048576)
    (hu : ArgsS w (Oth X w v) u x) (hg : ∀ t ∈ x, Good t) (hz : szL x ≤ 1048576) (hW : Below w.heap.size w W1)
    (hown : w1.ownsRow 0 23 1 (.slice (some ⟨gg, 0, none⟩) (n + 1) cap) (n + 1) (L.map Prod.snd ++ [u])) (hgr : W1.grownBy w1 v.ownBlock) (hat : v.ownBlock = some gg ∨ w.heap.size ≤ gg) :
    KnR X w1 (.slice (some ⟨gg, 0, none⟩) (n + 1) cap) (L.map Prod.fst ++ [x]) ∧ Only (fun b => v.ownBlock = some b) w w1 ∧ ∀ b, (Value.slice (some ⟨gg, 0, none⟩) (n + 1) cap).ownBlock = some b → v.ownBlock = some b ∨ w.heap.size ≤ b := by
  subst hn
  have hs : w.heap.size ≤ w1.heap.size := Nat.le_trans hW.size hgr.size
  have same : ∀ j, j < w.heap.size → v.ownBlock ≠ some j → w1.heap[j]? = w.heap[j]? := fun j hj hne => (hgr.block j (Nat.lt_of_lt_of_le hj hW.size) (fun e => hne e.symm)).trans (hW.block j hj)
  have hgg : ∀ b, (Value.slice (some ⟨gg, 0, none⟩) (L.length + 1) cap).ownBlock = some b → v.ownBlock = some b ∨ w.heap.size ≤ b := fun b hb => by
    have e : gg = b := by simpa [Value.ownBlock] using hb
    subst e
    exact hat
  have one : ∀ (U : Value) (y : List Tm), ArgsS w (Oth X w v) U y → ArgsS w1 (Oth X w1 (.slice (some ⟨gg, 0, none⟩) (L.length + 1) cap)) U y := fun U y hy =>
    (hy.frame hs fun j hj hlt => same j hlt hj.2.1).sub fun j hj => ⟨Nat.lt_of_lt_of_le hj.1 hs, fun e => by
      rcases hgg j e with h | h
      · exact hj.2.1 h
      · have := hj.1; omega, hj.2.2⟩
  refine ⟨⟨L ++ [(x, u)], by simp, by
    show w1.ownsRow 0 _ 1 _ ((L ++ [(x, u)]).map Prod.snd).length ((L ++ [(x, u)]).map Prod.snd)
    simpa using hown, fun j p hj => ?_⟩, ⟨hgr.os.trans hW.os, hgr.tape.trans hW.tape, hgr.output.trans hW.output, hs, fun j hj hn => same j hj hn⟩, hgg⟩
  by_cases hjl : j < L.length
  · rw [List.getElem?_append_left hjl] at hj
    obtain ⟨c1, c2⟩ := hch j p hj
    exact ⟨one _ _ c1, c2⟩
  · have hj' : j = L.length := by
      have := (List.getElem?_eq_some_iff.1 hj).1
      simp at this
      omega
    subst hj'
    rw [List.getElem?_append_right (Nat.le_refl _), Nat.sub_self] at hj
    simp at hj
    subst hj
    exact ⟨one _ _ hu, hg, hz⟩
/-- A row of terms that the call owns, their arguments in S. -/
def RowG (S : Nat → Prop) (w : World) (lo : Nat) (v : Value) (xs : List Tm) : Prop :=
  ∃ L : List (Tm × Value), L.map Prod.fst = xs ∧ w.ownsRow lo 25 4 v L.length (cellsL L) ∧ ∀ (j : Nat) (p : Tm × Value), L[j]? = some p → ArgsS w S p.2 p.1.args
theorem RowG.slice {S : Nat → Prop} {w : World} {lo : Nat} {v : Value} {xs : List Tm} (h : RowG S w lo v xs) : ∃ a c, v = .slice a xs.length c := by
  obtain ⟨L, rfl, h, _⟩ := h
  rw [List.length_map]
  exact row_slice h
theorem RowG.block {S : Nat → Prop} {w : World} {lo : Nat} {v : Value} {xs : List Tm} (h : RowG S w lo v xs) : ∀ k, v.ownBlock = some k → lo ≤ k ∧ k < w.heap.size := by
  obtain ⟨L, _, h, _⟩ := h
  exact fun k hk => World.ownsRow.lt h k hk
theorem RowG.grown {S : Nat → Prop} {w w' : World} {lo : Nat} {v : Value} {xs : List Tm} {row : Option Nat} (h : RowG S w lo v xs) (hS : ∀ k, S k → k < lo) (hg : w.grownBy w' row) (hne : v.ownBlock = none ∨ v.ownBlock ≠ row) (hr : ∀ k, row = some k → lo ≤ k) : RowG S w' lo v xs := by
  obtain ⟨L, h1, h2, h3⟩ := h
  exact ⟨L, h1, h2.kept hg hne, fun j p hj => (h3 j p hj).frame hg.size fun k hk hks => hg.block k hks fun e => by have := hr k e.symm; have := hS k hk; omega⟩
theorem RowG.kept {S : Nat → Prop} {w w' : World} {lo : Nat} {v : Value} {xs : List Tm} (h : RowG S w lo v xs) (hb : Below w.heap.size w w') : RowG S w' lo v xs := by
  obtain ⟨L, h1, h2, h3⟩ := h
  exact ⟨L, h1, rowE_moved h2 fun k hk => hb.block k (World.ownsRow.lt h2 k hk).2, fun j p hj => (h3 j p hj).kept hb⟩
theorem RowG.args {S S' : Nat → Prop} {w : World} {lo : Nat} {v : Value} {xs : List Tm} (h : RowG S w lo v xs) (hS : ∀ k, S k → S' k) (hv : ∀ k, v.ownBlock = some k → S' k) : ArgsS w S' v xs := by
  obtain ⟨L, rfl, hrow, hch⟩ := h
  exact argsS_row hrow hv fun j p hj => (hch j p hj).sub hS
theorem rowG_append {S : Nat → Prop} {w W1 w1 : World} {lo : Nat} {v u : Value} {L : List (Tm × Value)} {x : Tm} {gg cap n : Nat} (hn : n = L.length) (hlo : lo ≤ w.heap.size) (hS : ∀ k, S k → k < lo)
    (hch : ∀ (j : Nat) (p : Tm × Value), L[j]? = some p → ArgsS w S p.2 p.1.args) (hu : ArgsS w S u x.args) (hv : ∀ k, v.ownBlock = some k → lo ≤ k) (hW : Below w.heap.size w W1)
    (hown : w1.ownsRow lo 25 4 (.slice (some ⟨gg, 0, none⟩) (n + 1) cap) (n + 1) (cellsL L ++ cells4 x u)) (hgr : W1.grownBy w1 v.ownBlock) :
    RowG S w1 lo (.slice (some ⟨gg, 0, none⟩) (n + 1) cap) (L.map Prod.fst ++ [x]) := by
  subst hn
  have hs : w.heap.size ≤ w1.heap.size := Nat.le_trans hW.size hgr.size
  have same : ∀ j, j < lo → w1.heap[j]? = w.heap[j]? := fun j hj => (hgr.block j (by have := hW.size; omega) (fun e => by have := hv j e.symm; omega)).trans (hW.block j (by omega))
  have e1 : cellsL (L ++ [(x, u)]) = cellsL L ++ cells4 x u := by rw [cellsL_append]; simp [cellsL]
  rw [← e1] at hown
  refine ⟨L ++ [(x, u)], by simp, by simpa using hown, fun j p hj => ?_⟩
  by_cases hjl : j < L.length
  · rw [List.getElem?_append_left hjl] at hj
    exact (hch j p hj).frame hs fun k hk _ => same k (hS k hk)
  · have hj' : j = L.length := by
      have := (List.getElem?_eq_some_iff.1 hj).1
      simp at this
      omega
    subst hj'
    rw [List.getElem?_append_right (Nat.le_refl _), Nat.sub_self] at hj
    simp at hj
    subst hj
    exact hu.frame hs fun k hk _ => same k (hS k hk)
theorem rowG_start {S : Nat → Prop} {w : World} {lo : Nat} (hl : lo ≤ w.heap.size) : RowG S (w.alloc (.cells #[] 25)) lo (.slice (some ⟨w.heap.size, 0, none⟩) 0 0) [] :=
  ⟨[], rfl, ⟨by simp [cellsL], .inr ⟨w.heap.size, 0, #[], rfl, hl, heap_new w _, Nat.le_refl _, Nat.zero_le _, by simp, by simp [cellsL]⟩⟩, fun j p hj => by simp at hj⟩
/-- What l06Gen answers: a term and what is known now; nothing old is written but the row. -/
def GenR (X : Nat → Prop) (t : Tm) (k' : List (List Tm)) (Vk : Value) (w : World) (e : Ending) (w' : World) : Prop :=
  ∃ u V, e = .returned (.tuple #[.agg #[.int .i64 t.kind, .int .i64 t.num, .string t.name, u], V]) ∧ KnR X w' V k' ∧ ArgsS w' (Oth X w' V) u t.args ∧ Only (fun b => Vk.ownBlock = some b) w w' ∧ ∀ b, V.ownBlock = some b → Vk.ownBlock = some b ∨ w.heap.size ≤ b
theorem gen_end {P : Program} {fn : Func} {X : Nat → Prop} {t : Tm} {k' : List (List Tm)} {k i : Int} {s : ByteArray} {Vk V : Value} {w wE : World} {a : Act} {p q : Tmp} {x0 x1 x2 x3 u : Value} {fs : Array Field} (h1 : t.kind = k) (h2 : t.num = i) (h3 : t.name = s) (h : fn.results = #[.cell p 25, .tmp q]) (hp : a.tmps.getD p undef = .pointer (some ⟨w.heap.size, 0, none⟩)) (hq : a.tmps.getD q undef = V) (hd : a.defers = [])
    (hu : P.underlying 25 = some (.struct fs)) (hi : (P.info? 25).map (·.size) = some 4) (hb : wE.heap[w.heap.size]? = some (Obj.cells #[x0, x1, x2, x3] 25))
    (hlt : ∀ j, Vk.ownBlock = some j → j < w.heap.size) (hO : Only (fun b => Vk.ownBlock = some b) w wE) (hV : ∀ b, V.ownBlock = some b → Vk.ownBlock = some b ∨ w.heap.size < b)
    (hK : KnR (fun c => X c ∨ c = w.heap.size) wE V k') (hA : ArgsS wE (Oth (fun c => X c ∨ c = w.heap.size) wE V) u t.args) :
    bodyPost P fn (GenR X t k' Vk w) .ret a ((((wE.setCell ⟨w.heap.size, 0, none⟩ (.int .i64 k)).setCell ⟨w.heap.size, 1, none⟩ (.int .i64 i)).setCell ⟨w.heap.size, 2, none⟩ (.string s)).setCell ⟨w.heap.size, 3, none⟩ u) := by
  subst h1
  subst h2
  subst h3
  refine bodyPost_four2 h hp hq hd hu rfl hi hb fun w' hw => ⟨_, V, rfl, ?_, ?_, ?_, ?_⟩
  · refine hK.frame hw.size (fun j hj hc => hw.block j hj fun e => ?_) fun j _ h => .inl h
    subst e
    rcases hc with hc | hc
    · rcases hV _ hc with h | h
      · have := hlt _ h; omega
      · omega
    · exact hc.2.2 (.inr rfl)
  · refine (hA.frame hw.size fun j hj hlt => hw.block j hlt fun e => hj.2.2 (.inr e)).sub fun j hj => ⟨Nat.lt_of_lt_of_le hj.1 hw.size, hj.2.1, fun h => hj.2.2 (.inl h)⟩
  · exact ⟨hw.os.trans hO.os, hw.tape.trans hO.tape, hw.output.trans hO.output, Nat.le_trans hO.size hw.size, fun j hj hn => (hw.block j (Nat.lt_of_lt_of_le hj hO.size) (fun e => by omega)).trans (hO.block j hj hn)⟩
  · exact fun b hb => (hV b hb).imp id Nat.le_of_lt
/-- All are no variables and alike in their own fields. -/
def SameP (f : Tm) (l : List Tm) : Prop := ¬ f.kind = 1 ∧ ∀ t ∈ l, t.kind = f.kind ∧ t.num = f.num ∧ t.name = f.name
theorem same_snoc {f x : Tm} {l : List Tm} {k : Nat} (hx : l[k]? = some x) : SameP f (l.take (k + 1)) ↔ SameP f (l.take k) ∧ (x.kind = f.kind ∧ x.num = f.num ∧ x.name = f.name) := by
  rw [take_snoc hx]
  unfold SameP
  constructor
  · intro ⟨h1, h2⟩
    exact ⟨⟨h1, fun t ht => h2 t (List.mem_append_left _ ht)⟩, h2 x (by simp)⟩
  · intro ⟨⟨h1, h2⟩, h3⟩
    refine ⟨h1, fun t ht => ?_⟩
    rcases List.mem_append.1 ht with ht | ht
    · exact h2 t ht
    · rw [List.mem_singleton.1 ht]; exact h3
end Go.Proofs.Ytdgkhimledcfbaa

