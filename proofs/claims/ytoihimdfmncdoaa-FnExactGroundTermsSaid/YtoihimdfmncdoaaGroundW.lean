/-
  GroundTerms, plain, and its walk's footprint. (Written by wip/tools/gen_implground.py.)
-/
import Derived.Test.YtoihimdfmncdoaaBuilt
import Derived.Test.YtoihimdfmncdoaaBinS
import Derived.Test.YtoihimdfmncdoaaInsertT
import Derived.Test.YtoihimdfmncdoaaEachCopied
import Derived.Test.YtoihimdfmncdoaaGroundOk
import Derived.Test.YtoihimdfmncdoaaFits
namespace Go.Proofs.Ytoihimdfmncdoaa
open Go.RowKit
set_option linter.unusedVariables false
set_option linter.unusedSimpArgs false

/-! ### plain -/
def OkS (S : List Tm) : Prop := S.length ≤ 512 ∧ ∀ t ∈ S, Ok t
theorem OkS.nil : OkS [] := ⟨by simp, fun _ h => by cases h⟩
def gtAll (u : List Tm) (n : Nat) : List Tm := (List.range n).flatMap fun i => bf u 5 (i + 1)
noncomputable def gtS (u : List Tm) (n : Nat) : List Tm := putsT [] (gtAll u n)
open Classical in
noncomputable def gtL (u : List Tm) (n : Int) : List Tm := if UniP u ∧ (1 ≤ n ∧ n ≤ 5) ∧ OkS (gtS u n.toNat) then gtS u n.toNat else []
theorem gtAll_succ (u : List Tm) (i : Nat) : gtAll u (i + 1) = gtAll u i ++ bf u 5 (i + 1) := by
  unfold gtAll
  rw [List.range_succ, List.flatMap_append, List.flatMap_singleton]
theorem gtS_succ (u : List Tm) (i : Nat) : gtS u (i + 1) = putsT (gtS u i) (bf u 5 (i + 1)) := by
  unfold gtS
  rw [gtAll_succ, putsT_append]
theorem okS_pre {S ts us : List Tm} (h : OkS (putsT S (ts ++ us))) : OkS (putsT S ts) := by
  rw [putsT_append] at h
  exact ⟨Nat.le_trans (putsT_ge us _) h.1, fun t ht => h.2 t ((putsT_mem us _).2 (.inl ht))⟩
theorem okS_le (u : List Tm) {i n : Nat} (h : i ≤ n) (hk : OkS (gtS u n)) : OkS (gtS u i) := by
  induction n with
  | zero => rwa [show i = 0 by omega]
  | succ n ih =>
    by_cases he : i = n + 1
    · rwa [he]
    · refine ih (by omega) ?_
      have h2 := hk
      rw [gtS_succ] at h2
      have h3 := okS_pre (S := gtS u n) (ts := []) (us := bf u 5 (n + 1)) (by rw [List.nil_append]; exact h2)
      rwa [putsT_nil] at h3
theorem okS_bad {u pre : List Tm} {i n : Nat} (hi : i < n) (hp : pre <+: bf u 5 (i + 1)) (h : ¬ OkS (putsT (gtS u i) pre)) : ¬ OkS (gtS u n) := fun hk => by
  have h2 := okS_le u (show i + 1 ≤ n by omega) hk
  rw [gtS_succ] at h2
  obtain ⟨r, hr⟩ := hp
  rw [← hr] at h2
  exact h (okS_pre h2)
theorem gtL_yes {u : List Tm} {n : Nat} (h : UniP u) (h1 : 1 ≤ n ∧ n ≤ 5) (hk : OkS (gtS u n)) : gtL u n = gtS u n := by
  unfold gtL
  rw [if_pos ⟨h, by omega, by simpa using hk⟩]
  simp
theorem gtL_bad {u : List Tm} {n : Nat} (hk : ¬ OkS (gtS u n)) : gtL u n = [] := by
  unfold gtL
  rw [if_neg]
  rintro ⟨_, _, h⟩
  exact hk (by simpa using h)
theorem gtL_no {u : List Tm} {n : Int} (h : ¬ (UniP u ∧ 1 ≤ n ∧ n ≤ 5)) : gtL u n = [] := by
  unfold gtL
  rw [if_neg]
  rintro ⟨h1, h2, _⟩
  exact h ⟨h1, h2⟩
theorem uni_good {u : List Tm} (h : UniP u) : ∀ t ∈ u, Good t := fun t ht => by
  obtain ⟨j, hj⟩ := List.getElem?_of_mem ht
  exact (h.2 j t hj).1.1.2
theorem bf_sz {u : List Tm} {M : Nat} (hu : ∀ t ∈ u, t.sz ≤ M) : ∀ (N s : Nat) (t : Tm), t ∈ bf u N s → t.sz ≤ s * (M + 2)
  | 0, _, t, h => by cases h
  | N + 1, s, t, h => by
    rw [bf] at h
    split at h
    · rename_i hs
      rw [hs]
      have := hu t h
      omega
    · simp only [List.mem_flatMap, List.mem_map, List.mem_range] at h
      obtain ⟨i, hi, a, ha, b, hb, rfl⟩ := h
      have h1 := bf_sz hu N _ a ha
      have h2 := bf_sz hu N _ b hb
      have h3 : (pairT a b).sz = 2 + a.sz + b.sz := by
        show (⟨#[]⟩ : ByteArray).size + szL [a, b] = _
        rw [show (⟨#[]⟩ : ByteArray).size = 0 from rfl]
        simp [szL]
        omega
      rw [h3]
      have h4 : (s - 2 - i) * (M + 2) + (i + 1) * (M + 2) + (M + 2) = s * (M + 2) := by
        rw [← Nat.add_mul]
        have : s - 2 - i + (i + 1) + 1 = s := by omega
        calc (s - 2 - i + (i + 1)) * (M + 2) + (M + 2) = (s - 2 - i + (i + 1) + 1) * (M + 2) := by rw [Nat.add_mul _ 1, Nat.one_mul]
          _ = s * (M + 2) := by rw [this]
      omega

theorem okS_each {S : List Tm} (h : OkS S) : EachT S := ⟨by have := h.1; omega, fun t ht => by
  have h1 := h.2 t ht
  have := good_sz h1.2
  have := h1.1
  omega⟩
theorem uni_sz {u : List Tm} (h : UniP u) : ∀ t ∈ u, t.sz ≤ 65000 := fun t ht => by
  obtain ⟨j, hj⟩ := List.getElem?_of_mem ht
  have h1 := (h.2 j t hj).1.1
  have := good_sz h1.2
  have := h1.1
  omega
theorem gt_good {u : List Tm} (h : UniP u) (n : Nat) : ∀ t ∈ gtAll u n, Good t := fun t ht => by
  obtain ⟨i, _, hi⟩ := List.mem_flatMap.1 ht
  exact bf_good (uni_good h) _ _ t hi
theorem gtS_asc {u : List Tm} (h : UniP u) (n : Nat) : AscT (gtS u n) := putsT_asc _ AscT.nil (gt_good h n)
theorem puts_asc {u pre : List Tm} {i : Nat} (h : UniP u) (hp : pre <+: bf u 5 (i + 1)) : AscT (putsT (gtS u i) pre) := putsT_asc _ (gtS_asc h i) fun t ht => by
  obtain ⟨r, hr⟩ := hp
  exact bf_good (uni_good h) 5 (i + 1) t (by rw [← hr]; simp [ht])
/-- What one more term does. -/
theorem okS_snoc {S : List Tm} {t : Tm} {pre : List Tm} (h : OkS (putsT S pre)) : OkS (putsT S (pre ++ [t])) ↔ (t ∈ putsT S pre ∨ (Ok t ∧ (putsT S pre).length ≠ 512)) := by
  rw [putsT_snoc]
  have h512 := h.1
  by_cases hm : t ∈ putsT S pre
  · rw [insT_yes hm]
    exact ⟨fun _ => .inl hm, fun _ => h⟩
  · refine ⟨fun hk => .inr ⟨hk.2 t (insT_mem.2 (.inr rfl)), fun e => ?_⟩, fun hk => ?_⟩
    · have := hk.1
      rw [insT_length hm] at this
      omega
    · rcases hk with hk | ⟨h1, h2⟩
      · exact absurd hk hm
      · refine ⟨by rw [insT_length hm]; omega, fun x hx => ?_⟩
        rcases insT_mem.1 hx with h3 | h3
        · exact h.2 x h3
        · rw [h3]; exact h1
theorem frozen_box {w : World} {b : Nat} {cs : Array Value} {e : TypeId} (h : w.heap[b]? = some (.cells cs e (0, 0))) (o : Nat) : w.frozen? ⟨b, o, none⟩ = false := by simp [World.frozen?, h]
theorem set_box {w : World} {b : Nat} {v : Value} {e : TypeId} (v' : Value) (h : w.heap[b]? = some (.cells #[v] e (0, 0))) : (w.setCell ⟨b, 0, none⟩ v').heap[b]? = some (.cells #[v'] e) := Boxed.set v' h
theorem only_set (w : World) (b : Nat) (v : Value) : Only (fun k => k = b) w (w.setCell ⟨b, 0, none⟩ v) := ⟨rfl, rfl, rfl, by simp [World.setCell], fun k hk hn => by
  show (w.heap.modify b _)[k]? = _
  rw [Array.getElem?_modify, if_neg (fun e => hn e.symm)]⟩
def nAt (a : Act) : Nat := match a.tmps.getD 22 undef with | .int _ r => r.toNat | _ => 0
theorem nAt_of {a : Act} {k : IntKind} {r : Int} (h : a.tmps.getD 22 undef = .int k r) : nAt a = r.toNat := by
  unfold nAt
  rw [h]

/-! ### the walk's footprint -/
def JT (_ : Unit) (_ : Fp) (_ : World) : Prop := True
theorem jt_aby : AbY JT := fun _ _ _ _ _ _ _ _ _ _ => trivial
theorem liftT_aby {γ : Type} {K : γ → Fp → World → Prop} (hK : ∀ s, KStable (K s)) : AbY fun (s : γ) Y W => Lift JT (K s) () Y W :=
  fun s Y Y' W W' h h1 h2 h3 h4 => lift_aby jt_aby (hK s) (fun (_ : Unit) => ()) () Y Y' W W' h h1 h2 h3 h4
structure KG (W0 : World) (RB LB : Nat) (Ds : List Nat) (S : List Tm) (A : Fp) (W : World) : Prop where
  zs : ∀ k, k < W0.heap.size → A.z k
  o : Below W0.heap.size W0 W
  ne : W0.heap.size ≤ RB ∧ W0.heap.size ≤ LB ∧ RB ≠ LB
  r : A.p RB ∧ W.heap[RB]? = some (.cells #[.slice none 0 0] 23)
  l : A.p LB ∧ ∃ V, W.heap[LB]? = some (.cells #[V] 23) ∧ RowT W A.z V S ∧ ∀ b, V.ownBlock = some b → A.p b ∧ b ≠ RB ∧ b ≠ LB ∧ W0.heap.size ≤ b
  d : Marks Ds A W
theorem RowT.off {w : World} {Z : Nat → Prop} {V : Value} {l : List Tm} (h : RowT w Z V l) : ∀ b, V.ownBlock = some b → ¬ Z b := by
  obtain ⟨_, _, _, _, h4⟩ := h
  exact h4
theorem RowT.isRow {w : World} {Z : Nat → Prop} {V : Value} {l : List Tm} (h : RowT w Z V l) : ∀ b, V.ownBlock = some b → ∃ cs e, w.heap[b]? = some (.cells cs e (0, 0)) := by
  obtain ⟨L, _, hrow, _, _⟩ := h
  intro b hb
  rcases hrow.2 with ⟨rfl, _⟩ | ⟨g', cap', cur, rfl, _, hg, _⟩
  · cases hb
  · cases hb
    exact ⟨_, _, hg⟩
theorem KG.only {W0 : World} {RB LB : Nat} {Ds : List Nat} {S : List Tm} {A : Fp} {W W' : World} (h : KG W0 RB LB Ds S A W) (ho : Only (fun k => ¬ A.on k) W W') : KG W0 RB LB Ds S A W' := by
  obtain ⟨V, v1, v2, v3⟩ := h.l.2
  have hs := h.o.size
  refine ⟨h.zs, h.o.trans ⟨ho.os, ho.tape, ho.output, ho.size, fun k hk => ho.block k (by omega) fun hn => hn (.inr (h.zs k hk))⟩, h.ne, ⟨h.r.1, (ho.block _ (Array.getElem?_eq_some_iff.1 h.r.2).1 fun hn => hn (.inl h.r.1)).trans h.r.2⟩,
    ⟨h.l.1, V, (ho.block _ (Array.getElem?_eq_some_iff.1 v1).1 fun hn => hn (.inl h.l.1)).trans v1, v2.moved ho.size (fun k hk hl => ho.block k hl fun hn => hn (.inr hk)) (fun b hb => ho.block b (v2.lt b hb) fun hn => hn (.inl (v3 b hb).1)) (fun _ h => h) v2.off, v3⟩, h.d.only ho⟩
theorem KG.stable (W0 : World) (RB LB : Nat) (Ds : List Nat) (S : List Tm) : KStable (KG W0 RB LB Ds S) := fun A W W' h _ ho => h.only ho
theorem KG.sets {W0 : World} {RB LB : Nat} {Ds : List Nat} {S : List Tm} {A B : Fp} {W : World} (h : KG W0 RB LB Ds S A W) (hz : ∀ k, A.z k → B.z k) (hp : ∀ k, A.p k → B.p k) (hn : ∀ k, A.p k → ¬ B.z k) : KG W0 RB LB Ds S B W := by
  obtain ⟨V, v1, v2, v3⟩ := h.l.2
  exact ⟨fun k hk => hz k (h.zs k hk), h.o, h.ne, ⟨hp _ h.r.1, h.r.2⟩, ⟨hp _ h.l.1, V, v1, v2.moved (Nat.le_refl _) (fun _ _ _ => rfl) (fun _ _ => rfl) hz (fun b hb => hn b (v3 b hb).1), fun b hb => ⟨hp b (v3 b hb).1, (v3 b hb).2⟩⟩, h.d.1, fun D hD => ⟨hp D (h.d.2 D hD).1, (h.d.2 D hD).2⟩⟩
/-- The round: its term lies in its box. -/
structure KV (W0 : World) (RB LB : Nat) (Ds : List Nat) (S : List Tm) (x : Tm) (V : Value) (tb : Nat) (A : Fp) (W : World) : Prop where
  k : KG W0 RB LB Ds S A W
  h : A.z tb ∧ W.heap[tb]? = some (.cells #[.int .i64 x.kind, .int .i64 x.num, .string x.name, V] 25)
  a : ArgsS W A.z V x.args
theorem KV.stable (W0 : World) (RB LB : Nat) (Ds : List Nat) (S : List Tm) (x : Tm) (V : Value) (tb : Nat) : KStable (KV W0 RB LB Ds S x V tb) := fun A W W' h _ ho =>
  ⟨h.k.only ho, ⟨h.h.1, (ho.block _ (Array.getElem?_eq_some_iff.1 h.h.2).1 fun hn => hn (.inr h.h.1)).trans h.h.2⟩, h.a.frame ho.size fun j hj hl => ho.block j hl fun hn => hn (.inr hj)⟩
/-- New blocks of our own beside a footprint. -/
theorem own_more {A Y : Fp} {m n : Nat} (hA : A.ok m) (hY : Y.ok m) (h : Apart A Y) (hmn : m ≤ n) : Fp.ok ⟨fun k => A.p k ∨ (m ≤ k ∧ k < n), A.z⟩ n ∧ Apart ⟨fun k => A.p k ∨ (m ≤ k ∧ k < n), A.z⟩ Y := by
  refine ⟨⟨fun k hk => ?_, fun k hz hp => ?_⟩, ⟨fun k hk hp => ?_, fun k hk hz => ?_⟩⟩
  · rcases hk with (h1 | h1) | h1
    · have := hA.lt k (.inl h1); omega
    · exact h1.2
    · have := hA.lt k (.inr h1); omega
  · rcases hp with h1 | h1
    · exact hA.off k hz h1
    · have := hA.lt k (.inr hz); omega
  · rcases hk with (h1 | h1) | h1
    · exact h.on k (.inl h1) hp
    · have := hY.lt k (.inl hp); omega
    · exact h.on k (.inr h1) hp
  · rcases hk with h1 | h1
    · exact h.z k h1 hz
    · have := hY.lt k (.inr hz); omega
/-- A step that writes LB, l's row and new blocks: a new l. -/
theorem KG.put {W0 : World} {RB LB : Nat} {Ds : List Nat} {S S' : List Tm} {A : Fp} {W W' : World} {V U : Value} (h : KG W0 RB LB Ds S A W) (hA : A.ok W.heap.size) (hV : W.heap[LB]? = some (.cells #[V] 23)) (hVp : ∀ b, V.ownBlock = some b → A.p b ∧ b ≠ RB ∧ b ≠ LB ∧ W0.heap.size ≤ b) (hVr : ∀ b, V.ownBlock = some b → ∃ cs e, W.heap[b]? = some (.cells cs e (0, 0)))
    (ho : Only (fun k => k = LB ∨ V.ownBlock = some k) W W') (hU : W'.heap[LB]? = some (.cells #[U] 23)) (hR : RowT W' A.z U S') (hUb : ∀ b, U.ownBlock = some b → V.ownBlock = some b ∨ W.heap.size ≤ b) :
    KG W0 RB LB Ds S' ⟨fun k => A.p k ∨ (W.heap.size ≤ k ∧ k < W'.heap.size), A.z⟩ W' := by
  have hs := h.o.size
  have hne := h.ne
  have hRl := (Array.getElem?_eq_some_iff.1 h.r.2).1
  have hLl := (Array.getElem?_eq_some_iff.1 hV).1
  refine ⟨h.zs, h.o.trans ⟨ho.os, ho.tape, ho.output, ho.size, fun k hk => ho.block k (by omega) ?_⟩, h.ne, ⟨.inl h.r.1, (ho.block _ hRl ?_).trans h.r.2⟩, ⟨.inl h.l.1, U, hU, hR, fun b hb => ?_⟩, h.d.1, fun D hD => ⟨.inl (h.d.2 D hD).1, (ho.block D (Array.getElem?_eq_some_iff.1 (h.d.2 D hD).2).1 ?_).trans (h.d.2 D hD).2⟩⟩
  · rintro (h1 | h1)
    · omega
    · have := (hVp k h1).2.2.2; omega
  · rintro (h1 | h1)
    · exact hne.2.2 h1
    · exact (hVp _ h1).2.1 rfl
  · rcases hUb b hb with h1 | h1
    · exact ⟨.inl (hVp b h1).1, (hVp b h1).2⟩
    · exact ⟨.inr ⟨h1, hR.lt b hb⟩, by omega, by omega, by omega⟩
  · rintro (h1 | h1)
    · have h2 := (h.d.2 D hD).2
      rw [h1, hV] at h2
      cases h2
    · obtain ⟨cs, e, h3⟩ := hVr D h1
      have h2 := (h.d.2 D hD).2
      rw [h3] at h2
      cases h2
/-- The way out with the marks: what stands in the result's box is the answer. -/
theorem ground_leave {fn : Func} (hf : fn.results = #[.cell 4 23]) {tmps : Array Value} {RB : Nat} (ht : tmps.getD 4 undef = .pointer (some ⟨RB, 0, none⟩)) {R : Ending → World → Prop} {Ds : List Nat} {W : World} {U : Value} (hU : W.heap[RB]? = some (.cells #[U] 23)) (hd : Ds.Nodup ∧ ∀ D ∈ Ds, W.heap[D]? = some (.deferred (some [])))
    (hR : ∀ W', Only (fun k => k ∈ Ds) W W' → R (.returned U) W') : LeavesInM Fence.wide 5 Try.prog fn tmps R (Ds.map mk) .returning W := by
  refine leaves_marks Ds ⟨fun k => k ∈ Ds, fun _ => False⟩ W ⟨hd.1, fun D hD => ⟨hD, hd.2 D hD⟩⟩ fun W' ho => ?_
  have hrb : W'.heap[RB]? = some (.cells #[U] 23) := (ho.block RB (Array.getElem?_eq_some_iff.1 hU).1 fun hn => by
    have h2 := hd.2 RB hn
    rw [hU] at h2
    cases h2).trans hU
  have ht' : tmps[4]?.getD undef = .pointer (some ⟨RB, 0, none⟩) := by simpa using ht
  refine ⟨U, ?_, hR W' ho⟩
  have hc := cells1_of hrb
  simp [results, hf, ht', asAddr, go_sem, hc, run_underlying Try.underlying23]
end Go.Proofs.Ytoihimdfmncdoaa

