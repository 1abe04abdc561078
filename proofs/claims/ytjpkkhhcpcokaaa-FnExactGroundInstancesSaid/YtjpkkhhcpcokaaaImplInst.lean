/-
  The program's powerWithin and GroundInstances. (Written by wip/tools/gen_implinst.py.)
-/
import Derived.Test.YtjpkkhhcpcokaaaAsg
import Derived.Test.YtjpkkhhcpcokaaaLeaveT
import Derived.Test.YtjpkkhhcpcokaaaImplName
import Derived.Test.YtjpkkhhcpcokaaaImplApp
import Derived.Test.YtjpkkhhcpcokaaaItems
import Derived.Test.YtjpkkhhcpcokaaaGroundOk
namespace Go.Proofs.Ytjpkkhhcpcokaaa
open Go.RowKit Go.Shelf
set_option linter.unusedVariables false
set_option linter.unusedSimpArgs false

theorem argsAt_single {w : World} {g : Nat} {t : Tm} {V : Value} {e : TypeId} (h : w.heap[g]? = some (.cells #[.int .i64 t.kind, .int .i64 t.num, .string t.name, V] e)) (hV : ArgsAt w V t.args) : ArgsAt w (.slice (some ⟨g, 0, none⟩) 1 1) [t] := by
  obtain ⟨c0, c1, c2, c3, _⟩ := box_cells h
  refine .row g 0 1 1 (fun _ => V) [t] rfl (Array.getElem?_eq_some_iff.1 h).1 (fun j u hj i v hv => ?_) (fun j u hj => ?_)
  · match j, hj with
    | 0, hj =>
      simp at hj
      subst hj
      match i, hv with
      | 0, hv => have : some (Value.int .i64 t.kind) = some v := hv; rw [← this]; simpa using c0
      | 1, hv => have : some (Value.int .i64 t.num) = some v := hv; rw [← this]; simpa using c1
      | 2, hv => have : some (Value.string t.name) = some v := hv; rw [← this]; simpa using c2
      | 3, hv => have : some V = some v := hv; rw [← this]; simpa using c3
      | i + 4, hv => simp [cells4] at hv
    | j + 1, hj => simp at hj
  · match j, hj with
    | 0, hj => simp at hj; subst hj; exact hV
    | j + 1, hj => simp at hj
theorem vl_wf {t : Tm} (h : Good t) : ∀ {v : Int}, v ∈ t.vl → wfI v := by
  induction h with
  | nil => intro v hv; simp [Tm.vl, vlL] at hv
  | sym n hn => intro v hv; simp [Tm.vl, vlL] at hv
  | int r h0 h1 => intro v hv; simp [Tm.vl, vlL] at hv
  | var i h0 h1 => intro v hv; have : v = i := by simpa [Tm.vl] using hv
                   subst this; exact wfI_of (by omega) (by omega)
  | pair x y _ _ ihx ihy => intro v hv; rw [vl_pair, List.mem_append] at hv; exact hv.elim (fun h => ihx h) (fun h => ihy h)
theorem pow_le {s i n : Nat} (hs : 1 ≤ s) (h : i ≤ n) : s ^ i ≤ s ^ n := Nat.pow_le_pow_right hs h

set_option maxRecDepth 100000 in
set_option maxHeartbeats 2000000 in
theorem powerWithin_any (s n : Nat) (hs : 1 ≤ s ∧ s ≤ 8) (hn : n ≤ 1048576) (w : World) :
    Calls Try.prog 83 #[.int .i64 (s : Int), .int .i64 (n : Int), .int .i64 512] w fun e w' => e = .returned (.bool (decide (s ^ n ≤ 512))) ∧ Below w.heap.size w w' := by
  obtain ⟨r, hr⟩ : ∃ r, decide (s ^ n ≤ 512) = r := ⟨_, rfl⟩
  rw [hr]
  have HR := Lib.hid hr
  have HS := Lib.hid hs
  clear hr hs
  go_enter Try.func83, Try.ntmps83
  go_wp2
  go_loopw [7, 9] (fun pv iv wr => ∃ i p : Nat, i ≤ n ∧ iv = .int .i64 i ∧ pv = .int .i64 p ∧ Hid (p = s ^ i ∧ p ≤ 512) ∧ Hid (Below w.heap.size w wr)) (fun _ iv _ => n - (intOf iv).toNat)
  case atStart => exact ⟨0, 1, Nat.zero_le _, rfl, rfl, Lib.hid ⟨rfl, by omega⟩, Lib.hid (Below.refl _ _)⟩
  case round =>
    obtain ⟨i, p, hi, rfl, rfl, HP, HB⟩ := hrel
    by_cases hlt : i < n
    · have hltI : (i : Int) < (n : Int) := by omega
      have hps : p * s ≤ 4096 := by
        have h1 := Nat.mul_le_mul HP.out.2 HS.out.2
        omega
      have w1e : IntKind.i64.wrap ((p : Int) * (s : Int)) = ((p * s : Nat) : Int) := by
        rw [← Int.natCast_mul, IntWalk.i64_in _ (by omega)]
      have HPS : Hid (p * s = s ^ (i + 1)) := Lib.hid (by rw [Nat.pow_succ, ← HP.out.1])
      have HL := Lib.hid hlt
      generalize p * s = q at w1e HPS hps
      clear hlt
      by_cases hq : q ≤ 512
      · have hqI : ¬ ((512 : Int) < (q : Int)) := by omega
        have HQ := Lib.hid hq
        clear hq
        go_wp2
        go_roundw
        case rel => exact ⟨i + 1, q, HL.out, by go_num, rfl, Lib.hid ⟨HPS.out, HQ.out⟩, HB⟩
        case measure => have := HL.out; simp [intOf]; omega
      · have hqI : ((512 : Int) < (q : Int)) := by omega
        obtain rfl : r = false := by
          rw [← HR.out, decide_eq_false_iff_not]
          have := pow_le HS.out.1 (show i + 1 ≤ n from HL.out)
          rw [← HPS.out] at this
          omega
        clear hq
        go_wp2
        go_ret
        exact ⟨rfl, HB.out⟩
    · have hltI : ¬ (i : Int) < (n : Int) := by omega
      obtain rfl : r = true := by
        rw [← HR.out, decide_eq_true_iff]
        have he : i = n := by omega
        rw [← he, ← HP.out.1]
        exact HP.out.2
      clear hlt
      go_wp2
      go_ret
      exact ⟨rfl, HB.out⟩

attribute [local go_sem] Oper.semAt_some

theorem row_valsZ {w : World} {lo : Nat} {V : Value} {vs : List Int} (h : Row w lo 3 V (vs.map (Value.int .i64))) (Z : Nat → Prop) (hZ : ∀ b, V.ownBlock = some b → Z b) : ValsZ w Z V vs := by
  obtain ⟨a, cap, e, hv⟩ := h.vals
  rcases h.2 with ⟨rfl, hn⟩ | ⟨g, cap', cur, rfl, h1, h2, h3, h4, h5, h6⟩
  · have : vs = [] := by simpa using hn
    subst this
    exact ⟨none, 0, rfl, Nat.le_refl _, by omega, .inl rfl⟩
  · simp only [List.length_map] at e hv h3 h4
    refine ⟨some ⟨g, 0, none⟩, cap', by simp, by first | exact h3 | omega, by first | (unfold maxLen at *; omega) | omega, ?_⟩
    simp only [Value.slice.injEq] at e
    rcases hv with hv | ⟨g', off, ha, hl, hc⟩
    · exact .inl (by simpa using hv)
    · refine .inr ⟨g', off, by rw [← ha, ← e.1], ?_, hl, fun j x hx => hc j _ (by simp [hx])⟩
      have hg : g' = g := by
        have := e.1.trans ha
        simp only [Option.some.injEq, Addr.mk.injEq] at this
        exact this.1.symm
      rw [hg]
      exact hZ g rfl

/-- The blocks of the answer. -/
def KC (W0 : World) (RB LB : Nat) (A : Fp) (k : Nat) : Prop := A.p k ∧ k ≠ RB ∧ k ≠ LB ∧ W0.heap.size ≤ k
/-- What the walk knows between the rounds. -/
structure KI (W0 : World) (RB LB TB : Nat) (t : Tm) (Vt : Value) (S : List Tm) (A : Fp) (W : World) : Prop where
  zs : ∀ k, k < W0.heap.size → A.z k
  o : Below W0.heap.size W0 W
  ne : W0.heap.size ≤ RB ∧ W0.heap.size ≤ LB ∧ W0.heap.size ≤ TB ∧ RB ≠ LB ∧ TB ≠ LB ∧ TB ≠ RB
  r : A.p RB ∧ W.heap[RB]? = some (.cells #[.slice none 0 0] 35)
  l : A.p LB ∧ ∃ V, W.heap[LB]? = some (.cells #[V] 35) ∧ Own W 46 (KC W0 RB LB A) V S
  b : A.z TB ∧ W.heap[TB]? = some (.cells #[.int .i64 t.kind, .int .i64 t.num, .string t.name, Vt] 46)
theorem KI.only {W0 : World} {RB LB TB : Nat} {t : Tm} {Vt : Value} {S : List Tm} {A : Fp} {W W' : World} (h : KI W0 RB LB TB t Vt S A W) (ho : Only (fun k => ¬ A.on k) W W') : KI W0 RB LB TB t Vt S A W' := by
  obtain ⟨V, v1, v2⟩ := h.l.2
  have hs := h.o.size
  refine ⟨h.zs, h.o.trans ⟨ho.os, ho.tape, ho.output, ho.size, fun k hk => ho.block k (by omega) fun hn => hn (.inr (h.zs k hk))⟩, h.ne, ⟨h.r.1, (ho.block _ (Array.getElem?_eq_some_iff.1 h.r.2).1 fun hn => hn (.inl h.r.1)).trans h.r.2⟩,
    ⟨h.l.1, V, (ho.block _ (Array.getElem?_eq_some_iff.1 v1).1 fun hn => hn (.inl h.l.1)).trans v1, v2.frame fun k hk hl => ho.block k hl fun hn => hn (.inl hk.1)⟩,
    ⟨h.b.1, (ho.block _ (Array.getElem?_eq_some_iff.1 h.b.2).1 fun hn => hn (.inr h.b.1)).trans h.b.2⟩⟩
theorem KI.stable (W0 : World) (RB LB TB : Nat) (t : Tm) (Vt : Value) (S : List Tm) : KStable (KI W0 RB LB TB t Vt S) := fun A W W' h _ ho => h.only ho
theorem KI.sets {W0 : World} {RB LB TB : Nat} {t : Tm} {Vt : Value} {S : List Tm} {A B : Fp} {W : World} (h : KI W0 RB LB TB t Vt S A W) (hz : ∀ k, A.z k → B.z k) (hp : ∀ k, A.p k → B.p k) : KI W0 RB LB TB t Vt S B W := by
  obtain ⟨V, v1, v2⟩ := h.l.2
  exact ⟨fun k hk => hz k (h.zs k hk), h.o, h.ne, ⟨hp _ h.r.1, h.r.2⟩, ⟨hp _ h.l.1, V, v1, v2.sub fun k hk => ⟨hp k hk.1, hk.2⟩⟩, ⟨hz _ h.b.1, h.b.2⟩⟩
theorem KI.setR {W0 : World} {RB LB TB : Nat} {t : Tm} {Vt : Value} {S : List Tm} {A : Fp} {W : World} (h : KI W0 RB LB TB t Vt S A W) : KI W0 RB LB TB t Vt S A (W.setCell ⟨RB, 0, none⟩ (.slice none 0 0)) := by
  obtain ⟨V, v1, v2⟩ := h.l.2
  have ho := only_set W RB (.slice none 0 0)
  have hs := h.o.size
  have hne := h.ne
  exact ⟨h.zs, h.o.trans ⟨ho.os, ho.tape, ho.output, ho.size, fun k hk => ho.block k (by omega) (by omega)⟩, hne, ⟨h.r.1, set_box _ h.r.2⟩, ⟨h.l.1, V, (ho.block LB (Array.getElem?_eq_some_iff.1 v1).1 (by omega)).trans v1, v2.frame fun k hk hl => ho.block k hl hk.2.1⟩, ⟨h.b.1, (ho.block TB (Array.getElem?_eq_some_iff.1 h.b.2).1 (by omega)).trans h.b.2⟩⟩
theorem inst_fin {w : World} {RB LB TB : Nat} {t : Tm} {Vt : Value} {S : List Tm} {X : Tm} {A Y1 : Fp} {W1 W5 W : World} {gg : Nat} {V' : Value} {C : Nat → Prop}
    (hA : A.ok W1.heap.size) (hap : Apart A Y1) (hY : Y1.ok W1.heap.size) (hk : KI w RB LB TB t Vt S A W1)
    (h5 : Only (fun k => KC w RB LB A k ∨ W1.heap.size ≤ k) W1 W5) (hg : KC w RB LB A gg ∨ W1.heap.size ≤ gg) (hg5 : gg < W5.heap.size)
    (hW : Only (fun k => KC w RB LB A k ∨ k = gg ∨ k = LB ∨ W1.heap.size ≤ k) W5 W) (hl : W.heap[LB]? = some (.cells #[V'] 35))
    (ho : Own W 46 (fun k => KC w RB LB A k ∨ k = gg ∨ (W1.heap.size ≤ k ∧ k < W5.heap.size)) V' (S ++ [X])) :
    Only (fun k => ¬ Y1.on k ∨ C k) W1 W ∧ Lift JT (KI w RB LB TB t Vt (S ++ [X])) () Y1 W := by
  have hs5 := h5.size
  have hsW := hW.size
  have hsz := hk.o.size
  have hne := hk.ne
  have hLl : LB < W1.heap.size := hA.lt LB (.inl hk.l.1)
  have hRl : RB < W1.heap.size := (Array.getElem?_eq_some_iff.1 hk.r.2).1
  have hTl : TB < W1.heap.size := (Array.getElem?_eq_some_iff.1 hk.b.2).1
  -- what is kept
  have kp : ∀ k, k < W1.heap.size → ¬ KC w RB LB A k → k ≠ LB → W.heap[k]? = W1.heap[k]? := fun k h1 h2 h3 => by
    refine (hW.block k (by omega) ?_).trans (h5.block k h1 ?_)
    · rintro (h | h | h | h)
      · exact h2 h
      · rcases hg with hg | hg
        · exact h2 (h ▸ hg)
        · omega
      · exact h3 h
      · omega
    · rintro (h | h)
      · exact h2 h
      · omega
  have hos : W.os = W1.os := hW.os.trans h5.os
  have htp : W.tape = W1.tape := hW.tape.trans h5.tape
  have hou : W.output = W1.output := hW.output.trans h5.output
  refine ⟨⟨hos, htp, hou, by omega, fun k h1 h2 => kp k h1 (fun hc => h2 (.inl fun hy => ?_)) (fun e => h2 (.inl fun hy => ?_))⟩, ⟨fun k => A.p k ∨ (W1.heap.size ≤ k ∧ k < W.heap.size), A.z⟩, ⟨fun k h => ?_, fun k hz hp => ?_⟩, ⟨fun k h hp => ?_, fun k h hz => ?_⟩, trivial, ?_⟩
  · rcases hy with hy | hy
    · exact hap.on k (.inl hc.1) hy
    · exact hap.z k hc.1 hy
  · rw [e] at hy
    rcases hy with hy | hy
    · exact hap.on LB (.inl hk.l.1) hy
    · exact hap.z LB hk.l.1 hy
  · rcases h with (h | h) | h
    · have := hA.lt k (.inl h); omega
    · exact h.2
    · have := hA.lt k (.inr h); omega
  · rcases hp with hp | hp
    · exact hA.off k hz hp
    · have := hA.lt k (.inr hz); omega
  · rcases h with (h | h) | h
    · exact hap.on k (.inl h) hp
    · have := hY.lt k (.inl hp); omega
    · exact hap.on k (.inr h) hp
  · rcases h with h | h
    · exact hap.z k h hz
    · have := hY.lt k (.inr hz); omega
  · refine ⟨hk.zs, ⟨hos.trans hk.o.os, htp.trans hk.o.tape, hou.trans hk.o.output, by omega, fun k h1 => (kp k (by omega) (fun h => by have := h.2.2.2; omega) (by omega)).trans (hk.o.block k h1)⟩, hne, ⟨.inl hk.r.1, (kp RB hRl (fun h => h.2.1 rfl) hne.2.2.2.1).trans hk.r.2⟩, ⟨.inl hk.l.1, V', hl, ho.sub fun k h => ?_⟩, ⟨hk.b.1, (kp TB hTl (fun h => hA.off TB hk.b.1 h.1) hne.2.2.2.2.1).trans hk.b.2⟩⟩
    rcases h with h | h | h
    · exact ⟨.inl h.1, h.2⟩
    · rcases hg with hg | hg
      · rw [h]; exact ⟨.inl hg.1, hg.2⟩
      · rw [h]; exact ⟨.inr ⟨hg, by omega⟩, by omega, by omega, by omega⟩
    · exact ⟨.inr ⟨h.1, by omega⟩, by omega, by omega, by omega⟩
def insOf (t : Tm) (pre : List (List Bd)) : List Tm := pre.map fun s => putT s t
theorem insOf_snoc (t : Tm) (pre : List (List Bd)) (s : List Bd) : insOf t (pre ++ [s]) = insOf t pre ++ [putT s t] := by unfold insOf; rw [List.map_append]; rfl
theorem asg_fit {u : List Tm} {vs : List Int} (hu : ∀ t ∈ u, Ok t) {s : List Bd} (h : s ∈ asgL u vs) : FitB s := fun b hb => hu _ ((asg_mem.1 h).2 b hb)

set_option maxRecDepth 100000 in
set_option maxHeartbeats 8000000 in
theorem implGroundInstances_e (t : Tm) (Vt : Value) (u : List Tm) (Vu : Value) (w : World) (hT : ArgsAt w Vt t.args) (hZt : t.sz ≤ 1048576) (hA : ArgsAt w Vu u) (hE : EachT u) :
    Calls Try.prog 25 #[.agg #[.int .i64 t.kind, .int .i64 t.num, .string t.name, Vt], Vu] w fun e w' => ∃ U, e = .returned U ∧ NewTree (giL t u) w U w' := by
  obtain ⟨ta, tc, rfl⟩ := hT.slice
  obtain ⟨ua, uc, rfl⟩ := hA.slice
  refine (callsIn_wide (n := 5)).1 ?_
  refine callsIn_of_wp_marks Try.func25 rfl trivial ?_ rfl
  simp only [Try.ntmps25, List.size_toArray, List.length_cons, List.length_nil, Nat.reduceAdd, Nat.reduceSub, Array.replicate_succ, Array.replicate_zero, List.push_toArray, List.append_toArray, List.nil_append, List.cons_append]
  obtain ⟨TB, hTB⟩ : ∃ TB, w.heap.size = TB := ⟨_, rfl⟩
  have hb1 : Below w.heap.size w ((w.alloc (.cells #[.int .i64 t.kind, .int .i64 t.num, .string t.name, .slice ta t.args.length tc] 46)).alloc (.cells #[.slice none 0 0] 35)) := belowAlloc (belowAlloc (Below.refl _ _) _) _
  have h0 := heapE_0 w (.cells #[.int .i64 t.kind, .int .i64 t.num, .string t.name, .slice ta t.args.length tc] 46) (.cells #[.slice none 0 0] 35)
  have h1 := heapE_1 w (.cells #[.int .i64 t.kind, .int .i64 t.num, .string t.name, .slice ta t.args.length tc] 46) (.cells #[.slice none 0 0] 35)
  have hs1 : ((w.alloc (.cells #[.int .i64 t.kind, .int .i64 t.num, .string t.name, .slice ta t.args.length tc] 46)).alloc (.cells #[.slice none 0 0] 35)).heap.size = w.heap.size + 2 := by simp
  rw [hTB] at h0 h1 hs1
  have HTB := Lib.hid hTB
  have HA := Lib.hid hA
  have HT := Lib.hid hT
  have HE := Lib.hid hE
  gi_upto_region 1 with (fail)
  generalize hw1 : ((w.alloc (.cells #[.int .i64 t.kind, .int .i64 t.num, .string t.name, .slice ta t.args.length tc] 46)).alloc (.cells #[.slice none 0 0] 35)) = w1 at hb1 h0 h1 hs1 ⊢
  clear hw1 hTB hA hT hE
  obtain ⟨RB, hRB⟩ : ∃ RB, TB + 1 = RB := ⟨_, rfl⟩
  rw [hRB] at h1 ⊢
  have HRB := Lib.hid hRB
  have H1 := Lib.hid (And.intro hb1 (And.intro h0 (And.intro h1 hs1)))
  clear hb1 h0 h1 hs1 hRB
  -- what lies in the boxes, in every world behind
  have HBX : Hid (∀ W, Below w1.heap.size w1 W → (W.cell? ⟨TB, 0, none⟩ = some (.int .i64 t.kind) ∧ W.cell? ⟨TB, 1, none⟩ = some (.int .i64 t.num) ∧ W.cell? ⟨TB, 2, none⟩ = some (.string t.name) ∧ W.cell? ⟨TB, 3, none⟩ = some (.slice ta t.args.length tc)) ∧ W.heap[TB]? = some (.cells #[.int .i64 t.kind, .int .i64 t.num, .string t.name, .slice ta t.args.length tc] 46) ∧ W.heap[RB]? = some (.cells #[.slice none 0 0] 35)) := Lib.hid fun W hW => by
    have e0 := (hW.block TB (Array.getElem?_eq_some_iff.1 H1.out.2.1).1).trans H1.out.2.1
    have e1 := (hW.block RB (Array.getElem?_eq_some_iff.1 H1.out.2.2.1).1).trans H1.out.2.2.1
    obtain ⟨q0, q1, q2, q3, _⟩ := box_cells e0
    exact ⟨⟨q0, q1, q2, q3⟩, e0, e1⟩
  -- nothing is answered
  have HNO : Hid (∀ W, Below w1.heap.size w1 W → giL t u = [] → ∀ tmps : Array Value, tmps.getD 4 undef = .pointer (some ⟨RB, 0, none⟩) → LeavesInM Fence.wide 5 Try.prog Try.f25 tmps (fun e w' => ∃ U, e = .returned U ∧ NewTree (giL t u) w U w') [] .returning (W.setCell ⟨RB, 0, none⟩ (.slice none 0 0))) := Lib.hid fun W hW hno tmps ht => by
    obtain ⟨_, _, e1⟩ := HBX.out W hW
    refine ground_leave (Ds := []) rfl ht (set_box _ e1) ⟨by simp, fun D hD => by cases hD⟩ fun W' ho => ⟨_, rfl, ?_⟩
    rw [hno]
    have hbw := belowOn H1.out.1 (Nat.le_refl _) hW
    have h1 := only_set W RB (.slice none 0 0)
    have hR := HRB.out
    have hT' := HTB.out
    have hsz := hbw.size
    have hso := h1.size
    exact ⟨.nil _, ho.os.trans (h1.os.trans hbw.os), ho.tape.trans (h1.tape.trans hbw.tape), ho.output.trans (h1.output.trans hbw.output), by have := ho.size; omega, fun k hk => (ho.block k (by omega) fun h => by cases h).trans ((h1.block k (by omega) (by omega)).trans (hbw.block k hk))⟩
  have HC := Lib.hid ((callsIn_wide (n := 4)).2 (implTermOk_any t _ w1 (HT.out.kept H1.out.1) hZt))
  obtain ⟨⟨q0, q1, q2, q3⟩, _, _⟩ := HBX.out w1 (Below.refl _ _)
  have z0 : TB < w1.heap.size := by have := H1.out.2.2.2; omega
  gi_wp2_with fail
  refine ⟨trivial, ?_⟩
  refine HC.out.mono ?_
  rintro e w2 ⟨rfl, hb⟩
  have HB2 := Lib.hid hb
  clear hb HC q0 q1 q2 q3 z0
  obtain ⟨_, _, hr2⟩ := HBX.out w2 HB2.out
  have c4 := cells1_of hr2
  have f4 := frozen_box hr2 0
  have z4 := (Array.getElem?_eq_some_iff.1 hr2).1
  clear hr2
  cases hok : okB t with
  | false =>
    have HN := Lib.hid (HNO.out w2 HB2.out (inst_bad fun h => okB_false.1 hok h.1))
    clear HNO hok
    gi_wp2
    refine ⟨trivial, ?_⟩
    gi_wp2
    show LeavesInM Fence.wide 5 Try.prog _ _ _ [] .returning _
    exact HN.out _ rfl
  | true =>
  have HOK := Lib.hid (okB_true.1 hok)
  have HC := Lib.hid ((callsIn_wide (n := 4)).2 (implUniverse_e u _ w2 (HA.out.kept (belowOn H1.out.1 (Nat.le_refl _) HB2.out)) HE.out))
  clear hok c4 f4 z4
  gi_wp2_with fail
  refine ⟨trivial, ?_⟩
  refine HC.out.mono ?_
  rintro e w3 ⟨rfl, hb⟩
  have HB3 := Lib.hid (belowOn HB2.out (Nat.le_refl _) hb)
  clear hb HC HB2
  obtain ⟨⟨q0, q1, q2, q3⟩, _, hr2⟩ := HBX.out w3 HB3.out
  have c4 := cells1_of hr2
  have f4 := frozen_box hr2 0
  have z4 := (Array.getElem?_eq_some_iff.1 hr2).1
  clear hr2
  cases huu : uniB u with
  | false =>
    have HN := Lib.hid (HNO.out w3 HB3.out (inst_bad fun h => uniB_false.1 huu h.2))
    clear HNO huu q0 q1 q2 q3
    gi_wp2
    show LeavesInM Fence.wide 5 Try.prog _ _ _ [] .returning _
    exact HN.out _ rfl
  | true =>
  have HU := Lib.hid (uniB_true.1 huu)
  clear huu c4 f4 z4
  have hal : Below w3.heap.size w3 (w3.alloc (.cells #[.int .i64 t.kind, .int .i64 t.num, .string t.name, .slice ta t.args.length tc] 46)) := belowAlloc (Below.refl _ _) _
  have HC := Lib.hid ((callsIn_wide (n := 4)).2 (implOrdered_e [t] (.slice (some ⟨w3.heap.size, 0, none⟩) 1 1) (w3.alloc (.cells #[.int .i64 t.kind, .int .i64 t.num, .string t.name, .slice ta t.args.length tc] 46)) (argsAt_single (World.alloc_heap_new w3 _) (HT.out.kept (belowOn H1.out.1 (Nat.le_refl _) (belowOn HB3.out (Nat.le_refl _) hal)))) ⟨by simp, fun x hx => by rw [List.mem_singleton] at hx; subst hx; omega⟩))
  have HAL := Lib.hid (belowOn HB3.out (Nat.le_refl _) hal)
  have z0 : TB < w3.heap.size := by have := H1.out.2.2.2; have := HB3.out.size; omega
  have HS3 : Hid ((w3.alloc (.cells #[.int .i64 t.kind, .int .i64 t.num, .string t.name, .slice ta t.args.length tc] 46)).heap.size = w3.heap.size + 1) := Lib.hid (by simp)
  clear hal
  gi_wp2_with fail
  refine ⟨trivial, ?_⟩
  refine HC.out.mono ?_
  rintro e w5 ⟨V5, rfl, hrow, hb⟩
  rw [ov_yes (by simp [okB_true.2 HOK.out])] at hrow
  have HROW := Lib.hid hrow
  obtain ⟨va, vc, rfl, hvv⟩ := hrow.vals
  have HB5 := Lib.hid (belowOn HAL.out (Nat.le_refl _) hb)
  have HS5 : Hid (w3.heap.size < w5.heap.size) := Lib.hid (by have := hb.size; have := HS3.out; omega)
  have hvl : (ordOf [t]).length ≤ 1048576 := by
    have h1 := giVs_ord t
    have h2 := giVs_len t
    have h3 := vl_len t
    have h4 := HOK.out.1
    omega
  clear hb HC hrow hvv HAL HS3 q0 q1 q2 q3 z0
  rw [List.length_map] at HROW ⊢
  have HC := Lib.hid ((callsIn_wide (n := 4)).2 (powerWithin_any u.length (ordOf [t]).length HU.out.1 hvl w5))
  gi_wp2_with fail
  refine ⟨trivial, ?_⟩
  refine HC.out.mono ?_
  rintro e w6 ⟨rfl, hb⟩
  have HROW6 := Lib.hid (HROW.out.kept hb)
  have HB6 := Lib.hid (belowOn HB5.out (Nat.le_refl _) hb)
  have HS6 : Hid (w3.heap.size < w6.heap.size ∧ w5.heap.size ≤ w6.heap.size) := Lib.hid (by have := hb.size; have := HS5.out; omega)
  clear hb HC
  by_cases hpw : u.length ^ (ordOf [t]).length ≤ 512
  case neg =>
    have HN := Lib.hid (HNO.out w6 HB6.out (inst_many HU.out hpw))
    have hdc : decide (u.length ^ (ordOf [t]).length ≤ 512) = false := decide_eq_false hpw
    rw [hdc]
    obtain ⟨_, _, hr2⟩ := HBX.out w6 HB6.out
    have c4 := cells1_of hr2
    have f4 := frozen_box hr2 0
    have z4 := (Array.getElem?_eq_some_iff.1 hr2).1
    clear HNO hr2 hpw hdc
    gi_wp2
    show LeavesInM Fence.wide 5 Try.prog _ _ _ [] .returning _
    exact HN.out _ rfl
  case pos =>
  have hdc : decide (u.length ^ (ordOf [t]).length ≤ 512) = true := decide_eq_true hpw
  rw [hdc]
  have HPW := Lib.hid hpw
  clear hpw hdc HNO
  obtain ⟨LB, hLB⟩ : ∃ LB, w6.heap.size = LB := ⟨_, rfl⟩
  have hal : Below w6.heap.size w6 (w6.alloc (.cells #[.slice none 0 0] 35)) := belowAlloc (Below.refl _ _) _
  have HL0 := Lib.hid (World.alloc_heap_new w6 (.cells #[.slice none 0 0] 35))
  have HB7 := Lib.hid (belowOn HB6.out (Nat.le_refl _) hal)
  have HROW7 := Lib.hid (HROW6.out.kept hal)
  have HS7 : Hid ((w6.alloc (.cells #[.slice none 0 0] 35)).heap.size = w6.heap.size + 1) := Lib.hid (by simp)
  clear hal HROW6
  gi_upto_region 7 with (fail)
  generalize hw7 : w6.alloc (.cells #[.slice none 0 0] 35) = w7 at HL0 HB7 HROW7 HS7 ⊢
  clear hw7
  rw [hLB] at HL0 HS7
  have HLB := Lib.hid hLB
  clear hLB
  have HVB : Hid (∀ b, (Value.slice va (ordOf [t]).length vc).ownBlock = some b → w3.heap.size ≤ b ∧ b < w6.heap.size) := Lib.hid fun b hb => by
    have g1 := HROW.out.ge b hb
    have g2 := HROW.out.lt b hb
    have := HS6.out.2
    simp at g1
    omega
  have HSA : Hid (w.heap.size = TB ∧ TB + 1 = RB ∧ w1.heap.size = TB + 2 ∧ w1.heap.size ≤ w3.heap.size ∧ w3.heap.size < w6.heap.size ∧ w6.heap.size = LB ∧ w7.heap.size = LB + 1) := Lib.hid ⟨HTB.out, HRB.out, H1.out.2.2.2, HB3.out.size, HS6.out.1, HLB.out, HS7.out⟩
  have HW7 := Lib.hid (belowOn H1.out.1 (Nat.le_refl _) HB7.out)
  have HC := Lib.hid ((callsIn_wide (n := 4)).2 (asg_any u HU.out.1.2 (fun k => k < w.heap.size) (ordOf [t]) hvl (fun v hv => vl_wf HOK.out.2 (ord_mem.1 hv)) (.slice va (ordOf [t]).length vc) ua uc (fun k => k < w.heap.size ∨ (w3.heap.size ≤ k ∧ k < w6.heap.size)) w7 (fun k hk => .inl hk)
    (fun k hk => by have := HSA.out; rcases hk with h | h <;> omega) (row_valsZ HROW7.out _ fun b hb => .inr (HVB.out b hb)) (HA.out.inS.frame HW7.out.size fun k hk _ => HW7.out.block k hk)))
  clear HROW HROW7 HB3 HB5 HB6 HS5 HS6 HS7 hvl
  gi_wp2_with fail
  refine ⟨trivial, ?_⟩
  refine HC.out.mono ?_
  rintro e w8 ⟨g1, lb1, rfl, HE1, HB8, HIT1⟩
  clear HC
  have HS8 := Lib.hid HB8.out.size
  have HZC : Hid (∀ k, ((k < w.heap.size ∨ (w3.heap.size ≤ k ∧ k < w6.heap.size)) ∨ (w7.heap.size ≤ k ∧ k < w8.heap.size)) → k < w8.heap.size ∧ k ≠ RB ∧ k ≠ LB) := Lib.hid fun k hk => by
    have := HSA.out
    have := HS8.out
    rcases hk with (h | h) | h <;> omega
  have HK0 : Hid (Fp.ok ⟨fun k => k = RB ∨ k = LB, fun k => k < w.heap.size ∨ k = TB⟩ w8.heap.size ∧ KI w RB LB TB t (.slice ta t.args.length tc) [] ⟨fun k => k = RB ∨ k = LB, fun k => k < w.heap.size ∨ k = TB⟩ w8) := Lib.hid (by
    have hsa := HSA.out
    have hs8 := HS8.out
    obtain ⟨_, e0, e1⟩ := HBX.out w8 (belowOn HB7.out (Nat.le_refl _) HB8.out)
    refine ⟨⟨fun k hk => by rcases hk with (h | h) | (h | h) <;> omega, fun k h1 h2 => by rcases h1 with h | h <;> rcases h2 with h' | h' <;> omega⟩, fun k hk => .inl hk, belowOn HW7.out (Nat.le_refl _) HB8.out, by omega, ⟨.inl rfl, e1⟩, ⟨.inr rfl, .slice none 0 0, (HB8.out.block LB (Array.getElem?_eq_some_iff.1 HL0.out).1).trans HL0.out, .nil _⟩, ⟨.inr rfl, e0⟩⟩)
  clear HL0 HB7 HW7 HBX H1 HVB HTB HRB
  gi_wp2_with fail
  refine range_iter (gf := g1) (lb := lb1) (w0 := w8) (Zc := fun k => (k < w.heap.size ∨ (w3.heap.size ≤ k ∧ k < w6.heap.size)) ∨ (w7.heap.size ≤ k ∧ k < w8.heap.size)) rfl HE1.out HIT1.out (Only.refl _ _) (fun _ h => h) (fun k hk => (HZC.out k hk).1) (fun s va Y W k hG hk => by
      obtain ⟨b, rfl, hp, _⟩ := hG
      rw [asgK_eq hk]
      exact hp) (fun s va Y W hG => by obtain ⟨b, rfl, _⟩ := hG; rfl)
    (fun pre Y W' => Lift JT (KI w RB LB TB t (.slice ta t.args.length tc) (insOf t pre)) () Y W' ∧ (∀ s ∈ pre, (putT s t).nodes ≤ 5000))
    (fun c pre Y W' => ((∃ S, Lift JT (KI w RB LB TB t (.slice ta t.args.length tc) S) () Y W') ∧ ∃ s, s ∈ asgL u (ordOf [t]) ∧ ¬ (putT s t).nodes ≤ 5000) ∧ c = .ret)
    (AbY.and (liftT_aby (K := fun pre => KI w RB LB TB t (.slice ta t.args.length tc) (insOf t pre)) fun s => KI.stable _ _ _ _ _ _ _) (fun _ _ _ _ _ h _ _ _ _ => h)) ?hix ?h0
    (fun pre s va' a' Y W' => ∃ (b : Nat) (u3 u5 u8 u9 u10 u11 u12 u13 u14 u15 u16 u17 u18 u19 u20 u21 u22 u23 u24 u25 u26 u27 u28 u29 u30 u31 u32 u33 u34 u35 u36 u37 u38 u39 u40 u41 u42 u43 u44 u45 : Value), va' = #[.map (some b)] ∧ (Lift JT (KI w RB LB TB t (.slice ta t.args.length tc) (insOf t pre)) () Y W' ∧ (∀ s ∈ pre, (putT s t).nodes ≤ 5000)) ∧ Y.p b ∧ MapS (fun k => k < w.heap.size) W' b s ∧ a' = { tmps := #[.agg #[.int .i64 t.kind, .int .i64 t.num, .string t.name, .slice ta t.args.length tc], .slice ua u.length uc, .pointer (some ⟨TB, 0, none⟩), u3, .pointer (some ⟨RB, 0, none⟩), u5, .pointer (some ⟨LB, 0, none⟩), .map (some b), u8, u9, u10, u11, u12, u13, u14, u15, u16, u17, u18, u19, u20, u21, u22, u23, u24, u25, u26, u27, u28, u29, u30, u31, u32, u33, u34, u35, u36, u37, u38, u39, u40, u41, u42, u43, u44, u45], defers := [] })
    ?hax ?assign ?body ?done ?stop
  case hix =>
    rintro c s' Y1 Y2 V1 V2 ⟨⟨⟨S, h⟩, hb⟩, hc⟩ h1 h2 h3 h4
    exact ⟨⟨⟨S, liftT_aby (K := fun S => KI w RB LB TB t (.slice ta t.args.length tc) S) (fun s => KI.stable _ _ _ _ _ _ _) S Y1 Y2 V1 V2 h h1 h2 h3 h4⟩, hb⟩, hc⟩
  case h0 =>
    refine ⟨⟨_, HK0.out.1, ⟨fun k _ h => h, fun k hk hz => ?_⟩, trivial, HK0.out.2⟩, fun s hs => by cases hs⟩
    have := HZC.out k hz
    rcases hk with h | h <;> omega
  case hax =>
    rintro pre s va' a' Y1 V1 V2 ⟨b, u3, u5, u8, u9, u10, u11, u12, u13, u14, u15, u16, u17, u18, u19, u20, u21, u22, u23, u24, u25, u26, u27, u28, u29, u30, u31, u32, u33, u34, u35, u36, u37, u38, u39, u40, u41, u42, u43, u44, u45, hva, ⟨hL, hnd⟩, hp, hm, e⟩ hok ho hok'
    refine ⟨b, u3, u5, u8, u9, u10, u11, u12, u13, u14, u15, u16, u17, u18, u19, u20, u21, u22, u23, u24, u25, u26, u27, u28, u29, u30, u31, u32, u33, u34, u35, u36, u37, u38, u39, u40, u41, u42, u43, u44, u45, hva, ⟨liftT_aby (K := fun (_ : Unit) => KI w RB LB TB t (.slice ta t.args.length tc) (insOf t pre)) (fun s => KI.stable _ _ _ _ _ _ _) () Y1 Y1 V1 V2 hL hok (ho.sub fun _ hk => hk.1) (Fp.to.refl _ _) hok', hnd⟩, hp, hm.only ho (fun h => h.2 hva) (fun k hk h => ?_), e⟩
    obtain ⟨A, a1, a2, a3, a4⟩ := hL
    exact a2.on k (.inr (a4.zs k hk)) h.1
  case assign =>
    intro lp pre s va' p' Y1 W1 K hlp hI hokY hp' hpre hG hK
    obtain ⟨b, rfl, hbp, hm⟩ := hG
    have HK := Lib.hid hK
    have HI := Lib.hid (And.intro hI (And.intro (hp' b hbp) hm))
    clear hI hK hm hbp
    gi_wp2
    exact HK.out _ _ (Only.refl _ _) ⟨b, _, _, _, _, _, _, _, _, _, _, _, _, _, _, _, _, _, _, _, _, _, _, _, _, _, _, _, _, _, _, _, _, _, _, _, _, _, _, _, _, rfl, HI.out.1, HI.out.2.1, HI.out.2.2, rfl⟩
  case done =>
    intro D Y1 W1 hD hYD hokY hI hdef
    obtain ⟨⟨A, a1, a2, _, a4⟩, hnd⟩ := hI
    obtain ⟨V, v1, v2⟩ := a4.l.2
    have HEQ : Hid (giL t u = insOf t (asgL u (ordOf [t]))) := Lib.hid (inst_eq HOK.out HU.out HPW.out hnd)
    have HV := Lib.hid (And.intro v1 v2)
    have HKK := Lib.hid (And.intro a4 (And.intro hdef (And.intro hD a1)))
    have HAD : Hid (∀ k, A.p k → k ≠ D) := Lib.hid fun k hk e => a2.on k (.inl hk) (by rw [e]; exact hYD)
    have c6 := cells1_of v1
    have c4 := cells1_of a4.r.2
    have f4 := frozen_box a4.r.2 0
    have z4 := (Array.getElem?_eq_some_iff.1 a4.r.2).1
    obtain ⟨wa, wc, rfl⟩ := v2.argsAt.slice
    clear a1 a2 a4 v1 v2 hdef hYD hokY hnd
    gi_wp2
    show LeavesInM Fence.wide 5 Try.prog _ _ _ ([D].map mk) .returning _
    obtain ⟨hk, hdef, hD, hA⟩ := HKK.out
    have hRD : RB ≠ D := fun e => by rw [← e, hk.r.2] at hdef; cases hdef
    have h2 := only_set W1 RB (.slice wa (insOf t (asgL u (ordOf [t]))).length wc)
    refine ground_leave rfl rfl (set_box _ hk.r.2) ⟨by simp, fun D' hD' => by rw [List.mem_singleton] at hD'; subst hD'; exact (h2.block D' (Array.getElem?_eq_some_iff.1 hdef).1 fun e => hRD e.symm).trans hdef⟩ fun W' ho => ⟨_, rfl, ?_⟩
    rw [HEQ.out]
    have hs1 := hk.o.size
    have hs2 := h2.size
    have hs3 := ho.size
    have hsa := HSA.out
    have hs8 := HS8.out
    have hDl := (Array.getElem?_eq_some_iff.1 hdef).1
    have hoD : ∀ k, k < W1.heap.size → k ≠ RB → k ≠ D → W'.heap[k]? = W1.heap[k]? := fun k h1 h3 h4 => (ho.block k (by omega) (fun h => h4 (by simpa using h))).trans (h2.block k h1 h3)
    refine ⟨(HV.out.2.frame fun k hk1 hk2 => hoD k hk2 hk1.2.1 fun e => ?_).sub fun k hk1 => ⟨hk1.2.2.2, ?_⟩, ?_⟩
    · exact HAD.out k hk1.1 e
    · have := hA.lt k (.inl hk1.1); omega
    · exact ⟨ho.os.trans (h2.os.trans hk.o.os), ho.tape.trans (h2.tape.trans hk.o.tape), ho.output.trans (h2.output.trans hk.o.output), by omega, fun k hkk => (hoD k (by omega) (by omega) (by omega)).trans (hk.o.block k hkk)⟩
  case stop =>
    rintro D c pre Y1 W1 hD hYD hokY ⟨⟨⟨S, A, a1, a2, _, a4⟩, s, hs, hbig⟩, rfl⟩ hdef
    have HEQ : Hid (giL t u = []) := Lib.hid (inst_large HOK.out HU.out HPW.out hs hbig)
    have HKK := Lib.hid (And.intro a4 (And.intro hdef hD))
    clear a1 a2 a4 hdef hYD hokY hs hbig
    gi_wp2
    show LeavesInM Fence.wide 5 Try.prog _ _ _ ([D].map mk) .returning W1
    obtain ⟨hk, hdef, hD⟩ := HKK.out
    refine ground_leave rfl rfl hk.r.2 ⟨by simp, fun D' hD' => by rw [List.mem_singleton] at hD'; subst hD'; exact hdef⟩ fun W' ho => ⟨_, rfl, ?_⟩
    rw [HEQ.out]
    have hs1 := hk.o.size
    have hs3 := ho.size
    have hsa := HSA.out
    have hs8 := HS8.out
    exact ⟨.nil _, ho.os.trans hk.o.os, ho.tape.trans hk.o.tape, ho.output.trans hk.o.output, by omega, fun k hkk => (ho.block k (by omega) (fun h => by simp at h; omega)).trans (hk.o.block k hkk)⟩
  case body =>
    intro lp pre s va' a' Y1 W1 hlp hrr hlY hokY hpre hAx
    obtain ⟨b, u3, u5, u8, u9, u10, u11, u12, u13, u14, u15, u16, u17, u18, u19, u20, u21, u22, u23, u24, u25, u26, u27, u28, u29, u30, u31, u32, u33, u34, u35, u36, u37, u38, u39, u40, u41, u42, u43, u44, u45, rfl, ⟨hL1, hnd⟩, hbp, hm, rfl⟩ := hAx
    obtain ⟨A, a1, a2, _, a4⟩ := hL1
    obtain ⟨i0, hi, hz0, hz1, hz2⟩ := info_parts infoTerm
    have HII := Lib.hid (And.intro hi (And.intro hz0 (And.intro hz1 hz2)))
    have hsm : s ∈ asgL u (ordOf [t]) := hpre.subset (by simp)
    have hsl : s.length ≤ 1048576 := by
      have h1 : s.length = (ordOf [t]).length := by rw [← (asg_mem.1 hsm).1, List.length_map]
      have h2 := giVs_ord t
      have h3 := giVs_len t
      have h4 := vl_len t
      have h5 := HOK.out.1
      omega
    have hpl : (insOf t pre).length ≤ 512 := by
      have h1 := hpre.length_le
      have h2 := asg_len (u := u) (ordOf [t])
      have h3 := HPW.out
      unfold insOf
      simp at h1 ⊢
      omega
    have HC9 : Hid (CallsIn (Fence.wide.inRound lp) 4 Try.prog 55 #[.map (some b), .agg #[.int .i64 t.kind, .int .i64 t.num, .string t.name, .slice ta t.args.length tc]] W1 (NewTm2 (fitT s t) (fitB s t) W1)) := Lib.hid (CallsIn.inRound lp ((callsIn_wide (n := 4)).2 (apply_any b s t _ W1 (hm.g hsl) (asg_fit (uni_ok HU.out) hsm) (HT.out.kept a4.o) hZt HOK.out.2)))
    have HFX : Hid (fitB s t = true → fitT s t = putT s t ∧ (putT s t).nodes ≤ 5000) := Lib.hid fun h => by
      have h' : (putT s t).nodes ≤ 5000 := by unfold fitB at h; exact of_decide_eq_true h
      exact ⟨by rw [fitT, if_pos h'], h'⟩
    have HFN : Hid (fitB s t = false → ¬ (putT s t).nodes ≤ 5000) := Lib.hid fun h => by unfold fitB at h; exact of_decide_eq_false h
    have HSM := Lib.hid hsm
    have HND := Lib.hid hnd
    obtain ⟨V, v1, v2⟩ := a4.l.2
    obtain ⟨oa, oc, rfl⟩ := v2.argsAt.slice
    have HV := Lib.hid (And.intro v1 v2)
    have HFT := Lib.hid (And.intro a1 (And.intro a2 (And.intro hokY a4)))
    obtain ⟨q0, q1, q2, q3, _⟩ := box_cells a4.b.2
    have z2 := (Array.getElem?_eq_some_iff.1 a4.b.2).1
    clear a1 a2 a4 v1 v2 hokY hm hbp hsm hnd hsl hpre hrr hlY
    generalize fitT s t = X at HC9 HFX
    generalize fitB s t = q at HC9 HFX HFN
    gi_wp2_with fail
    refine ⟨trivial, ?_⟩
    refine HC9.out.mono ?_
    rintro e W2 ⟨U, rfl, hn⟩
    obtain ⟨xa, xc, rfl⟩ := hn.1.argsAt.slice
    have HN := Lib.hid hn
    clear HC9 q0 q1 q2 q3 z2 hn
    gi_upto_region 10 with (fail)
    have hal : Below W2.heap.size W2 (W2.alloc (.cells #[.int .i64 X.kind, .int .i64 X.num, .string X.name, .slice xa X.args.length xc] 46)) := belowAlloc (Below.refl _ _) _
    have HIB := Lib.hid (World.alloc_heap_new W2 (.cells #[.int .i64 X.kind, .int .i64 X.num, .string X.name, .slice xa X.args.length xc] 46))
    have HAL := Lib.hid hal
    have HS3 : Hid ((W2.alloc (.cells #[.int .i64 X.kind, .int .i64 X.num, .string X.name, .slice xa X.args.length xc] 46)).heap.size = W2.heap.size + 1) := Lib.hid (by simp)
    clear hal
    generalize hW3 : W2.alloc (.cells #[.int .i64 X.kind, .int .i64 X.num, .string X.name, .slice xa X.args.length xc] 46) = W3 at HIB HAL HS3 ⊢
    clear hW3
    obtain ⟨IB, hIB⟩ : ∃ IB, W2.heap.size = IB := ⟨_, rfl⟩
    rw [hIB] at HIB HS3 ⊢
    have HIE := Lib.hid hIB
    clear hIB
    have HB3 : Hid (Below W1.heap.size W1 W3) := Lib.hid (belowOn HN.out.2 (Nat.le_refl _) HAL.out)
    cases q with
    | false =>
      have hbr3 := (HB3.out.block RB (Array.getElem?_eq_some_iff.1 HFT.out.2.2.2.r.2).1).trans HFT.out.2.2.2.r.2
      have c4 := cells1_of hbr3
      have f4 := frozen_box hbr3 0
      have z4 := (Array.getElem?_eq_some_iff.1 hbr3).1
      have HF : Hid (Only (fun k => ¬ Y1.on k ∨ AsgK #[.map (some b)] k) W1 (W3.setCell ⟨RB, 0, none⟩ (.slice none 0 0)) ∧ ((∃ S, Lift JT (KI w RB LB TB t (.slice ta t.args.length tc) S) () Y1 (W3.setCell ⟨RB, 0, none⟩ (.slice none 0 0))) ∧ ∃ s, s ∈ asgL u (ordOf [t]) ∧ ¬ (putT s t).nodes ≤ 5000)) := Lib.hid (by
        obtain ⟨f1, f2, f3, f4⟩ := HFT.out
        have ho := only_set W3 RB (.slice none 0 0)
        have hs3 := HB3.out.size
        have hso := ho.size
        refine ⟨(Only.of_below HB3.out).trans (ho.sub fun k hk => .inl fun hy => ?_), ⟨insOf t pre, A, f1.up (by omega), f2, trivial, (f4.only (Only.of_below HB3.out)).setR⟩, s, HSM.out, HFN.out rfl⟩
        rw [hk] at hy
        rcases hy with h | h
        · exact f2.on RB (.inl f4.r.1) h
        · exact f2.z RB f4.r.1 h)
      clear hbr3 HFX HFN
      gi_wp2
      exact ⟨HF.out.1, HF.out.2, rfl⟩
    | true =>
      obtain ⟨hX, hXn⟩ := HFX.out rfl
      have HX := Lib.hid (And.intro hX hXn)
      have hbl3 := (HB3.out.block LB (Array.getElem?_eq_some_iff.1 HV.out.1).1).trans HV.out.1
      have HBL := Lib.hid hbl3
      have HXS : Hid (insOf t (pre ++ [s]) = insOf t pre ++ [X] ∧ ∀ s' ∈ pre ++ [s], (putT s' t).nodes ≤ 5000) := Lib.hid ⟨by rw [insOf_snoc, hX], fun s' h => by rcases List.mem_append.1 h with h | h; exact HND.out s' h; rw [List.mem_singleton] at h; rw [h]; exact hXn⟩
      clear hX hXn hbl3 HFX HFN
      gi_upto_region 12 with (fail)
      obtain ⟨L, CC, hL, hrow, hbk, hr, hC, hd⟩ := Own.parts (HV.out.2.frame (w' := W3.drew) fun k hk hl => HB3.out.block k hl)
      have hLn : (insOf t pre).length = L.length := by rw [hL, List.length_map]
      rw [← hLn] at hrow
      obtain ⟨m, hm⟩ : ∃ m, (insOf t pre).length = m := ⟨_, rfl⟩
      rw [hm] at hrow hLn hpl HBL
      simp only [hm] at hbk hC
      have HROW := Lib.hid hrow
      have HPA := Lib.hid (And.intro hL (And.intro hLn (And.intro hbk (And.intro hr (And.intro hC (And.intro hd hm))))))
      clear hL hLn hrow hbk hr hC hd hm
      have HBI : Hid (∀ W' : World, (∀ k, k = IB → W'.heap[k]? = W3.heap[k]?) → W'.cell? ⟨IB, 0, none⟩ = some (.int .i64 X.kind) ∧ W'.cell? ⟨IB, 1, none⟩ = some (.int .i64 X.num) ∧ W'.cell? ⟨IB, 2, none⟩ = some (.string X.name) ∧ W'.cell? ⟨IB, 3, none⟩ = some (.slice xa X.args.length xc)) := Lib.hid fun W' hW => by
        obtain ⟨q0, q1, q2, q3, _⟩ := box_cells ((hW IB rfl).trans HIB.out)
        exact ⟨q0, q1, q2, q3⟩
      have hHS : Hid (W3.drew.cell? ⟨IB, 0, none⟩ = some (.int .i64 X.kind) ∧ W3.drew.cell? ⟨IB, 1, none⟩ = some (.int .i64 X.num) ∧ W3.drew.cell? ⟨IB, 2, none⟩ = some (.string X.name) ∧ W3.drew.cell? ⟨IB, 3, none⟩ = some (.slice xa X.args.length xc)) := Lib.hid (HBI.out W3.drew fun k _ => rfl)
      have HLT : Hid (LB < W1.heap.size ∧ W1.heap.size ≤ W2.heap.size ∧ W2.heap.size = IB ∧ W3.heap.size = IB + 1 ∧ (∀ k, KC w RB LB A k → k < W1.heap.size)) := Lib.hid ⟨(Array.getElem?_eq_some_iff.1 HV.out.1).1, HN.out.2.size, HIE.out, HS3.out, fun k hk => HFT.out.1.lt k (.inl hk.1)⟩
      obtain ⟨W4, hW4⟩ : ∃ W4, W3.drew.alloc (.cells #[.int .i64 0, .int .i64 0, .string ⟨#[]⟩, .slice none 0 0] 46) = W4 := ⟨_, rfl⟩
      have HW4 := Lib.hid hW4
      have HSC4 : Hid (W4.cell? ⟨IB, 0, none⟩ = some (.int .i64 X.kind) ∧ W4.cell? ⟨IB, 1, none⟩ = some (.int .i64 X.num) ∧ W4.cell? ⟨IB, 2, none⟩ = some (.string X.name) ∧ W4.cell? ⟨IB, 3, none⟩ = some (.slice xa X.args.length xc)) := Lib.hid (HBI.out W4 fun k hk => by
        rw [← hW4]
        have := HLT.out
        exact Below.heap_alloc W3.drew _ k (by show k < W3.heap.size; omega))
      have cl3 : W3.drew.cell? ⟨LB, 0, none⟩ = some (.slice oa m oc) := cells1_of HBL.out
      have cl4 : W4.cell? ⟨LB, 0, none⟩ = some (.slice oa m oc) := by
        rw [← hW4]
        exact cells1_of ((Below.heap_alloc W3.drew _ LB (by show LB < W3.heap.size; have := HLT.out; omega)).trans HBL.out)
      have m0 : (0 : Int) ≤ (m : Int) := by omega
      have m1 : (m : Int) < ((m + 1 : Nat) : Int) := by omega
      have m2 : (m : Int) < (m : Int) + 1 := by omega
      have HR4 : Hid (W4.ownsRow 0 46 4 (.slice oa m oc) m (cellsL L)) := Lib.hid (by rw [← HW4.out]; exact HROW.out.alloc _)
      have HB4 : Hid (W4.heap[W3.heap.size]? = some (.cells #[.int .i64 0, .int .i64 0, .string ⟨#[]⟩, .slice none 0 0] 46)) := Lib.hid (by rw [← HW4.out]; exact World.alloc_heap_new W3.drew _)
      have HS4 : Hid (W4.heap.size = W3.heap.size + 1) := Lib.hid (by rw [← HW4.out]; show (W3.drew.alloc _).heap.size = _; simp)
      have HB34 : Hid (Below W3.drew.heap.size W3.drew W4) := Lib.hid (by rw [← HW4.out]; exact belowAlloc (Below.refl _ _) _)
      -- behind the append
      have HAFT : Hid (∀ (gg cap : Nat) (W5 : World), W5.ownsRow 0 46 4 (.slice (some ⟨gg, 0, none⟩) (m + 1) cap) (m + 1) (cellsL L ++ cells4 zeroTm (.slice none 0 0)) → W4.grownBy W5 (Value.slice oa m oc).ownBlock → ((Value.slice oa m oc).ownBlock = some gg ∨ gg = W3.heap.size + 1) → gg < W5.heap.size →
          (W5.cell? ⟨IB, 0, none⟩ = some (.int .i64 X.kind) ∧ W5.cell? ⟨IB, 1, none⟩ = some (.int .i64 X.num) ∧ W5.cell? ⟨IB, 2, none⟩ = some (.string X.name) ∧ W5.cell? ⟨IB, 3, none⟩ = some (.slice xa X.args.length xc)) ∧ Own W5 46 (fun k => KC w RB LB A k ∨ k = gg) (.slice (some ⟨gg, 0, none⟩) (m + 1) cap) (insOf t pre ++ [zeroTm]) ∧ (KC w RB LB A gg ∨ W1.heap.size ≤ gg) ∧ gg ≠ LB ∧ gg ≠ IB ∧ W5.heap[LB]? = some (.cells #[.slice oa m oc] 35) ∧ Only (fun k => KC w RB LB A k ∨ W1.heap.size ≤ k) W1 W5 ∧
          Own W5 46 (iv W1.heap.size W2.heap.size) (.slice xa X.args.length xc) X.args ∧ (∀ k, iv W1.heap.size W2.heap.size k → ¬ (KC w RB LB A k ∨ k = gg)) ∧ W1.heap.size ≤ W5.heap.size ∧ W2.heap.size < W5.heap.size ∧ (∀ k, k = IB → W5.heap[k]? = W3.heap[k]?)) := Lib.hid fun gg cap W5 hown1 hgrow hat hlt1 => by
        obtain ⟨p1, p2, p3, p4, p5, p6, p7⟩ := HPA.out
        obtain ⟨l1, l2, l3, l4, l5⟩ := HLT.out
        have hs4 := HS4.out
        have hs5 := hgrow.size
        have hrw : ∀ k, (Value.slice oa m oc).ownBlock = some k → KC w RB LB A k := p3
        have hLBn : ∀ k, (Value.slice oa m oc).ownBlock = some k → k ≠ LB ∧ k < W1.heap.size := fun k hk => ⟨(hrw k hk).2.2.1, l5 k (hrw k hk)⟩
        have hb14 : Below W1.heap.size W1 W4 := belowOn HB3.out (Nat.le_refl _) ((HB34.out : Below W3.heap.size W3.drew W4) |> fun h => ⟨h.os, h.tape, h.output, h.size, h.block⟩)
        have kb : ∀ k, k < W4.heap.size → (Value.slice oa m oc).ownBlock ≠ some k → W5.heap[k]? = W4.heap[k]? := fun k h1 h2 => hgrow.block k h1 fun e => h2 e.symm
        have k43 : ∀ k, k < W3.heap.size → W4.heap[k]? = W3.heap[k]? := fun k h1 => HB34.out.block k h1
        have hgd : KC w RB LB A gg ∨ W1.heap.size ≤ gg := hat.imp (hrw gg) (fun h => by omega)
        refine ⟨HBI.out W5 fun k hk => (kb k (by omega) fun e => by have := (hLBn k e).2; omega).trans (k43 k (by omega)), ?_, hgd, ?_, ?_, (kb LB (by omega) fun e => (hLBn LB e).1 rfl).trans ((k43 LB (by omega)).trans HBL.out), ⟨hgrow.os.trans hb14.os, hgrow.tape.trans hb14.tape, hgrow.output.trans hb14.output, by have := hb14.size; omega, fun k h1 h2 => (kb k (by have := hb14.size; omega) fun e => h2 (.inl (hrw k e))).trans (hb14.block k h1)⟩, ?_, ?_, by have := hb14.size; omega, by omega, fun k hk => (kb k (by omega) fun e => by have := (hLBn k e).2; omega).trans (k43 k (by omega))⟩
        · have h := own_append (w := W3.drew) (W1 := W4) (S := KC w RB LB A) (Su := fun _ => False) (S' := fun k => KC w RB LB A k ∨ k = gg) (x := zeroTm) (u := .slice none 0 0) p2 p3 p4 p5 p6 (.nil _) (fun k hk => by have := l5 k hk; show k < W3.heap.size; omega) (fun k h => h.elim) HB34.out hown1 hgrow (hat.imp id (fun h => by show W3.heap.size ≤ gg; omega)) (fun k hk => by
            rcases hk with h | h | h
            · exact .inl h
            · exact h.elim
            · exact .inr h)
          rw [← p1] at h
          exact h
        · rcases hat with h | h
          · exact (hLBn gg h).1
          · omega
        · rcases hat with h | h
          · have := (hLBn gg h).2; omega
          · omega
        · exact HN.out.1.frame fun k hk hl => (kb k (by have := hk.2; omega) fun e => by have := (hLBn k e).2; have := hk.1; omega).trans ((k43 k (by have := hk.2; omega)).trans (HAL.out.block k hl))
        · rintro k hk (h | h)
          · have := l5 k h; have := hk.1; omega
          · rcases hat with h' | h'
            · have := (hLBn gg h').2; have := hk.1; omega
            · have := hk.2; omega
      have HFIN : Hid (∀ (gg cap : Nat) (W5 W : World), (KC w RB LB A gg ∨ W1.heap.size ≤ gg) → gg < W5.heap.size → Only (fun k => KC w RB LB A k ∨ W1.heap.size ≤ k) W1 W5 → W2.heap.size < W5.heap.size → Only (fun k => (KC w RB LB A k ∨ k = gg) ∨ k = LB) W5 W → W.heap[LB]? = some (.cells #[.slice (some ⟨gg, 0, none⟩) (m + 1) cap] 35) →
          Own W 46 (fun k => (KC w RB LB A k ∨ k = gg) ∨ iv W1.heap.size W2.heap.size k) (.slice (some ⟨gg, 0, none⟩) (m + 1) cap) ((insOf t pre ++ [zeroTm]).set m X) →
          Only (fun k => ¬ Y1.on k ∨ AsgK #[.map (some b)] k) W1 W ∧ Lift JT (KI w RB LB TB t (.slice ta t.args.length tc) (insOf t (pre ++ [s]))) () Y1 W ∧ ∀ s' ∈ pre ++ [s], (putT s' t).nodes ≤ 5000) := Lib.hid fun gg cap W5 W h1 h2 h3 h4 h5 h6 h7 => by
        obtain ⟨f1, f2, f3, f4⟩ := HFT.out
        have hset : (insOf t pre ++ [zeroTm]).set m X = insOf t pre ++ [X] := by
          rw [← HPA.out.2.2.2.2.2.2, List.set_append_right _ _ (Nat.le_refl _)]
          simp
        rw [hset] at h7
        obtain ⟨e1, e2⟩ := inst_fin (C := fun k => AsgK #[.map (some b)] k) f1 f2 f3 f4 h3 h1 h2 (h5.sub fun k hk => by
          rcases hk with (h | h) | h
          · exact .inl h
          · exact .inr (.inl h)
          · exact .inr (.inr (.inl h))) h6 (h7.sub fun k hk => by
          rcases hk with (h | h) | h
          · exact .inl h
          · exact .inr (.inl h)
          · exact .inr (.inr ⟨h.1, by have := h.2; omega⟩))
        rw [HXS.out.1]
        exact ⟨e1, e2, HXS.out.2⟩
      refine region_in (S := fun w' => w'.cell? ⟨IB, 0, none⟩ = some (.int .i64 X.kind) ∧ w'.cell? ⟨IB, 1, none⟩ = some (.int .i64 X.num) ∧ w'.cell? ⟨IB, 2, none⟩ = some (.string X.name) ∧ w'.cell? ⟨IB, 3, none⟩ = some (.slice xa X.args.length xc)) (by kernel_rfl) (by kernel_rfl) ?hq hHS.out (fun hHeld => ?_)
      case hq => exact fun _ _ h => h
      (refine wpAnyH_take (i := 1) (oi := ⟨_, _, _, _, _, _⟩) (v := ?_) rfl (by kernel_rfl) (by kernel_rfl) (by kernel_rfl) (fun _ _ _ h => h) (Or.inl ⟨by rfl, ?_⟩) (by assumption) ?_; rotate_left; focus ((intro w' hSw; (try dsimp only at hSw); go_simp; (try with_reducible rfl)))); (try simp only [Act.put, List.setIfInBounds_toArray, List.set_cons_zero, List.set_cons_succ])
      refine wpAnyH_ready (rs := [0, 3]) (by kernel_rfl) (by simp) ?_
      refine AllReadyH.cons (o := ⟨_, _, _, _, _, _⟩) rfl (fun K hK => ?_) (AllReadyH.cons (o := ⟨_, _, _, _, _, _⟩) rfl (fun K hK => ?_) AllReadyH.nil)
      · go_simp
        (try rw [hW4])
        refine hK.out _ _ hHS.out (fun hHeld => ?_)
        clear hK K
        (try simp only [Act.put, List.setIfInBounds_toArray, List.set_cons_zero, List.set_cons_succ])
        (refine wpAnyH_take (i := 2) (oi := ⟨_, _, _, _, _, _⟩) (v := ?_) rfl (by kernel_rfl) (by kernel_rfl) (by kernel_rfl) (fun _ _ _ h => h) (Or.inl ⟨by rfl, ?_⟩) (by assumption) ?_; rotate_left; focus ((intro w' hSw; (try dsimp only at hSw); go_simp; (try with_reducible rfl)))); (try simp only [Act.put, List.setIfInBounds_toArray, List.set_cons_zero, List.set_cons_succ])
        refine wpAnyH_ready (rs := [3]) (by kernel_rfl) (by simp) ?_
        refine AllReadyH.cons (o := ⟨_, _, _, _, _, _⟩) rfl (fun K hK => ?_) AllReadyH.nil
        go_simp
        (try rw [hW4])
        refine hK.out _ _ HSC4.out (fun hHeld => ?_)
        clear hK K
        (try simp only [Act.put, List.setIfInBounds_toArray, List.set_cons_zero, List.set_cons_succ])
        refine wpAnyH_ready (rs := [4]) (by kernel_rfl) (by simp) ?_
        refine AllReadyH.cons (o := ⟨_, _, _, _, _, _⟩) rfl (fun K hK => ?_) AllReadyH.nil
        refine step_append_lies _ (by rfl) _ _ _ (by rfl) 0 46 i0 _ 4 56 Try.underlying35 HII.out.1 HII.out.2.1 HII.out.2.2.1 HII.out.2.2.2 rfl (by omega) (.slice oa m oc) m (cellsL L) (by rfl) HR4.out ⟨W3.heap.size, 0, none⟩ 1 1 (cells4 zeroTm (.slice none 0 0)) (by rfl) (by rfl) (World.news_of_block HB4.out) (by simp [cells4, zeroTm, Value.oneCell']) (by omega) (by unfold maxLen; omega) (by omega) (Nat.zero_le _) (W3.heap.size + 1) HS4.out ?_
        intro gg cap W5 hown1 hgrow hat hlt1
        obtain ⟨x1, x2, x3, x4, x5, x6, x7, x8, x9, x10, x11, x12⟩ := HAFT.out gg cap W5 hown1 hgrow hat hlt1
        have HX5 := Lib.hid (And.intro x1 (And.intro x2 (And.intro x3 (And.intro x4 (And.intro x5 (And.intro x6 (And.intro x7 (And.intro x8 (And.intro x9 (And.intro x10 (And.intro x11 (And.intro x12 hlt1))))))))))))
        clear x1 x2 x3 x4 x5 x6 x7 x8 x9 x10 x11 x12 hown1 hgrow hat hlt1
        refine hK.out _ _ HX5.out.1 (fun hHeld => ?_)
        clear hK K
        (try simp only [Act.put, List.setIfInBounds_toArray, List.set_cons_zero, List.set_cons_succ])
        (refine wpAnyH_take (i := 5) (oi := ⟨_, _, _, _, _, _⟩) (v := ?_) rfl (by kernel_rfl) (by kernel_rfl) (by kernel_rfl) (fun _ _ _ h => h) (Or.inl ⟨by rfl, ?_⟩) (by assumption) ?_; rotate_left; focus ((intro w' hSw; (try dsimp only at hSw); go_simp; (try with_reducible rfl)))); (try simp only [Act.put, List.setIfInBounds_toArray, List.set_cons_zero, List.set_cons_succ])
        obtain ⟨x1, x2, x3, x4, x5, x6, x7, x8, x9, x10, x11, x12, x13⟩ := HX5.out
        have hj : (insOf t pre ++ [zeroTm])[m]? = some zeroTm := by rw [← HPA.out.2.2.2.2.2.2, List.getElem?_append_right (Nat.le_refl _)]; simp
        have hLl := HLT.out
        have hLK : ∀ k, ((KC w RB LB A k ∨ k = gg) ∨ iv W1.heap.size W2.heap.size k) → k ≠ LB ∧ k ≠ IB := fun k hk => by
          rcases hk with (h | h) | h
          · exact ⟨h.2.2.1, by have := hLl.2.2.2.2 k h; omega⟩
          · rw [h]; exact ⟨x4, x5⟩
          · have h1 := h.1; have h2 := h.2; exact ⟨by omega, by omega⟩
        -- the element first
        obtain ⟨W6, hW6⟩ : ∃ W6, ((((W5.setCell ⟨gg, m * 4, none⟩ (.int .i64 X.kind)).setCell ⟨gg, m * 4 + 1, none⟩ (.int .i64 X.num)).setCell ⟨gg, m * 4 + 2, none⟩ (.string X.name)).setCell ⟨gg, m * 4 + 3, none⟩ (.slice xa X.args.length xc)) = W6 := ⟨_, rfl⟩
        have p6 := x2.put hj x8 x9
        rw [hW6] at p6
        have b6 : W6.heap[LB]? = some (.cells #[.slice oa m oc] 35) := (p6.1.block LB (Array.getElem?_eq_some_iff.1 x6).1 fun h => (hLK LB (.inl h)).1 rfl).trans x6
        have s6 : W6.cell? ⟨IB, 0, none⟩ = some (.int .i64 X.kind) ∧ W6.cell? ⟨IB, 1, none⟩ = some (.int .i64 X.num) ∧ W6.cell? ⟨IB, 2, none⟩ = some (.string X.name) ∧ W6.cell? ⟨IB, 3, none⟩ = some (.slice xa X.args.length xc) := HBI.out W6 fun k hk => (p6.1.block k (by rw [hk]; omega) fun h => (hLK k (.inl h)).2 hk).trans (x12 k hk)
        -- the row first
        obtain ⟨W8, hW8⟩ : ∃ W8, W5.setCell ⟨LB, 0, none⟩ (.slice (some ⟨gg, 0, none⟩) (m + 1) cap) = W8 := ⟨_, rfl⟩
        have o8 := only_set W5 LB (.slice (some ⟨gg, 0, none⟩) (m + 1) cap)
        rw [hW8] at o8
        have b8 : W8.heap[LB]? = some (.cells #[(.slice (some ⟨gg, 0, none⟩) (m + 1) cap)] 35) := by rw [← hW8]; exact set_box _ x6
        have p8 := x2.frame (w' := W8) fun k hk hl => o8.block k hl (hLK k (.inl hk)).1
        have u8 := x8.frame (w' := W8) fun k hk hl => o8.block k hl (hLK k (.inr hk)).1
        have s8 : W8.cell? ⟨IB, 0, none⟩ = some (.int .i64 X.kind) ∧ W8.cell? ⟨IB, 1, none⟩ = some (.int .i64 X.num) ∧ W8.cell? ⟨IB, 2, none⟩ = some (.string X.name) ∧ W8.cell? ⟨IB, 3, none⟩ = some (.slice xa X.args.length xc) := HBI.out W8 fun k hk => (o8.block k (by rw [hk]; omega) (by rw [hk]; omega)).trans (x12 k hk)
        have p9 := p8.put hj u8 x9
        obtain ⟨W9, hW9⟩ : ∃ W9, ((((W8.setCell ⟨gg, m * 4, none⟩ (.int .i64 X.kind)).setCell ⟨gg, m * 4 + 1, none⟩ (.int .i64 X.num)).setCell ⟨gg, m * 4 + 2, none⟩ (.string X.name)).setCell ⟨gg, m * 4 + 3, none⟩ (.slice xa X.args.length xc)) = W9 := ⟨_, rfl⟩
        rw [hW9] at p9
        have s9 : W9.cell? ⟨IB, 0, none⟩ = some (.int .i64 X.kind) ∧ W9.cell? ⟨IB, 1, none⟩ = some (.int .i64 X.num) ∧ W9.cell? ⟨IB, 2, none⟩ = some (.string X.name) ∧ W9.cell? ⟨IB, 3, none⟩ = some (.slice xa X.args.length xc) := HBI.out W9 fun k hk => (p9.1.block k (by rw [hk]; have := o8.size; omega) fun h => (hLK k (.inl h)).2 hk).trans ((o8.block k (by rw [hk]; omega) (by rw [hk]; omega)).trans (x12 k hk))
        have E9 := Lib.hid (HFIN.out gg cap W5 W9 x3 x13 x7 x11 ((o8.sub fun k hk => .inr hk).trans (p9.1.sub fun k hk => .inl hk)) ((p9.1.block LB (Array.getElem?_eq_some_iff.1 b8).1 fun h => (hLK LB (.inl h)).1 rfl).trans b8) p9.2)
        obtain ⟨W7, hW7⟩ : ∃ W7, W6.setCell ⟨LB, 0, none⟩ (.slice (some ⟨gg, 0, none⟩) (m + 1) cap) = W7 := ⟨_, rfl⟩
        have o7 := only_set W6 LB (.slice (some ⟨gg, 0, none⟩) (m + 1) cap)
        rw [hW7] at o7
        have s7 : W7.cell? ⟨IB, 0, none⟩ = some (.int .i64 X.kind) ∧ W7.cell? ⟨IB, 1, none⟩ = some (.int .i64 X.num) ∧ W7.cell? ⟨IB, 2, none⟩ = some (.string X.name) ∧ W7.cell? ⟨IB, 3, none⟩ = some (.slice xa X.args.length xc) := HBI.out W7 fun k hk => (o7.block k (by rw [hk]; have := p6.1.size; omega) (by rw [hk]; omega)).trans ((p6.1.block k (by rw [hk]; omega) fun h => (hLK k (.inl h)).2 hk).trans (x12 k hk))
        have E7 := Lib.hid (HFIN.out gg cap W5 W7 x3 x13 x7 x11 ((p6.1.sub fun k hk => .inl hk).trans (o7.sub fun k hk => .inr hk)) (by rw [← hW7]; exact set_box _ b6) (p6.2.frame fun k hk hl => o7.block k hl (hLK k hk).1))
        have HS6 := Lib.hid s6
        have HS7' := Lib.hid s7
        have HS8 := Lib.hid s8
        have HS9 := Lib.hid s9
        obtain ⟨gg', cap', VV, CV, hv', _, _, _, fr5, k0, k1, k2, k3, _⟩ := x2.at hj
        simp only [Value.slice.injEq, Option.some.injEq, Addr.mk.injEq] at hv'
        obtain ⟨⟨rfl, hq1⟩, hq2, rfl⟩ := hv'
        clear hq1 hq2
        obtain ⟨gg', cap', VV8, CV8, hv', _, _, _, fr8, j0, j1, j2, j3, _⟩ := p8.at hj
        simp only [Value.slice.injEq, Option.some.injEq, Addr.mk.injEq] at hv'
        obtain ⟨⟨rfl, hq1⟩, hq2, rfl⟩ := hv'
        clear hq1 hq2
        have fl5 := frozen_box x6 0
        have cl5 := cells1_of x6
        have cl6 := cells1_of b6
        have fl6 := frozen_box b6 0
        have zl5 := (Array.getElem?_eq_some_iff.1 x6).1
        have zl6 := (Array.getElem?_eq_some_iff.1 b6).1
        clear x1 x2 x3 x4 x5 x6 x7 x8 x9 x10 x11 x12 x13 hj hLl p6 b6 s6 o8 b8 p8 u8 s8 p9 s9 o7 s7 hLK
        refine wpAnyH_ready (rs := [6, 7]) (by kernel_rfl) (by simp) ?_
        refine AllReadyH.cons (o := ⟨_, _, _, _, _, _⟩) rfl (fun K hK => ?_) (AllReadyH.cons (o := ⟨_, _, _, _, _, _⟩) rfl (fun K hK => ?_) AllReadyH.nil)
        · go_simp
          (try rw [hW6])
          refine hK.out _ _ HS6.out (fun hHeld => ?_)
          clear hK K
          (try simp only [Act.put, List.setIfInBounds_toArray, List.set_cons_zero, List.set_cons_succ])
          refine wpAnyH_ready (rs := [7]) (by kernel_rfl) (by simp) ?_
          refine AllReadyH.cons (o := ⟨_, _, _, _, _, _⟩) rfl (fun K hK => ?_) AllReadyH.nil
          go_simp
          (try rw [hW7])
          refine hK.out _ _ HS7'.out (fun hHeld => ?_)
          clear hK K
          (try simp only [Act.put, List.setIfInBounds_toArray, List.set_cons_zero, List.set_cons_succ])
          refine wpAnyH_done (by kernel_rfl) ?_ _
          gi_wp2
          exact E7.out
        · go_simp
          (try rw [hW8])
          refine hK.out _ _ HS8.out (fun hHeld => ?_)
          clear hK K
          (try simp only [Act.put, List.setIfInBounds_toArray, List.set_cons_zero, List.set_cons_succ])
          refine wpAnyH_ready (rs := [6]) (by kernel_rfl) (by simp) ?_
          refine AllReadyH.cons (o := ⟨_, _, _, _, _, _⟩) rfl (fun K hK => ?_) AllReadyH.nil
          go_simp
          (try rw [hW9])
          refine hK.out _ _ HS9.out (fun hHeld => ?_)
          clear hK K
          (try simp only [Act.put, List.setIfInBounds_toArray, List.set_cons_zero, List.set_cons_succ])
          refine wpAnyH_done (by kernel_rfl) ?_ _
          gi_wp2
          exact E9.out
      · go_simp
        (try rw [hW4])
        refine hK.out _ _ HSC4.out (fun hHeld => ?_)
        clear hK K
        (try simp only [Act.put, List.setIfInBounds_toArray, List.set_cons_zero, List.set_cons_succ])
        refine wpAnyH_ready (rs := [0]) (by kernel_rfl) (by simp) ?_
        refine AllReadyH.cons (o := ⟨_, _, _, _, _, _⟩) rfl (fun K hK => ?_) AllReadyH.nil
        go_simp
        (try rw [hW4])
        refine hK.out _ _ HSC4.out (fun hHeld => ?_)
        clear hK K
        (try simp only [Act.put, List.setIfInBounds_toArray, List.set_cons_zero, List.set_cons_succ])
        (refine wpAnyH_take (i := 2) (oi := ⟨_, _, _, _, _, _⟩) (v := ?_) rfl (by kernel_rfl) (by kernel_rfl) (by kernel_rfl) (fun _ _ _ h => h) (Or.inl ⟨by rfl, ?_⟩) (by assumption) ?_; rotate_left; focus ((intro w' hSw; (try dsimp only at hSw); go_simp; (try with_reducible rfl)))); (try simp only [Act.put, List.setIfInBounds_toArray, List.set_cons_zero, List.set_cons_succ])
        refine wpAnyH_ready (rs := [4]) (by kernel_rfl) (by simp) ?_
        refine AllReadyH.cons (o := ⟨_, _, _, _, _, _⟩) rfl (fun K hK => ?_) AllReadyH.nil
        refine step_append_lies _ (by rfl) _ _ _ (by rfl) 0 46 i0 _ 4 56 Try.underlying35 HII.out.1 HII.out.2.1 HII.out.2.2.1 HII.out.2.2.2 rfl (by omega) (.slice oa m oc) m (cellsL L) (by rfl) HR4.out ⟨W3.heap.size, 0, none⟩ 1 1 (cells4 zeroTm (.slice none 0 0)) (by rfl) (by rfl) (World.news_of_block HB4.out) (by simp [cells4, zeroTm, Value.oneCell']) (by omega) (by unfold maxLen; omega) (by omega) (Nat.zero_le _) (W3.heap.size + 1) HS4.out ?_
        intro gg cap W5 hown1 hgrow hat hlt1
        obtain ⟨x1, x2, x3, x4, x5, x6, x7, x8, x9, x10, x11, x12⟩ := HAFT.out gg cap W5 hown1 hgrow hat hlt1
        have HX5 := Lib.hid (And.intro x1 (And.intro x2 (And.intro x3 (And.intro x4 (And.intro x5 (And.intro x6 (And.intro x7 (And.intro x8 (And.intro x9 (And.intro x10 (And.intro x11 (And.intro x12 hlt1))))))))))))
        clear x1 x2 x3 x4 x5 x6 x7 x8 x9 x10 x11 x12 hown1 hgrow hat hlt1
        refine hK.out _ _ HX5.out.1 (fun hHeld => ?_)
        clear hK K
        (try simp only [Act.put, List.setIfInBounds_toArray, List.set_cons_zero, List.set_cons_succ])
        (refine wpAnyH_take (i := 5) (oi := ⟨_, _, _, _, _, _⟩) (v := ?_) rfl (by kernel_rfl) (by kernel_rfl) (by kernel_rfl) (fun _ _ _ h => h) (Or.inl ⟨by rfl, ?_⟩) (by assumption) ?_; rotate_left; focus ((intro w' hSw; (try dsimp only at hSw); go_simp; (try with_reducible rfl)))); (try simp only [Act.put, List.setIfInBounds_toArray, List.set_cons_zero, List.set_cons_succ])
        obtain ⟨x1, x2, x3, x4, x5, x6, x7, x8, x9, x10, x11, x12, x13⟩ := HX5.out
        have hj : (insOf t pre ++ [zeroTm])[m]? = some zeroTm := by rw [← HPA.out.2.2.2.2.2.2, List.getElem?_append_right (Nat.le_refl _)]; simp
        have hLl := HLT.out
        have hLK : ∀ k, ((KC w RB LB A k ∨ k = gg) ∨ iv W1.heap.size W2.heap.size k) → k ≠ LB ∧ k ≠ IB := fun k hk => by
          rcases hk with (h | h) | h
          · exact ⟨h.2.2.1, by have := hLl.2.2.2.2 k h; omega⟩
          · rw [h]; exact ⟨x4, x5⟩
          · have h1 := h.1; have h2 := h.2; exact ⟨by omega, by omega⟩
        -- the element first
        obtain ⟨W6, hW6⟩ : ∃ W6, ((((W5.setCell ⟨gg, m * 4, none⟩ (.int .i64 X.kind)).setCell ⟨gg, m * 4 + 1, none⟩ (.int .i64 X.num)).setCell ⟨gg, m * 4 + 2, none⟩ (.string X.name)).setCell ⟨gg, m * 4 + 3, none⟩ (.slice xa X.args.length xc)) = W6 := ⟨_, rfl⟩
        have p6 := x2.put hj x8 x9
        rw [hW6] at p6
        have b6 : W6.heap[LB]? = some (.cells #[.slice oa m oc] 35) := (p6.1.block LB (Array.getElem?_eq_some_iff.1 x6).1 fun h => (hLK LB (.inl h)).1 rfl).trans x6
        have s6 : W6.cell? ⟨IB, 0, none⟩ = some (.int .i64 X.kind) ∧ W6.cell? ⟨IB, 1, none⟩ = some (.int .i64 X.num) ∧ W6.cell? ⟨IB, 2, none⟩ = some (.string X.name) ∧ W6.cell? ⟨IB, 3, none⟩ = some (.slice xa X.args.length xc) := HBI.out W6 fun k hk => (p6.1.block k (by rw [hk]; omega) fun h => (hLK k (.inl h)).2 hk).trans (x12 k hk)
        -- the row first
        obtain ⟨W8, hW8⟩ : ∃ W8, W5.setCell ⟨LB, 0, none⟩ (.slice (some ⟨gg, 0, none⟩) (m + 1) cap) = W8 := ⟨_, rfl⟩
        have o8 := only_set W5 LB (.slice (some ⟨gg, 0, none⟩) (m + 1) cap)
        rw [hW8] at o8
        have b8 : W8.heap[LB]? = some (.cells #[(.slice (some ⟨gg, 0, none⟩) (m + 1) cap)] 35) := by rw [← hW8]; exact set_box _ x6
        have p8 := x2.frame (w' := W8) fun k hk hl => o8.block k hl (hLK k (.inl hk)).1
        have u8 := x8.frame (w' := W8) fun k hk hl => o8.block k hl (hLK k (.inr hk)).1
        have s8 : W8.cell? ⟨IB, 0, none⟩ = some (.int .i64 X.kind) ∧ W8.cell? ⟨IB, 1, none⟩ = some (.int .i64 X.num) ∧ W8.cell? ⟨IB, 2, none⟩ = some (.string X.name) ∧ W8.cell? ⟨IB, 3, none⟩ = some (.slice xa X.args.length xc) := HBI.out W8 fun k hk => (o8.block k (by rw [hk]; omega) (by rw [hk]; omega)).trans (x12 k hk)
        have p9 := p8.put hj u8 x9
        obtain ⟨W9, hW9⟩ : ∃ W9, ((((W8.setCell ⟨gg, m * 4, none⟩ (.int .i64 X.kind)).setCell ⟨gg, m * 4 + 1, none⟩ (.int .i64 X.num)).setCell ⟨gg, m * 4 + 2, none⟩ (.string X.name)).setCell ⟨gg, m * 4 + 3, none⟩ (.slice xa X.args.length xc)) = W9 := ⟨_, rfl⟩
        rw [hW9] at p9
        have s9 : W9.cell? ⟨IB, 0, none⟩ = some (.int .i64 X.kind) ∧ W9.cell? ⟨IB, 1, none⟩ = some (.int .i64 X.num) ∧ W9.cell? ⟨IB, 2, none⟩ = some (.string X.name) ∧ W9.cell? ⟨IB, 3, none⟩ = some (.slice xa X.args.length xc) := HBI.out W9 fun k hk => (p9.1.block k (by rw [hk]; have := o8.size; omega) fun h => (hLK k (.inl h)).2 hk).trans ((o8.block k (by rw [hk]; omega) (by rw [hk]; omega)).trans (x12 k hk))
        have E9 := Lib.hid (HFIN.out gg cap W5 W9 x3 x13 x7 x11 ((o8.sub fun k hk => .inr hk).trans (p9.1.sub fun k hk => .inl hk)) ((p9.1.block LB (Array.getElem?_eq_some_iff.1 b8).1 fun h => (hLK LB (.inl h)).1 rfl).trans b8) p9.2)
        obtain ⟨W7, hW7⟩ : ∃ W7, W6.setCell ⟨LB, 0, none⟩ (.slice (some ⟨gg, 0, none⟩) (m + 1) cap) = W7 := ⟨_, rfl⟩
        have o7 := only_set W6 LB (.slice (some ⟨gg, 0, none⟩) (m + 1) cap)
        rw [hW7] at o7
        have s7 : W7.cell? ⟨IB, 0, none⟩ = some (.int .i64 X.kind) ∧ W7.cell? ⟨IB, 1, none⟩ = some (.int .i64 X.num) ∧ W7.cell? ⟨IB, 2, none⟩ = some (.string X.name) ∧ W7.cell? ⟨IB, 3, none⟩ = some (.slice xa X.args.length xc) := HBI.out W7 fun k hk => (o7.block k (by rw [hk]; have := p6.1.size; omega) (by rw [hk]; omega)).trans ((p6.1.block k (by rw [hk]; omega) fun h => (hLK k (.inl h)).2 hk).trans (x12 k hk))
        have E7 := Lib.hid (HFIN.out gg cap W5 W7 x3 x13 x7 x11 ((p6.1.sub fun k hk => .inl hk).trans (o7.sub fun k hk => .inr hk)) (by rw [← hW7]; exact set_box _ b6) (p6.2.frame fun k hk hl => o7.block k hl (hLK k hk).1))
        have HS6 := Lib.hid s6
        have HS7' := Lib.hid s7
        have HS8 := Lib.hid s8
        have HS9 := Lib.hid s9
        obtain ⟨gg', cap', VV, CV, hv', _, _, _, fr5, k0, k1, k2, k3, _⟩ := x2.at hj
        simp only [Value.slice.injEq, Option.some.injEq, Addr.mk.injEq] at hv'
        obtain ⟨⟨rfl, hq1⟩, hq2, rfl⟩ := hv'
        clear hq1 hq2
        obtain ⟨gg', cap', VV8, CV8, hv', _, _, _, fr8, j0, j1, j2, j3, _⟩ := p8.at hj
        simp only [Value.slice.injEq, Option.some.injEq, Addr.mk.injEq] at hv'
        obtain ⟨⟨rfl, hq1⟩, hq2, rfl⟩ := hv'
        clear hq1 hq2
        have fl5 := frozen_box x6 0
        have cl5 := cells1_of x6
        have cl6 := cells1_of b6
        have fl6 := frozen_box b6 0
        have zl5 := (Array.getElem?_eq_some_iff.1 x6).1
        have zl6 := (Array.getElem?_eq_some_iff.1 b6).1
        clear x1 x2 x3 x4 x5 x6 x7 x8 x9 x10 x11 x12 x13 hj hLl p6 b6 s6 o8 b8 p8 u8 s8 p9 s9 o7 s7 hLK
        refine wpAnyH_ready (rs := [6, 7]) (by kernel_rfl) (by simp) ?_
        refine AllReadyH.cons (o := ⟨_, _, _, _, _, _⟩) rfl (fun K hK => ?_) (AllReadyH.cons (o := ⟨_, _, _, _, _, _⟩) rfl (fun K hK => ?_) AllReadyH.nil)
        · go_simp
          (try rw [hW6])
          refine hK.out _ _ HS6.out (fun hHeld => ?_)
          clear hK K
          (try simp only [Act.put, List.setIfInBounds_toArray, List.set_cons_zero, List.set_cons_succ])
          refine wpAnyH_ready (rs := [7]) (by kernel_rfl) (by simp) ?_
          refine AllReadyH.cons (o := ⟨_, _, _, _, _, _⟩) rfl (fun K hK => ?_) AllReadyH.nil
          go_simp
          (try rw [hW7])
          refine hK.out _ _ HS7'.out (fun hHeld => ?_)
          clear hK K
          (try simp only [Act.put, List.setIfInBounds_toArray, List.set_cons_zero, List.set_cons_succ])
          refine wpAnyH_done (by kernel_rfl) ?_ _
          gi_wp2
          exact E7.out
        · go_simp
          (try rw [hW8])
          refine hK.out _ _ HS8.out (fun hHeld => ?_)
          clear hK K
          (try simp only [Act.put, List.setIfInBounds_toArray, List.set_cons_zero, List.set_cons_succ])
          refine wpAnyH_ready (rs := [6]) (by kernel_rfl) (by simp) ?_
          refine AllReadyH.cons (o := ⟨_, _, _, _, _, _⟩) rfl (fun K hK => ?_) AllReadyH.nil
          go_simp
          (try rw [hW9])
          refine hK.out _ _ HS9.out (fun hHeld => ?_)
          clear hK K
          (try simp only [Act.put, List.setIfInBounds_toArray, List.set_cons_zero, List.set_cons_succ])
          refine wpAnyH_done (by kernel_rfl) ?_ _
          gi_wp2
          exact E9.out
end Go.Proofs.Ytjpkkhhcpcokaaa

