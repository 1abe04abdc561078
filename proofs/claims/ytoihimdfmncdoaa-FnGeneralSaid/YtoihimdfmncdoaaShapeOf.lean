/-
  The program's numberOf: terms numbered by their shapes. (Written by wip/tools/gen_shapeof.py.)
-/
import Derived.Test.YtoihimdfmncdoaaImplGen
import Derived.Deep.RegionHeld3
namespace Go.Proofs.Ytoihimdfmncdoaa
open Go.RowKit
set_option linter.unusedVariables false
set_option linter.unusedSimpArgs false

theorem heap3_0 (w : World) (o1 o2 o3 : Obj) : (((w.alloc o1).alloc o2).alloc o3).heap[w.heap.size]? = some o1 := by
  refine (Below.heap_alloc _ _ _ (by rw [World.size_alloc, World.size_alloc]; omega)).trans ((Below.heap_alloc _ _ _ (by simp)).trans ?_)
  exact heap_new w o1
theorem heapD_0 (w : World) (o1 o2 : Obj) : ((w.alloc o1).alloc o2).heap[w.heap.size]? = some o1 := (Below.heap_alloc _ _ _ (by simp)).trans (heap_new w o1)
theorem heapD_1 (w : World) (o1 o2 : Obj) : ((w.alloc o1).alloc o2).heap[w.heap.size + 1]? = some o2 := by
  have := heap_new (w.alloc o1) o2
  rwa [World.size_alloc] at this
theorem num_end {ν : Tm → Option Nat} {F F' : Sh → Option Nat} {n n' i : Nat} {t : Tm} (hN : NumP ν n) (hF : TabP ν F) (ht : Good t) (pt : PartsIn ν t) (h : NumIn F n (shOf ν t) i F' n') :
    ∃ ν', NumP ν' n' ∧ TabP ν' F' ∧ n' ≤ n + 1 ∧ (∀ u j, ν u = some j → ν' u = some j) ∧ ν' t = some i := by
  rcases h with ⟨h1, rfl, rfl⟩ | ⟨h1, rfl, rfl, rfl⟩
  · exact ⟨ν, hN, hF, Nat.le_succ _, fun _ _ h => h, tab_had hN hF ht pt h1⟩
  · obtain ⟨k1, k2, k3⟩ := tab_new hN hF ht pt h1
    exact ⟨_, k1, k2, Nat.le_refl _, k3, if_pos rfl⟩
theorem nuI_wf {ν : Tm → Option Nat} {n : Nat} (hN : NumP ν n) (hn : n ≤ 1000000000) (t : Tm) : wfI (nuI ν t) := by
  unfold nuI
  cases h : ν t with
  | none => exact wfI_of (by simp) (by simp)
  | some i => have := (hN.good t i h).2; exact wfI_of (by show _ ≤ ((i : Nat) : Int); omega) (by show ((i : Nat) : Int) ≤ _; omega)
theorem shape_ok {ν : Tm → Option Nat} {n : Nat} (hN : NumP ν n) (hn : n ≤ 1000000000) {t : Tm} (ht : Good t) : shOk (shOf ν t) := by
  have h1 := Good.fit ht
  have h2 := h1.name_size
  have hk : wfI t.kind := by rcases h1 with h | h | h | h | h <;> exact wfI_of (by omega) (by omega)
  have hi : wfI t.num := by rcases h1 with h | h | h | h | h <;> exact wfI_of (by omega) (by omega)
  have h0 : wfI 0 := wfI_of (by omega) (by omega)
  unfold shOf
  split
  · exact ⟨hk, hi, by show t.name.size ≤ _; omega, nuI_wf hN hn _, nuI_wf hN hn _⟩
  · exact ⟨hk, hi, by show t.name.size ≤ _; omega, h0, h0⟩
def ShR (b : Nat) (ν : Tm → Option Nat) (n : Nat) (t : Tm) (w : World) (e : Ending) (w' : World) : Prop :=
  ∃ (ν' : Tm → Option Nat) (n' : Nat) (F' : Sh → Option Nat) (i : Nat), e = .returned (.int .i64 (i : Int)) ∧ NumP ν' n' ∧ TabP ν' F' ∧ MapN 85 shV shOk w' b n' F' ∧ n' ≤ n + t.nodes ∧ (∀ u j, ν u = some j → ν' u = some j) ∧ ν' t = some i ∧ Only (fun k => k = b) w w'
/-- The boxes of numberOf. -/
structure Bxs (m : Nat) (t : Tm) (V : Value) (h y : Int) (W : World) : Prop where
  ft : W.heap[m]? = some (.cells #[.int .i64 t.kind, .int .i64 t.num, .string t.name, V] 25)
  fs : W.heap[m + 1]? = some (.cells #[.int .i64 t.kind, .int .i64 t.num, .string t.name, .int .i64 h, .int .i64 y] 85)
theorem Bxs.kept {m : Nat} {t : Tm} {V : Value} {h y : Int} {W W' : World} (H : Bxs m t V h y W) (hb : Below W.heap.size W W') : Bxs m t V h y W' :=
  ⟨(hb.block _ (Array.getElem?_eq_some_iff.1 H.ft).1).trans H.ft, (hb.block _ (Array.getElem?_eq_some_iff.1 H.fs).1).trans H.fs⟩
theorem Bxs.maps {m : Nat} {t : Tm} {V : Value} {h y : Int} {W W' : World} {T : Nat → Prop} (H : Bxs m t V h y W) (ho : Only T W W') (hT : ∀ k, T k → k < W.heap.size → isMp W.heap[k]?) : Bxs m t V h y W' :=
  ⟨box_maps H.ft ho hT, box_maps H.fs ho hT⟩
theorem cells2_of {w : World} {b : Nat} {e : TypeId} {x0 x1 : Value} (h : w.heap[b]? = some (Obj.cells #[x0, x1] e)) : w.cell? ⟨b, 0, none⟩ = some x0 ∧ w.cell? ⟨b, 1, none⟩ = some x1 := ⟨cell_of_row w b 0 _ _ _ h, cell_of_row w b 1 _ _ _ h⟩
theorem Bxs.cells {m : Nat} {t : Tm} {V : Value} {h y : Int} {W : World} (H : Bxs m t V h y W) : W.cell? ⟨m, 0, none⟩ = some (.int .i64 t.kind) ∧ W.cell? ⟨m, 1, none⟩ = some (.int .i64 t.num) ∧ W.cell? ⟨m, 2, none⟩ = some (.string t.name) ∧ W.cell? ⟨m, 3, none⟩ = some V := by
  obtain ⟨c1, c2, c3, c4, _⟩ := box_cells H.ft
  exact ⟨c1, c2, c3, c4⟩

set_option maxRecDepth 100000 in
set_option maxHeartbeats 8000000 in
theorem numberOf_any (b : Nat) (N : Nat) : ∀ (t : Tm) (V : Value) (ν : Tm → Option Nat) (n : Nat) (F : Sh → Option Nat) (w : World), t.nodes < N → ArgsAt w V t.args → Good t → NumP ν n → TabP ν F → MapN 85 shV shOk w b n F → n + t.nodes ≤ 1000000000 →
    Calls Try.prog 63 #[.map (some b), .agg #[.int .i64 t.kind, .int .i64 t.num, .string t.name, V]] w (ShR b ν n t w) := by
  induction N with
  | zero => intro t V ν n F w hN; omega
  | succ N ih =>
    intro t V ν n F w hN hA ht hP hT hM hn
    obtain ⟨aa, ac, rfl⟩ := hA.slice
    have HI := Lib.hid ih
    have HG := Lib.hid ht
    have HP := Lib.hid (And.intro hP hT)
    have HNN := Lib.hid (And.intro hN hn)
    have hb1 : Below w.heap.size w ((w.alloc (.cells #[.int .i64 t.kind, .int .i64 t.num, .string t.name, .slice aa t.args.length ac] 25)).alloc (.cells #[.int .i64 t.kind, .int .i64 t.num, .string t.name, .int .i64 0, .int .i64 0] 85)) := belowAlloc (belowAlloc (Below.refl _ _) _) _
    have HA := Lib.hid (hA.kept hb1)
    have HM := Lib.hid (hM.kept hb1)
    have HW := Lib.hid hb1
    have HBX : Hid (Bxs w.heap.size t (.slice aa t.args.length ac) 0 0 ((w.alloc (.cells #[.int .i64 t.kind, .int .i64 t.num, .string t.name, .slice aa t.args.length ac] 25)).alloc (.cells #[.int .i64 t.kind, .int .i64 t.num, .string t.name, .int .i64 0, .int .i64 0] 85))) := Lib.hid ⟨heapD_0 _ _ _, heapD_1 _ _ _⟩
    have HBL := Lib.hid hM.lt
    clear hA ht hP hT hM hN hn ih hb1
    go_enter Try.func63, Try.ntmps63
    go_upto_region 2 with (fail)
    generalize hw1 : ((w.alloc (.cells #[.int .i64 t.kind, .int .i64 t.num, .string t.name, .slice aa t.args.length ac] 25)).alloc (.cells #[.int .i64 t.kind, .int .i64 t.num, .string t.name, .int .i64 0, .int .i64 0] 85)) = w1 at HA HM HW HBX ⊢
    clear hw1
    obtain ⟨c2, c3, c4, c5⟩ := HBX.out.cells
    have HZ := Lib.hid (And.intro (Array.getElem?_eq_some_iff.1 HBX.out.ft).1 (Array.getElem?_eq_some_iff.1 HBX.out.fs).1)
    have z2 := HZ.out.1
    go_wp2_with fail
    refine (isPair_any t.kind t.num t.name _ w1).mono ?_
    rintro e w2 ⟨rfl, hb⟩
    replace HA := Lib.hid (HA.out.kept hb)
    replace HM := Lib.hid (HM.out.kept hb)
    replace HW := Lib.hid (belowOn HW.out (Nat.le_refl _) hb)
    replace HBX := Lib.hid (HBX.out.kept hb)
    replace HZ := Lib.hid (And.intro (Array.getElem?_eq_some_iff.1 HBX.out.ft).1 (Array.getElem?_eq_some_iff.1 HBX.out.fs).1)
    clear hb c2 c3 c4 c5 z2
    by_cases h4 : t.kind = 4
    · have e4 : decide (t.kind = 4) = true := decide_eq_true h4
      rw [e4]
      clear e4
      go_upto_region 3 with (fail)
      obtain ⟨x, y, hte, hgx, hgy⟩ := good_pair HG.out h4
      have hxy : t.args = [x, y] := by rw [hte]; rfl
      obtain ⟨gp, offp, u1, u2, _, _, rfl, hgw, hlp, hcx, _, hax, _⟩ := HA.out.inS.two hxy
      have HLP := Lib.hid hlp
      have HGW := Lib.hid hgw
      have HCX := Lib.hid hcx
      have HAX := Lib.hid hax.at
      have HXY := Lib.hid hxy
      have HGG := Lib.hid (And.intro hgx hgy)
      have HH4 := Lib.hid h4
      have HPT : Hid (headT t = x ∧ tailT t = y) := Lib.hid (head_args hxy)
      have HNT : Hid (t.nodes = 1 + x.nodes + y.nodes) := Lib.hid (by rw [nodes_eq, hxy]; simp only [nodesL]; omega)
      have hself : Below w2.heap.size w2 w2 := Below.refl _ _
      have hdrew : Below w2.heap.size w2 w2.drew := hself.drew
      have HTR : Hid (∀ a c, Below w2.heap.size w2 a → Below a.heap.size a c → Below w2.heap.size w2 c) := Lib.hid fun a c h1 h2 => belowOn h1 (Nat.le_refl _) h2
      have HCE : Hid (∀ W, Below w2.heap.size w2 W → W.cell? ⟨w.heap.size, 0, none⟩ = some (.int .i64 t.kind) ∧ W.cell? ⟨w.heap.size, 1, none⟩ = some (.int .i64 t.num) ∧ W.cell? ⟨w.heap.size, 2, none⟩ = some (.string t.name) ∧ W.cell? ⟨w.heap.size, 3, none⟩ = some (.slice (some ⟨gp, offp, none⟩) t.args.length ac)) := Lib.hid fun W hW => (HBX.out.kept hW).cells
      have HH0 : Hid (∀ W, Below w2.heap.size w2 W → Calls Try.prog 93 #[.agg #[.int .i64 t.kind, .int .i64 t.num, .string t.name, .slice (some ⟨gp, offp, none⟩) t.args.length ac]] W fun e w' => e = .returned (.agg #[.int .i64 x.kind, .int .i64 x.num, .string x.name, .slice u1 x.args.length u2]) ∧ Below W.heap.size W w') := Lib.hid fun W hW => by
        obtain ⟨q0, q1, q2, q3⟩ := HCX.out W hW
        exact head_any t.kind t.num t.name gp offp t.args.length ac _ _ _ _ _ _ W (Nat.lt_of_lt_of_le HGW.out hW.size) (by have := HLP.out; omega) (by have := HLP.out; omega) q0 q1 q2 q3
      have HC1 : Hid (∀ W, Below w2.heap.size w2 W → Calls Try.prog 63 #[.map (some b), .agg #[.int .i64 x.kind, .int .i64 x.num, .string x.name, .slice u1 x.args.length u2]] W fun e wm => ∃ (i1 : Nat) (v1 : Option Addr) (v2 : Nat), e = .returned (.int .i64 (i1 : Int)) ∧ Hid (∀ W, Below wm.heap.size wm W → W.cell? ⟨w.heap.size, 0, none⟩ = some (.int .i64 t.kind) ∧ W.cell? ⟨w.heap.size, 1, none⟩ = some (.int .i64 t.num) ∧ W.cell? ⟨w.heap.size, 2, none⟩ = some (.string t.name) ∧ W.cell? ⟨w.heap.size, 3, none⟩ = some (.slice (some ⟨gp, offp, none⟩) t.args.length ac)) ∧
          Hid (∀ W, Below wm.heap.size wm W → Calls Try.prog 95 #[.agg #[.int .i64 t.kind, .int .i64 t.num, .string t.name, .slice (some ⟨gp, offp, none⟩) t.args.length ac]] W fun e w' => e = .returned (.agg #[.int .i64 y.kind, .int .i64 y.num, .string y.name, .slice v1 y.args.length v2]) ∧ Below W.heap.size W w') ∧
          Hid (∀ W, Below wm.heap.size wm W → Calls Try.prog 63 #[.map (some b), .agg #[.int .i64 y.kind, .int .i64 y.num, .string y.name, .slice v1 y.args.length v2]] W fun e wn => ∃ (i2 : Nat), e = .returned (.int .i64 (i2 : Int)) ∧ (wn.cell? ⟨w.heap.size, 0, none⟩ = some (.int .i64 t.kind) ∧ wn.cell? ⟨w.heap.size, 1, none⟩ = some (.int .i64 t.num) ∧ wn.cell? ⟨w.heap.size, 2, none⟩ = some (.string t.name) ∧ wn.cell? ⟨w.heap.size, 3, none⟩ = some (.slice (some ⟨gp, offp, none⟩) t.args.length ac)) ∧ Hid (Bxs w.heap.size t (.slice (some ⟨gp, offp, none⟩) t.args.length ac) 0 0 wn) ∧ ∃ (ν2 : Tm → Option Nat) (n2 : Nat) (F2 : Sh → Option Nat), Hid (NumP ν2 n2 ∧ TabP ν2 F2 ∧ MapN 85 shV shOk wn b n2 F2 ∧ n2 ≤ n + x.nodes + y.nodes ∧ (∀ u j, ν u = some j → ν2 u = some j) ∧ ν2 x = some i1 ∧ ν2 y = some i2 ∧ Only (fun k => k = b) w wn))) := Lib.hid fun W hW => by
        refine (HI.out x _ ν n F W (by have := HNN.out; have := HNT.out; omega) (HAX.out.kept hW) HGG.out.1 HP.out.1 HP.out.2 (HM.out.kept hW) (by have := HNN.out; have := HNT.out; omega)).mono ?_
        rintro e wm ⟨ν1, n1, F1, i1, rfl, a1, a2, a3, a4, a5, a6, a7⟩
        have hT : ∀ k, k = b → k < W.heap.size → isMp W.heap[k]? := fun k hk _ => by rw [hk]; exact (HM.out.kept hW).isMp
        have hBm := (HBX.out.kept hW).maps a7 hT
        have hAm := (HA.out.kept hW).maps a7 hT
        obtain ⟨g2, off2, _, _, v1, v2, he, hgw2, _, _, hcy, _, hay⟩ := hAm.inS.two HXY.out
        simp only [Option.some.injEq, Addr.mk.injEq, and_true] at he
        obtain ⟨rfl, rfl⟩ := he
        refine ⟨i1, v1, v2, rfl, Lib.hid fun W hW => (hBm.kept hW).cells, Lib.hid fun W hW => ?_, Lib.hid fun W2 hW2 => ?_⟩
        · obtain ⟨q0, q1, q2, q3⟩ := hcy W hW
          exact tail_any t.kind t.num t.name _ _ t.args.length ac _ _ _ _ _ _ W (Nat.lt_of_lt_of_le hgw2 hW.size) (by have := HLP.out; omega) (by have := HLP.out; omega) q0 q1 q2 q3
        · refine (HI.out y _ ν1 n1 F1 W2 (by have := HNN.out; have := HNT.out; omega) (hay.at.kept hW2) HGG.out.2 a1 a2 (a3.kept hW2) (by have := HNN.out; have := HNT.out; omega)).mono ?_
          rintro e wn ⟨ν2, n2, F2, i2, rfl, d1, d2, d3, d4, d5, d6, d7⟩
          have hT2 : ∀ k, k = b → k < W2.heap.size → isMp W2.heap[k]? := fun k hk _ => by rw [hk]; exact (a3.kept hW2).isMp
          have hBn := (hBm.kept hW2).maps d7 hT2
          exact ⟨i2, rfl, hBn.cells, Lib.hid hBn, ν2, n2, F2, Lib.hid ⟨d1, d2, d3, by omega, fun u j h => d5 u j (a5 u j h), d5 _ _ a6, d6, (((Only.of_below HW.out).trans (Only.of_below hW)).trans a7).trans ((Only.of_below hW2).trans d7)⟩⟩
      obtain ⟨k2, k3, k4, k5⟩ := HCE.out w2 hself
      have y2 := HZ.out.1
      have y3 := HZ.out.2
      clear hte hgx hgy hxy hgw hlp hcx hax h4 HA HM HBX HCX HAX HI
      refine wp_region_held_drew (S := (fun w' => w'.cell? ⟨w.heap.size, 0, none⟩ = some (.int .i64 t.kind) ∧ w'.cell? ⟨w.heap.size, 1, none⟩ = some (.int .i64 t.num) ∧ w'.cell? ⟨w.heap.size, 2, none⟩ = some (.string t.name) ∧ w'.cell? ⟨w.heap.size, 3, none⟩ = some (.slice (some ⟨gp, offp, none⟩) t.args.length ac))) (by kernel_rfl) (by (try dsimp only); go_keep) (fun hHeld => ?_)
      have m1 : ¬ w.heap.size + 1 = w.heap.size := by omega
      have m2 : ¬ w.heap.size = w.heap.size + 1 := by omega
      (refine wpAnyH_take (i := 0) (oi := ⟨_, _, _, _, _, _⟩) (v := ?_) rfl (by kernel_rfl) (by kernel_rfl) (by kernel_rfl) (fun _ _ _ h => h) (Or.inl ⟨by rfl, ?_⟩) (by assumption) ?_; rotate_left; focus ((intro w' hSw; (try dsimp only at hSw); go_simp; (try with_reducible rfl)))); (try simp only [Act.put, List.setIfInBounds_toArray, List.set_cons_zero, List.set_cons_succ])
      (refine wpAnyH_take (i := 1) (oi := ⟨_, _, _, _, _, _⟩) (v := ?_) rfl (by kernel_rfl) (by kernel_rfl) (by kernel_rfl) (fun _ _ _ h => h) (Or.inl ⟨by rfl, ?_⟩) (by assumption) ?_; rotate_left; focus ((intro w' hSw; (try dsimp only at hSw); go_simp; (try with_reducible rfl)))); (try simp only [Act.put, List.setIfInBounds_toArray, List.set_cons_zero, List.set_cons_succ])
      (refine wpAnyH_take (i := 4) (oi := ⟨_, _, _, _, _, _⟩) (v := ?_) rfl (by kernel_rfl) (by kernel_rfl) (by kernel_rfl) (fun _ _ _ h => h) (Or.inl ⟨by rfl, ?_⟩) (by assumption) ?_; rotate_left; focus ((intro w' hSw; (try dsimp only at hSw); go_simp; (try with_reducible rfl)))); (try simp only [Act.put, List.setIfInBounds_toArray, List.set_cons_zero, List.set_cons_succ])
      (refine wpAnyH_take (i := 5) (oi := ⟨_, _, _, _, _, _⟩) (v := ?_) rfl (by kernel_rfl) (by kernel_rfl) (by kernel_rfl) (fun _ _ _ h => h) (Or.inl ⟨by rfl, ?_⟩) (by assumption) ?_; rotate_left; focus ((intro w' hSw; (try dsimp only at hSw); go_simp; (try with_reducible rfl)))); (try simp only [Act.put, List.setIfInBounds_toArray, List.set_cons_zero, List.set_cons_succ])
      refine wpAnyH_ready (rs := [2]) (by kernel_rfl) (by simp) ?_
      refine AllReadyH.cons (o := ⟨_, _, _, _, _, _⟩) rfl (fun K hK => ?_) AllReadyH.nil
      go_simp
      (go_at_call 93; (with_reducible refine Calls.mono (HH0.out _ ?_) ?_); (assumption); rintro e w' ⟨rfl, hb⟩; have hB' := HTR.out _ _ (by assumption) hb; obtain ⟨k2, k3, k4, k5⟩ := HCE.out _ hB'; clear hb)
      (try go_wp2_with fail)
      refine hK.out _ _ (by (try dsimp only); (first | go_keep | (refine ⟨by assumption, ?_⟩; go_keep))) (fun hHeld => ?_)
      clear hK K
      (try simp only [Act.put, List.setIfInBounds_toArray, List.set_cons_zero, List.set_cons_succ])
      refine wpAnyH_ready (rs := [3]) (by kernel_rfl) (by simp) ?_
      refine AllReadyH.cons (o := ⟨_, _, _, _, _, _⟩) rfl (fun K hK => ?_) AllReadyH.nil
      go_simp
      (go_at_call 63; (with_reducible refine Calls.mono (HC1.out _ ?_) ?_); (assumption); rintro e wm ⟨i1, v1, v2, rfl, HCE2, HT0, HC2⟩; have hm0 := Below.refl wm.heap.size wm; have HTR2 := Lib.hid (fun (a c : World) (h1 : Below wm.heap.size wm a) (h2 : Below a.heap.size a c) => belowOn h1 (Nat.le_refl _) h2); obtain ⟨k2, k3, k4, k5⟩ := HCE2.out _ hm0)
      (try go_wp2_with fail)
      refine hK.out _ _ (by (try dsimp only); (first | go_keep | (refine ⟨by assumption, ?_⟩; go_keep))) (fun hHeld => ?_)
      clear hK K
      (try simp only [Act.put, List.setIfInBounds_toArray, List.set_cons_zero, List.set_cons_succ])
      (refine wpAnyH_take (i := 8) (oi := ⟨_, _, _, _, _, _⟩) (v := ?_) rfl (by kernel_rfl) (by kernel_rfl) (by kernel_rfl) (fun _ _ _ h => h) (Or.inl ⟨by rfl, ?_⟩) (by assumption) ?_; rotate_left; focus ((intro w' hSw; (try dsimp only at hSw); go_simp; (try with_reducible rfl)))); (try simp only [Act.put, List.setIfInBounds_toArray, List.set_cons_zero, List.set_cons_succ])
      refine wpAnyH_ready (rs := [6]) (by kernel_rfl) (by simp) ?_
      refine AllReadyH.cons (o := ⟨_, _, _, _, _, _⟩) rfl (fun K hK => ?_) AllReadyH.nil
      go_simp
      (go_at_call 95; (with_reducible refine Calls.mono (HT0.out _ ?_) ?_); (assumption); rintro e w' ⟨rfl, hb⟩; have hB' := HTR2.out _ _ (by assumption) hb; obtain ⟨k2, k3, k4, k5⟩ := HCE2.out _ hB'; clear hb)
      (try go_wp2_with fail)
      refine hK.out _ _ (by (try dsimp only); (first | go_keep | (refine ⟨by assumption, ?_⟩; go_keep))) (fun hHeld => ?_)
      clear hK K
      (try simp only [Act.put, List.setIfInBounds_toArray, List.set_cons_zero, List.set_cons_succ])
      refine wpAnyH_ready (rs := [7]) (by kernel_rfl) (by simp) ?_
      refine AllReadyH.cons (o := ⟨_, _, _, _, _, _⟩) rfl (fun K hK => ?_) AllReadyH.nil
      go_simp
      (go_at_call 63; (with_reducible refine Calls.mono (HC2.out _ ?_) ?_); (assumption); rintro e wn ⟨i2, rfl, ⟨k2, k3, k4, k5⟩, HBN, ν2, n2, F2, HFIN⟩; obtain ⟨s0, s1, s2, s3, s4, sf⟩ := box_cellsS HBN.out.fs; have y5 := (Array.getElem?_eq_some_iff.1 HBN.out.fs).1)
      (try go_wp2_with fail)
      refine hK.out _ _ (by (try dsimp only); (first | go_keep | (refine ⟨by assumption, ?_⟩; go_keep))) (fun hHeld => ?_)
      clear hK K
      (try simp only [Act.put, List.setIfInBounds_toArray, List.set_cons_zero, List.set_cons_succ])
      refine wpAnyH_ready (rs := [9]) (by kernel_rfl) (by simp) ?_
      refine AllReadyH.cons (o := ⟨_, _, _, _, _, _⟩) rfl (fun K hK => ?_) AllReadyH.nil
      go_simp
      skip
      (try go_wp2_with fail)
      refine hK.out _ _ (by (try dsimp only); (first | go_keep | (refine ⟨by assumption, ?_⟩; go_keep))) (fun hHeld => ?_)
      clear hK K
      (try simp only [Act.put, List.setIfInBounds_toArray, List.set_cons_zero, List.set_cons_succ])
      (refine wpAnyH_take (i := 10) (oi := ⟨_, _, _, _, _, _⟩) (v := ?_) rfl (by kernel_rfl) (by kernel_rfl) (by kernel_rfl) (fun _ _ _ h => h) (Or.inl ⟨by rfl, ?_⟩) (by assumption) ?_; rotate_left; focus ((intro w' hSw; (try dsimp only at hSw); go_simp; (try with_reducible rfl)))); (try simp only [Act.put, List.setIfInBounds_toArray, List.set_cons_zero, List.set_cons_succ])
      refine wpAnyH_ready (rs := [11]) (by kernel_rfl) (by simp) ?_
      refine AllReadyH.cons (o := ⟨_, _, _, _, _, _⟩) rfl (fun K hK => ?_) AllReadyH.nil
      go_simp
      skip
      (try go_wp2_with fail)
      refine hK.out _ _ (by (try dsimp only); (first | go_keep | (refine ⟨by assumption, ?_⟩; go_keep))) (fun hHeld => ?_)
      clear hK K
      (try simp only [Act.put, List.setIfInBounds_toArray, List.set_cons_zero, List.set_cons_succ])
      refine wpAnyH_done (by kernel_rfl) ?_ _
      have h0 := heap_setCell_same wn (w.heap.size + 1) 3 _ _ (.int .i64 (i1 : Int)) HBN.out.fs
      have h1 := heap_setCell_same _ (w.heap.size + 1) 4 _ _ (.int .i64 (i2 : Int)) h0
      have hoz : Only (fun k => k = w.heap.size + 1) wn ((wn.setCell ⟨w.heap.size + 1, 3, none⟩ (.int .i64 (i1 : Int))).setCell ⟨w.heap.size + 1, 4, none⟩ (.int .i64 (i2 : Int))) := Only.trans (b := wn.setCell ⟨w.heap.size + 1, 3, none⟩ (.int .i64 (i1 : Int))) (only_setCell wn ⟨w.heap.size + 1, 3, none⟩ _) (only_setCell _ ⟨w.heap.size + 1, 4, none⟩ _)
      have HS5 : Hid (((wn.setCell ⟨w.heap.size + 1, 3, none⟩ (.int .i64 (i1 : Int))).setCell ⟨w.heap.size + 1, 4, none⟩ (.int .i64 (i2 : Int))).heap[w.heap.size + 1]? = some (.cells #[.int .i64 t.kind, .int .i64 t.num, .string t.name, .int .i64 (i1 : Int), .int .i64 (i2 : Int)] 85)) := Lib.hid h1
      have HOZ := Lib.hid hoz
      clear h0 h1 hoz s0 s1 s2 s3 s4 sf y5 hHeld
      generalize hwz : (wn.setCell ⟨w.heap.size + 1, 3, none⟩ (.int .i64 (i1 : Int))).setCell ⟨w.heap.size + 1, 4, none⟩ (.int .i64 (i2 : Int)) = wz at HS5 HOZ ⊢
      clear hwz
      have HMZ : Hid (MapN 85 shV shOk wz b n2 F2) := Lib.hid (HFIN.out.2.2.1.frame (HOZ.out.block b HFIN.out.2.2.1.lt (by have := HBL.out; omega)))
      have HSH : Hid (shOf ν2 t = ⟨t.kind, t.num, t.name, (i1 : Int), (i2 : Int)⟩) := Lib.hid (by
        unfold shOf nuI
        rw [if_pos HH4.out, HPT.out.1, HPT.out.2, HFIN.out.2.2.2.2.2.1, HFIN.out.2.2.2.2.2.2.1]
        rfl)
      have HPIN : Hid (PartsIn ν2 t) := Lib.hid fun _ => by
        rw [HPT.out.1, HPT.out.2, HFIN.out.2.2.2.2.2.1, HFIN.out.2.2.2.2.2.2.1]
        exact ⟨fun h => (by cases h), fun h => (by cases h)⟩
      have HN2 : Hid (n2 + 1 ≤ n + t.nodes ∧ n2 ≤ 1000000000) := Lib.hid (by have := HFIN.out.2.2.2.1; have := HNT.out; have := HNN.out.2; omega)
      have hok := shape_ok HFIN.out.1 HN2.out.2 HG.out
      rw [HSH.out] at hok
      have HC := Lib.hid (numberS_any b n2 F2 ⟨t.kind, t.num, t.name, (i1 : Int), (i2 : Int)⟩ wz HMZ.out hok (by have := HN2.out.2; omega))
      obtain ⟨s0, s1, s2, s3, s4, _⟩ := box_cellsS HS5.out
      have y7 := (Array.getElem?_eq_some_iff.1 HS5.out).1
      clear hok
      go_wp2_with fail
      refine HC.out.mono ?_
      rintro e w9 ⟨i, F3, n3, rfl, hm, hnum, ho⟩
      rw [← HSH.out] at hnum
      have HEND : Hid (ShR b ν n t w (.returned (.int .i64 (i : Int))) w9) := Lib.hid (by
        obtain ⟨ν3, r1, r2, r3, r4, r5⟩ := num_end HFIN.out.1 HFIN.out.2.1 HG.out HPIN.out hnum
        refine ⟨ν3, n3, F3, i, rfl, r1, r2, hm, by have := HN2.out.1; omega, fun u j h => r4 u j (HFIN.out.2.2.2.2.1 u j h), r5, ?_⟩
        have o1 := HFIN.out.2.2.2.2.2.2.2
        exact ⟨ho.os.trans (HOZ.out.os.trans o1.os), ho.tape.trans (HOZ.out.tape.trans o1.tape), ho.output.trans (HOZ.out.output.trans o1.output), Nat.le_trans o1.size (Nat.le_trans HOZ.out.size ho.size), fun k hk hkb => ((ho.block k (Nat.lt_of_lt_of_le hk (Nat.le_trans o1.size HOZ.out.size)) hkb).trans (HOZ.out.block k (Nat.lt_of_lt_of_le hk o1.size) (fun e => by omega))).trans (o1.block k hk hkb)⟩)
      clear hm hnum ho HC s0 s1 s2 s3 s4 y7
      go_wp2
      go_ret
      exact HEND.out
    · have e4 : decide (t.kind = 4) = false := decide_eq_false h4
      rw [e4]
      have HH4 := Lib.hid h4
      have HSH : Hid (shOf ν t = ⟨t.kind, t.num, t.name, 0, 0⟩) := Lib.hid (by unfold shOf; rw [if_neg HH4.out])
      have HPIN : Hid (PartsIn ν t) := Lib.hid fun h => absurd h HH4.out
      have HN2 : Hid (n + 1 ≤ n + t.nodes ∧ n ≤ 1000000000) := Lib.hid (by have := nodes_pos t; have := HNN.out.2; omega)
      have hok := shape_ok HP.out.1 HN2.out.2 HG.out
      rw [HSH.out] at hok
      have HC := Lib.hid (numberS_any b n F ⟨t.kind, t.num, t.name, 0, 0⟩ w2 HM.out hok (by have := HN2.out.2; omega))
      obtain ⟨s0, s1, s2, s3, s4, _⟩ := box_cellsS HBX.out.fs
      have y7 := HZ.out.2
      clear hok e4 h4
      go_wp2_with fail
      refine HC.out.mono ?_
      rintro e w9 ⟨i, F3, n3, rfl, hm, hnum, ho⟩
      rw [← HSH.out] at hnum
      have HEND : Hid (ShR b ν n t w (.returned (.int .i64 (i : Int))) w9) := Lib.hid (by
        obtain ⟨ν3, r1, r2, r3, r4, r5⟩ := num_end HP.out.1 HP.out.2 HG.out HPIN.out hnum
        exact ⟨ν3, n3, F3, i, rfl, r1, r2, hm, by have := HN2.out.1; omega, r4, r5, (Only.of_below HW.out).trans ho⟩)
      clear hm hnum ho HC s0 s1 s2 s3 s4 y7
      go_wp2
      go_ret
      exact HEND.out
end Go.Proofs.Ytoihimdfmncdoaa

