/-
  ReplaceVar: what it answers; its contracts on both sides.
-/
import Derived.Test.YtokndpmoamjbfaaSpecCopy
import Derived.IntWalk
namespace Go.Proofs.Ytokndpmoamjbfaa
open Go.RowKit
set_option linter.unusedVariables false
set_option linter.unusedSimpArgs false

theorem good_sz {t : Tm} (h : Good t) : t.sz + 1 ≤ 13 * t.nodes := by
  induction h with
  | nil => simp [Tm.sz, Tm.nodes, szL, nodesL, ByteArray.size]
  | var i h0 h1 => simp [Tm.sz, Tm.nodes, szL, nodesL, ByteArray.size]
  | sym s h =>
    have := (Good.fit (.sym s h)).name_size
    have e : (Tm.mk 2 0 s []).name = s := rfl
    rw [e] at this
    simp [Tm.sz, Tm.nodes, szL, nodesL]
    omega
  | int i h0 h1 => simp [Tm.sz, Tm.nodes, szL, nodesL, ByteArray.size]
  | pair a b ha hb iha ihb =>
    rw [nodes_two]
    simp only [Tm.sz, szL]
    have : (⟨#[]⟩ : ByteArray).size = 0 := rfl
    omega

def RvOk (t : Tm) (v : Int) (b : Tm) : Prop := Ok t ∧ Ok b ∧ (t.put v b).nodes ≤ 5000
open Classical in
noncomputable def rvB (t : Tm) (v : Int) (b : Tm) : Bool := decide (RvOk t v b)
open Classical in
noncomputable def rvT (t : Tm) (v : Int) (b : Tm) : Tm := if RvOk t v b then t.put v b else zeroTm
theorem rv_no {t : Tm} {v : Int} {b : Tm} (h : ¬ RvOk t v b) : rvT t v b = zeroTm ∧ rvB t v b = false := ⟨by rw [rvT, if_neg h], by simp [rvB, h]⟩
theorem rv_yes {t : Tm} {v : Int} {b : Tm} (h : RvOk t v b) : rvT t v b = t.put v b ∧ rvB t v b = true := ⟨by rw [rvT, if_pos h], by simp [rvB, h]⟩

/-- The answer: a term that can be read and a yes or no. -/
def OldTm2 (t : Tm) (b : Bool) (w : World) (e : Ending) (w' : World) : Prop := ∃ u, e = .returned (.tuple #[.agg #[.int .i64 t.kind, .int .i64 t.num, .string t.name, u], .bool b]) ∧ ArgsS w' (iv w.heap.size w'.heap.size) u t.args ∧ Below w.heap.size w w'
theorem oldTm2_end {P : Program} {fn : Func} {t : Tm} {k i : Int} {s : ByteArray} {B : Bool} {C : Nat → Prop} {w wE : World} {a : Act} {p q : Tmp} {b : Nat} {x0 x1 x2 x3 u : Value} {fs : Array Field} (h1 : t.kind = k) (h2 : t.num = i) (h3 : t.name = s) (h : fn.results = #[.cell p 25, .tmp q]) (hp : a.tmps.getD p undef = .pointer (some ⟨b, 0, none⟩)) (hq : a.tmps.getD q undef = .bool B) (hd : a.defers = [])
    (hu : P.underlying 25 = some (.struct fs)) (hi : (P.info? 25).map (·.size) = some 4) (hb : wE.heap[b]? = some (Obj.cells #[x0, x1, x2, x3] 25))
    (hW : Below w.heap.size w wE) (hb1 : w.heap.size ≤ b) (hC : ¬ C b) (hC2 : ∀ k, C k → w.heap.size ≤ k ∧ k < wE.heap.size) (hn : ArgsS wE C u t.args) :
    bodyPost P fn (OldTm2 t B w) .ret a ((((wE.setCell ⟨b, 0, none⟩ (.int .i64 k)).setCell ⟨b, 1, none⟩ (.int .i64 i)).setCell ⟨b, 2, none⟩ (.string s)).setCell ⟨b, 3, none⟩ u) := by
  subst h1
  subst h2
  subst h3
  refine bodyPost_four2 h hp hq hd hu rfl hi hb fun w' hw => ⟨_, rfl, (hn.frame hw.size fun k hk hks => hw.block k hks (fun e => hC (by rw [← e]; exact hk))).sub fun k hk => ⟨(hC2 k hk).1, Nat.lt_of_lt_of_le (hC2 k hk).2 hw.size⟩, hW.trans (hw.below (fun k hk => by omega) hW.size)⟩

theorem Own.inS {w : World} {e : TypeId} {S : Nat → Prop} {v : Value} {l : List Tm} (h : Own w e S v l) : ArgsS w S v l := by
  induction h with
  | nil S => exact .nil none 0
  | row S g n cap L C l hl hn hg hown hr hC hd ih =>
    subst hl
    refine .row g 0 n cap (fun j => match L[j]? with | some p => p.2 | none => .bool false) _ (by simpa using hn) hg (row_hit hown) ?_ ?_
    · intro j t hj i v hv
      rw [List.getElem?_map] at hj
      obtain ⟨p, hp, rfl⟩ := Option.map_eq_some_iff.1 hj
      rw [hp] at hv
      have hi4 : i < 4 := by have := (List.getElem?_eq_some_iff.1 hv).1; simpa [cells4] using this
      have hjn : j < n := by have := (List.getElem?_eq_some_iff.1 hp).1; omega
      rw [Nat.zero_add, World.ownsRow.cellAt hown _ (by omega)]
      exact cellsL_at hp hv
    · intro j t hj
      rw [List.getElem?_map] at hj
      obtain ⟨p, hp, rfl⟩ := Option.map_eq_some_iff.1 hj
      rw [hp]
      exact (ih j p hp).sub fun k hk => (hC j k (by have := (List.getElem?_eq_some_iff.1 hp).1; omega) hk).1
theorem NewTm2.old {t : Tm} {b : Bool} {w w' : World} {e : Ending} (h : NewTm2 t b w e w') : OldTm2 t b w e w' := by
  obtain ⟨u, he, hn, hb⟩ := h
  exact ⟨u, he, hn.inS, hb⟩

set_option maxRecDepth 100000 in
set_option maxHeartbeats 4000000 in
theorem implReplaceVar_any (t : Tm) (V : Value) (v : Int) (b : Tm) (Vb : Value) (w : World) (hA : ArgsAt w V t.args) (hZ : t.sz ≤ 1048576) (hB : ArgsAt w Vb b.args) (hZb : b.sz ≤ 1048576) :
    Calls Try.prog 7 #[.agg #[.int .i64 t.kind, .int .i64 t.num, .string t.name, V], .int .i64 v, .agg #[.int .i64 b.kind, .int .i64 b.num, .string b.name, Vb]] w (NewTm2 (rvT t v b) (rvB t v b) w) := by
    obtain ⟨aa, ca, rfl⟩ := hA.slice
    obtain ⟨ab, cb, rfl⟩ := hB.slice
    have HNO : Hid (¬ RvOk t v b → rvT t v b = zeroTm ∧ rvB t v b = false) := Lib.hid rv_no
    have HYES : Hid (RvOk t v b → rvT t v b = t.put v b ∧ rvB t v b = true) := Lib.hid rv_yes
    generalize rvT t v b = r at HNO HYES ⊢
    generalize rvB t v b = c at HNO HYES ⊢
    have HA := Lib.hid (at_args hA)
    have HB := Lib.hid (at_args hB)
    have HW : Hid (Below w.heap.size w w) := Lib.hid (Below.refl _ _)
    clear hA hB
    have hal : Below w.heap.size w (w.alloc (.cells #[.int .i64 t.kind, .int .i64 t.num, .string t.name, .slice aa t.args.length ca] 25)) := (Below.refl _ _).alloc (Nat.le_refl _) _
    replace HA := Lib.hid (HA.out.read hal)
    replace HB := Lib.hid (HB.out.read hal)
    replace HW := Lib.hid (belowOn HW.out (Nat.le_refl _) hal)
    have HX := Lib.hid (at_box_of w #[.int .i64 t.kind, .int .i64 t.num, .string t.name, .slice aa t.args.length ca] 25 (w.heap.size) (by simp))
    clear hal
    have hal : Below (w.alloc (.cells #[.int .i64 t.kind, .int .i64 t.num, .string t.name, .slice aa t.args.length ca] 25)).heap.size (w.alloc (.cells #[.int .i64 t.kind, .int .i64 t.num, .string t.name, .slice aa t.args.length ca] 25)) ((w.alloc (.cells #[.int .i64 t.kind, .int .i64 t.num, .string t.name, .slice aa t.args.length ca] 25)).alloc (.cells #[.int .i64 b.kind, .int .i64 b.num, .string b.name, .slice ab b.args.length cb] 25)) := (Below.refl _ _).alloc (Nat.le_refl _) _
    replace HA := Lib.hid (HA.out.read hal)
    replace HB := Lib.hid (HB.out.read hal)
    replace HX := Lib.hid (HX.out.read hal)
    replace HW := Lib.hid (belowOn HW.out (Nat.le_refl _) hal)
    have HY := Lib.hid (at_box_of (w.alloc (.cells #[.int .i64 t.kind, .int .i64 t.num, .string t.name, .slice aa t.args.length ca] 25)) #[.int .i64 b.kind, .int .i64 b.num, .string b.name, .slice ab b.args.length cb] 25 (w.heap.size + 1) (by simp))
    clear hal
    have hal : Below ((w.alloc (.cells #[.int .i64 t.kind, .int .i64 t.num, .string t.name, .slice aa t.args.length ca] 25)).alloc (.cells #[.int .i64 b.kind, .int .i64 b.num, .string b.name, .slice ab b.args.length cb] 25)).heap.size ((w.alloc (.cells #[.int .i64 t.kind, .int .i64 t.num, .string t.name, .slice aa t.args.length ca] 25)).alloc (.cells #[.int .i64 b.kind, .int .i64 b.num, .string b.name, .slice ab b.args.length cb] 25)) (((w.alloc (.cells #[.int .i64 t.kind, .int .i64 t.num, .string t.name, .slice aa t.args.length ca] 25)).alloc (.cells #[.int .i64 b.kind, .int .i64 b.num, .string b.name, .slice ab b.args.length cb] 25)).alloc (.cells #[.int .i64 0, .int .i64 0, .string ⟨#[]⟩, .slice none 0 0] 25)) := (Below.refl _ _).alloc (Nat.le_refl _) _
    replace HA := Lib.hid (HA.out.read hal)
    replace HB := Lib.hid (HB.out.read hal)
    replace HX := Lib.hid (HX.out.read hal)
    replace HY := Lib.hid (HY.out.read hal)
    replace HW := Lib.hid (belowOn HW.out (Nat.le_refl _) hal)
    have HR := Lib.hid (at_box_of ((w.alloc (.cells #[.int .i64 t.kind, .int .i64 t.num, .string t.name, .slice aa t.args.length ca] 25)).alloc (.cells #[.int .i64 b.kind, .int .i64 b.num, .string b.name, .slice ab b.args.length cb] 25)) #[.int .i64 0, .int .i64 0, .string ⟨#[]⟩, .slice none 0 0] 25 (w.heap.size + 1 + 1) (by simp))
    clear hal
    go_enter Try.func7, Try.ntmps7
    go_upto_region 1 with (fail)
    generalize hw0 : ((w.alloc (.cells #[.int .i64 t.kind, .int .i64 t.num, .string t.name, .slice aa t.args.length ca] 25)).alloc (.cells #[.int .i64 b.kind, .int .i64 b.num, .string b.name, .slice ab b.args.length cb] 25)).alloc (.cells #[.int .i64 0, .int .i64 0, .string ⟨#[]⟩, .slice none 0 0] 25) = w0 at HA HB HX HY HR HW ⊢
    clear hw0
    have HO := Lib.hid (implTermOk_any t _ w0 HA.out.argsAt hZ)
    obtain ⟨c0a, c0b, c0c, c0d⟩ := HX.out.cells
    have z0 := HX.out.le
    obtain ⟨c1a, c1b, c1c, c1d⟩ := HY.out.cells
    have z1 := HY.out.le
    go_wp2_with fail
    refine HO.out.mono ?_
    rintro e w1 ⟨rfl, hb⟩
    clear c0a c0b c0c c0d c1a c1b c1c c1d z0 z1 HO
    replace HA := Lib.hid (HA.out.read hb)
    replace HB := Lib.hid (HB.out.read hb)
    replace HX := Lib.hid (HX.out.read hb)
    replace HY := Lib.hid (HY.out.read hb)
    replace HR := Lib.hid (HR.out.read hb)
    replace HW := Lib.hid (belowOn HW.out (Nat.le_refl _) hb)
    clear hb
    cases hoa : okB t with
    | false =>
      obtain ⟨rfl, rfl⟩ := HNO.out fun h => okB_false.1 hoa h.1
      clear hoa HNO HYES
      have HRE := Lib.hid HR.out.now
      obtain ⟨r0, r1, r2, r3, rf⟩ := box_cells HR.out.now
      have zr := HR.out.le
      go_wp2
      exact newTm2_end (t := zeroTm) (p := 6) (q := 7) (b := w.heap.size + 1 + 1) (W := w1) rfl rfl rfl rfl rfl rfl rfl Try.underlying25 (by kernel_rfl) HRE.out HW.out (by omega) (by omega) (zero_new (Below.refl _ _))
    | true =>
      have HOA := Lib.hid (okB_true.1 hoa)
      clear hoa
      have HO := Lib.hid (implTermOk_any b _ w1 HB.out.argsAt hZb)
      obtain ⟨c0a, c0b, c0c, c0d⟩ := HX.out.cells
      have z0 := HX.out.le
      obtain ⟨c1a, c1b, c1c, c1d⟩ := HY.out.cells
      have z1 := HY.out.le
      go_wp2_with fail
      refine HO.out.mono ?_
      rintro e w2 ⟨rfl, hb⟩
      clear c0a c0b c0c c0d c1a c1b c1c c1d z0 z1 HO
      replace HA := Lib.hid (HA.out.read hb)
      replace HB := Lib.hid (HB.out.read hb)
      replace HX := Lib.hid (HX.out.read hb)
      replace HY := Lib.hid (HY.out.read hb)
      replace HR := Lib.hid (HR.out.read hb)
      replace HW := Lib.hid (belowOn HW.out (Nat.le_refl _) hb)
      clear hb
      cases hob : okB b with
      | false =>
        obtain ⟨rfl, rfl⟩ := HNO.out fun h => okB_false.1 hob h.2.1
        clear hob HNO HYES
        have HRE := Lib.hid HR.out.now
        obtain ⟨r0, r1, r2, r3, rf⟩ := box_cells HR.out.now
        have zr := HR.out.le
        go_wp2
        exact newTm2_end (t := zeroTm) (p := 6) (q := 7) (b := w.heap.size + 1 + 1) (W := w2) rfl rfl rfl rfl rfl rfl rfl Try.underlying25 (by kernel_rfl) HRE.out HW.out (by omega) (by omega) (zero_new (Below.refl _ _))
      | true =>
        have HOB := Lib.hid (okB_true.1 hob)
        clear hob
        have HNP : Hid (((t.put v b).nodes : Int) = (t.nodes : Int) + (t.occ v : Int) * ((b.nodes : Int) - 1)) := Lib.hid (by
          have h : ((t.put v b).nodes : Int) + (t.occ v : Int) = (t.nodes : Int) + (t.occ v : Int) * (b.nodes : Int) := by exact_mod_cast nodes_put (v := v) (b := b) HOA.out.2
          rw [Int.mul_sub, Int.mul_one]
          omega)
        have hn1 : t.nodes ≤ 5000 := HOA.out.1
        have hn2 : b.nodes ≤ 5000 := HOB.out.1
        have hn3 := nodes_pos b
        have hn4 : t.occ v ≤ 5000 := Nat.le_trans (occ_nodes v t) hn1
        have hm0 : 0 ≤ (t.occ v : Int) * ((b.nodes : Int) - 1) := Int.mul_nonneg (by omega) (by omega)
        have hm1 : (t.occ v : Int) * ((b.nodes : Int) - 1) ≤ 5000 * 5000 := Int.mul_le_mul (by omega) (by omega) (by omega) (by omega)
        have hk1 : IntKind.i64.wrap ((b.nodes : Int) - 1) = (b.nodes : Int) - 1 := IntWalk.i64_in _ (by omega)
        have hk2 : IntKind.i64.wrap ((t.occ v : Int) * ((b.nodes : Int) - 1)) = (t.occ v : Int) * ((b.nodes : Int) - 1) := IntWalk.i64_in _ (by omega)
        have hk3 : IntKind.i64.wrap ((t.nodes : Int) + (t.occ v : Int) * ((b.nodes : Int) - 1)) = (t.nodes : Int) + (t.occ v : Int) * ((b.nodes : Int) - 1) := IntWalk.i64_in _ (by omega)
        go_upto_region 3 with (fail)
        go_cut [27] from 17 (fun c wx => c = .bool (decide ((5000 : Int) < (t.nodes : Int) + (t.occ v : Int) * ((b.nodes : Int) - 1))) ∧ Below w2.heap.size w2 wx)
        case first =>
          have hself : Below w2.heap.size w2 w2 := Below.refl _ _
          have hdrew : Below w2.heap.size w2 w2.drew := hself.drew
          obtain ⟨c0a, c0b, c0c, c0d⟩ := HX.out.cells
          have z0 := HX.out.le
          obtain ⟨c1a, c1b, c1c, c1d⟩ := HY.out.cells
          have z1 := HY.out.le
          have HCE : Hid (∀ W, Below w2.heap.size w2 W → W.cell? ⟨w.heap.size, 0, none⟩ = some (.int .i64 t.kind) ∧ W.cell? ⟨w.heap.size, 1, none⟩ = some (.int .i64 t.num) ∧ W.cell? ⟨w.heap.size, 2, none⟩ = some (.string t.name) ∧ W.cell? ⟨w.heap.size, 3, none⟩ = some (.slice aa t.args.length ca) ∧ W.cell? ⟨w.heap.size + 1, 0, none⟩ = some (.int .i64 b.kind) ∧ W.cell? ⟨w.heap.size + 1, 1, none⟩ = some (.int .i64 b.num) ∧ W.cell? ⟨w.heap.size + 1, 2, none⟩ = some (.string b.name) ∧ W.cell? ⟨w.heap.size + 1, 3, none⟩ = some (.slice ab b.args.length cb)) := Lib.hid fun W hW => by
            obtain ⟨y0a, y0b, y0c, y0d⟩ := (HX.out.read hW).cells
            obtain ⟨y1a, y1b, y1c, y1d⟩ := (HY.out.read hW).cells
            exact ⟨y0a, y0b, y0c, y0d, y1a, y1b, y1c, y1d⟩
          have HTR : Hid (∀ a b, Below w2.heap.size w2 a → Below a.heap.size a b → Below w2.heap.size w2 b) := Lib.hid fun a b h1 h2 => belowOn h1 (Nat.le_refl _) h2
          have HC0 : Hid (∀ W, Below w2.heap.size w2 W → Calls Try.prog 8 #[.agg #[.int .i64 t.kind, .int .i64 t.num, .string t.name, .slice aa t.args.length ca]] W fun e w' => e = .returned (.int .i64 (t.nodes : Int)) ∧ Below W.heap.size W w') := Lib.hid fun W hW => by
            have h := implTermSize_any t _ W (HA.out.read hW).argsAt hZ
            rw [size_ok HOA.out] at h
            exact h
          have HC1 : Hid (∀ W, Below w2.heap.size w2 W → Calls Try.prog 8 #[.agg #[.int .i64 b.kind, .int .i64 b.num, .string b.name, .slice ab b.args.length cb]] W fun e w' => e = .returned (.int .i64 (b.nodes : Int)) ∧ Below W.heap.size W w') := Lib.hid fun W hW => by
            have h := implTermSize_any b _ W (HB.out.read hW).argsAt hZb
            rw [size_ok HOB.out] at h
            exact h
          have HC2 : Hid (∀ W, Below w2.heap.size w2 W → Calls Try.prog 20 #[.agg #[.int .i64 t.kind, .int .i64 t.num, .string t.name, .slice aa t.args.length ca], .int .i64 v] W fun e w' => e = .returned (.int .i64 (t.occ v : Int)) ∧ Below W.heap.size W w') := Lib.hid fun W hW =>
            occurrences_any (t.nodes + 1) t _ v W (by omega) (HA.out.read hW).argsAt hZ
          clear HA HB HX HY HR HW
          go_region_held3 (fun w' => w'.cell? ⟨w.heap.size, 0, none⟩ = some (.int .i64 t.kind) ∧ w'.cell? ⟨w.heap.size, 1, none⟩ = some (.int .i64 t.num) ∧ w'.cell? ⟨w.heap.size, 2, none⟩ = some (.string t.name) ∧ w'.cell? ⟨w.heap.size, 3, none⟩ = some (.slice aa t.args.length ca) ∧ w'.cell? ⟨w.heap.size + 1, 0, none⟩ = some (.int .i64 b.kind) ∧ w'.cell? ⟨w.heap.size + 1, 1, none⟩ = some (.int .i64 b.num) ∧ w'.cell? ⟨w.heap.size + 1, 2, none⟩ = some (.string b.name) ∧ w'.cell? ⟨w.heap.size + 1, 3, none⟩ = some (.slice ab b.args.length cb)) (go_keep)
            (first
              | (go_at_call 8; (with_reducible refine Calls.mono (HC0.out _ ?_) ?_); (assumption); rintro e wA ⟨rfl, hbA⟩; have hA' := HTR.out _ _ (by assumption) hbA; obtain ⟨k0, k1, k2, k3, k4, k5, k6, k7⟩ := HCE.out _ hA')
              | (go_at_call 20; (with_reducible refine Calls.mono (HC2.out _ ?_) ?_); (assumption); rintro e wB ⟨rfl, hbB⟩; have hB' := HTR.out _ _ (by assumption) hbB; obtain ⟨k0, k1, k2, k3, k4, k5, k6, k7⟩ := HCE.out _ hB')
              | (go_at_call 8; (with_reducible refine Calls.mono (HC1.out _ ?_) ?_); (assumption); rintro e wC ⟨rfl, hbC⟩; have hC' := HTR.out _ _ (by assumption) hbC; obtain ⟨k0, k1, k2, k3, k4, k5, k6, k7⟩ := HCE.out _ hC'))
          all_goals (go_wp2_with fail; go_meet; exact ⟨rfl, by assumption⟩)
        case rest =>
          clear hk1 hk2 hk3 hm0 hm1
          obtain ⟨rfl, hb⟩ := hcut
          obtain ⟨w3, rfl⟩ : ∃ x : World, x = wc := ⟨_, rfl⟩
          replace HA := Lib.hid (HA.out.read hb)
          replace HB := Lib.hid (HB.out.read hb)
          replace HX := Lib.hid (HX.out.read hb)
          replace HY := Lib.hid (HY.out.read hb)
          replace HR := Lib.hid (HR.out.read hb)
          replace HW := Lib.hid (belowOn HW.out (Nat.le_refl _) hb)
          clear hb
          rw [← HNP.out]
          by_cases hbig : (5000 : Int) < ((t.put v b).nodes : Int)
          · rw [decide_eq_true hbig]
            obtain ⟨rfl, rfl⟩ := HNO.out fun h => by have := h.2.2; omega
            clear hbig HNO HYES HNP
            have HRE := Lib.hid HR.out.now
            obtain ⟨r0, r1, r2, r3, rf⟩ := box_cells HR.out.now
            have zr := HR.out.le
            go_wp2
            exact newTm2_end (t := zeroTm) (p := 6) (q := 7) (b := w.heap.size + 1 + 1) (W := w3) rfl rfl rfl rfl rfl rfl rfl Try.underlying25 (by kernel_rfl) HRE.out HW.out (by omega) (by omega) (zero_new (Below.refl _ _))
          · rw [decide_eq_false hbig]
            obtain ⟨hr1, hr2⟩ := HYES.out ⟨HOA.out, HOB.out, by omega⟩
            have HR1 := Lib.hid hr1
            subst hr2
            clear hbig HNO HYES HNP hr1
            have HC := Lib.hid (replaced_any (t.nodes + 1) t b _ _ v w3 (by omega) HA.out.argsAt HB.out.argsAt hZ hZb HOA.out.2 HOB.out.2)
            obtain ⟨c0a, c0b, c0c, c0d⟩ := HX.out.cells
            have z0 := HX.out.le
            obtain ⟨c1a, c1b, c1c, c1d⟩ := HY.out.cells
            have z1 := HY.out.le
            go_wp2_with fail
            refine HC.out.mono ?_
            rintro e w4 ⟨u, rfl, hn⟩
            have HRE := Lib.hid (HR.out.read hn.2).now
            obtain ⟨r0, r1, r2, r3, rf⟩ := box_cells (HR.out.read hn.2).now
            have HRL : Hid (w.heap.size ≤ w.heap.size + 1 + 1 ∧ w.heap.size + 1 + 1 < w3.heap.size) := Lib.hid ⟨by omega, by have := HR.out.le; omega⟩
            obtain ⟨a0, c0, rfl⟩ := hn.1.argsAt.slice
            have HN := Lib.hid hn
            have hl1 := hn.2.size
            have hl2 := HR.out.le
            clear hn c0a c0b c0c c0d c1a c1b c1c c1d z0 z1 HC
            go_wp2
            exact newTm2_end (p := 6) (q := 7) (b := w.heap.size + 1 + 1) (W := w3) (by rw [HR1.out]) (by rw [HR1.out]) (by rw [HR1.out]) rfl rfl rfl rfl Try.underlying25 (by kernel_rfl) HRE.out HW.out HRL.out.1 HRL.out.2 (by rw [HR1.out]; exact HN.out)

theorem rv_sz (t : Tm) (v : Int) (b : Tm) : (rvT t v b).sz ≤ 1048576 := by
  by_cases h : RvOk t v b
  · rw [(rv_yes h).1]
    have h1 := good_sz (good_put (v := v) h.2.1.2 h.1.2)
    have h2 := h.2.2
    omega
  · rw [(rv_no h).1]
    simp [zeroTm, Tm.sz, szL, ByteArray.size]
end Go.Proofs.Ytokndpmoamjbfaa

