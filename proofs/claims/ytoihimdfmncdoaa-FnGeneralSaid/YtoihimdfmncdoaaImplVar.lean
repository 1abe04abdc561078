/-
  The program's IsVariant, for terms that have no more variables than values may be: a map's entries struck while it is ranged over.
-/
import Derived.Test.YtoihimdfmncdoaaImplMT
import Derived.Test.YtoihimdfmncdoaaNaming
namespace Go.Proofs.Ytoihimdfmncdoaa
open Go.RowKit
set_option linter.unusedVariables false
set_option linter.unusedSimpArgs false

/-- 'delete(m, k)' in a range over m. -/
theorem wpList_delRan (w : World) {ops : Array Oper} {rest : List Oper} {o : Oper} {a : Act} {Q : Exit → Act → World → Prop} (hg : o.guard = none) (m x : Operand) (hop : o.op = Op.call { callee := Callee.builtin Builtin.delete, args := #[m, x], argTypes := #[109, 3] })
    (b r n cnt : Nat) (f : Ent) (left : Int → Bool) (hm : a.eval m = .map (some b)) (h : RanF w b r n f left cnt) (k : Int) (hx : a.eval x = .int .i64 k) (hk : wfI k)
    (hK : ∀ w' cnt', RanF w' b r n (delF f k) (fun v => left v && !decide (v = k)) cnt' → cnt' ≤ cnt → w.grownBy w' (some b) → wpList Try.prog ops Q rest (a.put o.dst (.tuple #[])) w') : wpList Try.prog ops Q (o :: rest) a w := by
  obtain ⟨D, lf, hr, hf, hl⟩ := h
  refine wpList_delete_ranges w hg m x _ _ hop _ keyedInt Try.underlying109 elemR b r n D lf cnt hm hr _ _ hx (keyInt hk) fun w' cnt' h1 h2 h3 => hK w' cnt' ⟨_, _, h1, hf.del k, fun v => ?_⟩ h2 h3.grown
  show (lf (.int .i64 v) && !(Lit.int .i64 v).sameKey (.int .i64 k)) = _
  rw [hl v]
  by_cases e : v = k
  · subst e; rw [WideAt.sameKey_self (litInt v)]; simp
  · rw [Maps.sameKey_ne (litInt_ne e)]; simp [e]
theorem RanF.map {w : World} {b r n cnt : Nat} {f : Ent} {left : Int → Bool} (h : RanF w b r n f left cnt) : MapF w b n f := by
  obtain ⟨D, lf, h1, h2, _⟩ := h
  exact ⟨D, h1.owns, h2⟩
theorem MapF.isMp {w : World} {b n : Nat} {f : Ent} (h : MapF w b n f) : isMp w.heap[b]? := by
  obtain ⟨D, ⟨es, c, h1, _⟩, _⟩ := h
  exact ⟨es, c, h1⟩
theorem MapF.len_le {w : World} {b n : Nat} {f : Ent} (h : MapF w b n f) : ∃ m : Nat, m ≤ n ∧ (Builtin.len_ #[109] 3 #[.map (some b)]).run Try.prog w = .ok (.int .i64 m) w := by
  obtain ⟨D, h1, _⟩ := h
  exact ⟨Maps.size D, h1.size_le, h1.len Try.underlying109 _⟩

set_option maxRecDepth 100000 in
set_option maxHeartbeats 1000000 in
theorem selfVar_any (v : Int) (t : Tm) (V : Value) (w : World) (hA : ArgsAt w V t.args) :
    Calls Try.prog 100 #[.int .i64 v, .agg #[.int .i64 t.kind, .int .i64 t.num, .string t.name, V]] w fun e w' => (∃ q, e = .returned (.bool q)) ∧ Below w.heap.size w w' := by
  obtain ⟨aa, ac, rfl⟩ := hA.slice
  have HB := Lib.hid (belowAlloc (Below.refl w.heap.size w) (.cells #[.int .i64 t.kind, .int .i64 t.num, .string t.name, .slice aa t.args.length ac] 25))
  have HC := Lib.hid (isVar_any t aa ac v (w.alloc (.cells #[.int .i64 t.kind, .int .i64 t.num, .string t.name, .slice aa t.args.length ac] 25)))
  generalize decide (t.kind = 1 ∧ t.num = v) = q at HC
  clear hA
  go_enter Try.func100, Try.ntmps100
  go_wp2_with fail
  refine HC.out.mono ?_
  rintro e w1 ⟨rfl, hb⟩
  have HB2 := Lib.hid (belowOn HB.out (Nat.le_refl _) hb)
  clear hb HC
  go_wp2
  go_ret
  exact ⟨⟨q, rfl⟩, HB2.out⟩

set_option maxRecDepth 100000 in
set_option maxHeartbeats 4000000 in
theorem strike_any (b n : Nat) (f : Ent) (w : World) (hM : MapF w b n f) (hA : ∀ v p, f v = some p → ArgsAt w p.2 p.1.args) :
    Calls Try.prog 99 #[.map (some b), .func (.func 100) #[] #[]] w fun e w' => e = .returned (.tuple #[]) ∧ (∃ f', MapF w' b n f') ∧ Only (fun j => j = b) w w' := by
  have HM := Lib.hid hM
  have HA := Lib.hid hA
  have HMP := Lib.hid hM.isMp
  clear hM hA
  go_enter Try.func99, Try.ntmps99
  go_wp2_with (at_range; refine wpList_rangeF _ rfl _ rfl b n f rfl HM.out ?_; intro w0 cnt0 hc0 hrg0 hb0 hs0)
  have HR0 := Lib.hid hrg0
  have HB0 : Hid (Only (fun j => j = b) w w0) := Lib.hid (Only.of_below hb0)
  have HS0 : Hid (w.heap.size + 1 ≤ w0.heap.size) := Lib.hid (by omega)
  clear hrg0 hb0 hs0
  go_frame
  go_loopw [4] (fun _ wr => ∃ (g : Ent) (left : Int → Bool) (cnt : Nat), Hid (RanF wr b w.heap.size n g left cnt) ∧ Hid (∀ v p, g v = some p → f v = some p) ∧ Hid (Only (fun j => j = b) w wr) ∧ Hid (w.heap.size + 1 ≤ wr.heap.size)) (fun _ wr => wr.rangeLeft b w.heap.size)
  case atStart => exact ⟨f, _, cnt0, HR0, Lib.hid (fun v p h => h), HB0, HS0⟩
  case round =>
    obtain ⟨g, left, cnt, HR, HG, HB, HSZ⟩ := hrel
    clear HR0 HB0 HS0 hc0
    have hrl := HR.out.left_eq
    have HRL := Lib.hid hrl
    clear hrl
    go_wp2_with (at_next; refine wpList_nextF _ rfl _ rfl b w.heap.size n cnt g left rfl HR.out ?_ ?_)
    · intro hc1 hl0
      have HF := Lib.hid HR.out.map
      clear hl0 hc1
      go_wp2
      go_end0
      exact ⟨rfl, ⟨g, HF.out⟩, HB.out⟩
    · intro v t U w1 cnt1 hwf hlv hfv hrg hlt hgr hsz hen
      have hbl := HM.out.lt
      have hat : ArgsAt w1 U t.args := by
        have h0 := HA.out v (t, U) (HG.out v (t, U) hfv)
        have hT : ∀ k, k = b → k < w.heap.size → isMp w.heap[k]? := fun k hk _ => by rw [hk]; exact HMP.out
        have ho1 : Only (fun j => j = b) w w1 := ⟨hgr.os.trans HB.out.os, hgr.tape.trans HB.out.tape, hgr.output.trans HB.out.output, Nat.le_trans HB.out.size hgr.size, fun j hj hn => (hgr.block j (Nat.lt_of_lt_of_le hj HB.out.size) (fun e => by cases e; omega)).trans (HB.out.block j hj hn)⟩
        exact ArgsAt.maps (show ArgsAt w U t.args from h0) ho1 hT
      obtain ⟨ua, uc, rfl⟩ := hat.slice
      have HAT := Lib.hid hat
      have HB1 : Hid (Only (fun j => j = b) w w1) := Lib.hid ⟨hgr.os.trans HB.out.os, hgr.tape.trans HB.out.tape, hgr.output.trans HB.out.output, Nat.le_trans HB.out.size hgr.size, fun j hj hn => (hgr.block j (Nat.lt_of_lt_of_le hj HB.out.size) (fun e => by cases e; omega)).trans (HB.out.block j hj hn)⟩
      have HRN := Lib.hid hrg
      have HSZ1 : Hid (w.heap.size + 1 ≤ w1.heap.size) := Lib.hid (by rw [hsz]; exact HSZ.out)
      have HWF := Lib.hid hwf
      clear hrg hgr hat hfv hlv hwf hsz HR HB HSZ hbl
      go_upto_region 3 with (fail)
      have hal : Below w1.heap.size w1 (w1.alloc (.cells #[.int .i64 t.kind, .int .i64 t.num, .string t.name, .slice ua t.args.length uc] 25)) := belowAlloc (Below.refl _ _) _
      have HBX := Lib.hid (heap_new w1 (.cells #[.int .i64 t.kind, .int .i64 t.num, .string t.name, .slice ua t.args.length uc] 25))
      have HB2 : Hid (Only (fun j => j = b) w (w1.alloc (.cells #[.int .i64 t.kind, .int .i64 t.num, .string t.name, .slice ua t.args.length uc] 25))) := Lib.hid (HB1.out.trans (Only.of_below hal))
      have HA2 := Lib.hid (HAT.out.kept hal)
      have HR2 := Lib.hid (HRN.out.kept hal)
      have HSZ2 : Hid (w.heap.size + 1 ≤ (w1.alloc (.cells #[.int .i64 t.kind, .int .i64 t.num, .string t.name, .slice ua t.args.length uc] 25)).heap.size) := Lib.hid (Nat.le_trans HSZ1.out hal.size)
      clear hal hen HB1 HAT HRN HSZ1
      generalize hw1 : w1.alloc (.cells #[.int .i64 t.kind, .int .i64 t.num, .string t.name, .slice ua t.args.length uc] 25) = w2 at HBX HB2 HA2 HR2 HSZ2 ⊢
      clear hw1
      generalize w1.heap.size = nb at HBX ⊢
      have HC := Lib.hid (selfVar_any v t _ w2 HA2.out)
      obtain ⟨c0, c1, c2, c3, _⟩ := box_cells HBX.out
      have z0 := (Array.getElem?_eq_some_iff.1 HBX.out).1
      go_wp2_with fail
      refine HC.out.mono ?_
      rintro e w3 ⟨⟨q, rfl⟩, hb⟩
      have HR3 := Lib.hid (HR2.out.kept hb)
      have HB3 : Hid (Only (fun j => j = b) w w3) := Lib.hid (HB2.out.trans (Only.of_below hb))
      have HSZ3 : Hid (w.heap.size + 1 ≤ w3.heap.size) := Lib.hid (Nat.le_trans HSZ2.out hb.size)
      clear hb HC c0 c1 c2 c3 z0 HR2 HB2 HSZ2 HBX HA2
      cases q with
      | false =>
        go_wp2
        go_roundw
        case rel => exact ⟨g, _, cnt1, HR3, HG, HB3, HSZ3⟩
        case measure => rw [HR3.out.left_eq, HRL.out]; omega
      | true =>
        go_wp2_with (at_delete; refine wpList_delRan _ rfl _ _ rfl b w.heap.size n cnt1 g _ rfl HR3.out v rfl HWF.out ?_; intro w4 cnt4 hr4 hle4 hg4; have HD := Lib.hid (And.intro hr4 (And.intro hle4 hg4)); clear hr4 hle4 hg4; (try simp only [Act.put]))
        have HB4 : Hid (Only (fun j => j = b) w w4) := Lib.hid (HB3.out.trans (Only.of_grown HD.out.2.2 rfl))
        have HSZ4 : Hid (w.heap.size + 1 ≤ w4.heap.size) := Lib.hid (Nat.le_trans HSZ3.out HD.out.2.2.size)
        have HR4 := Lib.hid HD.out.1
        have HG4 : Hid (∀ u p, delF g v u = some p → f u = some p) := Lib.hid fun u p hu => by
          by_cases e : u = v
          · subst e; rw [delF_self] at hu; cases hu
          · rw [delF_ne g e] at hu; exact HG.out u p hu
        have hle := HD.out.2.1
        clear HD HR3 HB3 HSZ3 HG
        go_roundw
        case rel => exact ⟨delF g v, _, cnt4, HR4, HG4, HB4, HSZ4⟩
        case measure => rw [HR4.out.left_eq, HRL.out]; omega

set_option maxRecDepth 100000 in
set_option maxHeartbeats 2000000 in
theorem hasInstance_any (p t : Tm) (Vp Vt : Value) (w : World) (hP : ArgsAt w Vp p.args) (hZp : p.sz ≤ 1048576) (hT : ArgsAt w Vt t.args) (hZt : t.sz ≤ 1048576) (hOp : Ok p) (hOt : Ok t) (hn : p.nodes ≤ 400) :
    Calls Try.prog 47 #[.agg #[.int .i64 p.kind, .int .i64 p.num, .string p.name, Vp], .agg #[.int .i64 t.kind, .int .i64 t.num, .string t.name, Vt]] w fun e w' => e = .returned (.bool (matB (fun _ => none) p t)) ∧ Below w.heap.size w w' := by
  obtain ⟨pa, pc, rfl⟩ := hP.slice
  obtain ⟨ta, tc, rfl⟩ := hT.slice
  have hB : Below w.heap.size w ((w.alloc (.cells #[.int .i64 p.kind, .int .i64 p.num, .string p.name, .slice pa p.args.length pc] 25)).alloc (.cells #[.int .i64 t.kind, .int .i64 t.num, .string t.name, .slice ta t.args.length tc] 25)) := belowAlloc (belowAlloc (Below.refl _ _) _) _
  have HX := Lib.hid ((at_box_of w #[.int .i64 p.kind, .int .i64 p.num, .string p.name, .slice pa p.args.length pc] 25 w.heap.size rfl).read (belowAlloc (Below.refl _ _) (.cells #[.int .i64 t.kind, .int .i64 t.num, .string t.name, .slice ta t.args.length tc] 25)))
  have HY := Lib.hid (at_box_of (w.alloc (.cells #[.int .i64 p.kind, .int .i64 p.num, .string p.name, .slice pa p.args.length pc] 25)) #[.int .i64 t.kind, .int .i64 t.num, .string t.name, .slice ta t.args.length tc] 25 (w.heap.size + 1) (by simp))
  have HP := Lib.hid (hP.kept hB)
  have HT := Lib.hid (hT.kept hB)
  have HW := Lib.hid hB
  have HOK := Lib.hid (And.intro hOp (And.intro hOt hn))
  obtain ⟨q, hq⟩ : ∃ q, matB (fun _ => none) p t = q := ⟨_, rfl⟩
  rw [hq]
  have HQ0 := Lib.hid hq
  clear hP hT hB hOp hOt hn hq
  go_enter Try.func47, Try.ntmps47
  go_upto_region 1 with (fail)
  generalize hw0 : (w.alloc (.cells #[.int .i64 p.kind, .int .i64 p.num, .string p.name, .slice pa p.args.length pc] 25)).alloc (.cells #[.int .i64 t.kind, .int .i64 t.num, .string t.name, .slice ta t.args.length tc] 25) = w0 at HX HY HP HT HW ⊢
  clear hw0
  have HC := Lib.hid (valuesFor_any p t _ _ w0 HP.out hZp HT.out hZt)
  obtain ⟨c0, c1, c2, c3⟩ := HX.out.cells
  have z0 := HX.out.le
  obtain ⟨d0, d1, d2, d3⟩ := HY.out.cells
  have z1 := HY.out.le
  go_wp2_with fail
  refine HC.out.mono ?_
  rintro e w1 ⟨h | ⟨_, b, ks, g, rfl, hm, hg, hk, hy, hlo⟩, hb⟩
  · exact absurd ⟨HOK.out.1, HOK.out.2.1⟩ h.1
  obtain ⟨f, hf, hfg, hfa⟩ := hm.map
  have HKS : Hid (matB (fun _ => none) p t = true → ks.length ≤ 400) := Lib.hid fun h => by
    obtain ⟨_, _, _, _, _, hnd, hks, _⟩ := hm
    have hv := (hy h).2
    have h1 : ks.length ≤ p.vl.length := nodup_len hnd fun v hv' => by
      have h2 := (hv v).1 ((hks v).1 hv')
      exact h2.resolve_left (fun h => h rfl)
    have h2 := vl_len p
    have h3 := HOK.out.2.2
    omega
  rw [HQ0.out] at HKS ⊢
  clear HQ0
  have HF := Lib.hid hf
  have HFA : Hid (∀ v z, f v = some z → ArgsAt w1 z.2 z.1.args) := Lib.hid fun v z h => (hfa v z h).at
  have HB1 := Lib.hid (And.intro (belowOn HW.out (Nat.le_refl _) hb) HW.out.size)
  have HLO := Lib.hid hlo
  clear hm hg hk hy hf hfg hfa hb HC c0 c1 c2 c3 z0 d0 d1 d2 d3 z1 hlo
  have HC := Lib.hid (strike_any b ks.length f w1 HF.out HFA.out)
  go_wp2_with fail
  refine HC.out.mono ?_
  rintro e w2 ⟨rfl, ⟨f', hf'⟩, ho⟩
  obtain ⟨m, hm, hlen⟩ := hf'.len_le
  have HB2 : Hid (Below w.heap.size w w2) := Lib.hid (HB1.out.1.trans (ho.below (fun k hk => by have := HLO.out; have := HB1.out.2; omega) HB1.out.1.size))
  clear hf' ho HC
  cases q with
  | false =>
    go_wp2
    go_ret
    exact ⟨rfl, HB2.out⟩
  | true =>
    have hm4 : (m : Int) ≤ 400 := by have := HKS.out rfl; omega
    go_wp2
    go_ret
    exact ⟨rfl, HB2.out⟩

/-- Whether two terms are variants. -/
noncomputable def varB (a b : Tm) : Bool := matB (fun _ => none) a b && matB (fun _ => none) b a

set_option maxRecDepth 100000 in
set_option maxHeartbeats 2000000 in
theorem implIsVariant_any (p t : Tm) (Vp Vt : Value) (w : World) (hP : ArgsAt w Vp p.args) (hZp : p.sz ≤ 1048576) (hT : ArgsAt w Vt t.args) (hZt : t.sz ≤ 1048576) (hOp : Ok p) (hOt : Ok t) (hnp : p.nodes ≤ 400) (hnt : t.nodes ≤ 400) :
    Calls Try.prog 15 #[.agg #[.int .i64 p.kind, .int .i64 p.num, .string p.name, Vp], .agg #[.int .i64 t.kind, .int .i64 t.num, .string t.name, Vt]] w fun e w' => e = .returned (.bool (varB p t)) ∧ Below w.heap.size w w' := by
  obtain ⟨pa, pc, rfl⟩ := hP.slice
  obtain ⟨ta, tc, rfl⟩ := hT.slice
  have hB : Below w.heap.size w ((w.alloc (.cells #[.int .i64 p.kind, .int .i64 p.num, .string p.name, .slice pa p.args.length pc] 25)).alloc (.cells #[.int .i64 t.kind, .int .i64 t.num, .string t.name, .slice ta t.args.length tc] 25)) := belowAlloc (belowAlloc (Below.refl _ _) _) _
  have HX := Lib.hid ((at_box_of w #[.int .i64 p.kind, .int .i64 p.num, .string p.name, .slice pa p.args.length pc] 25 w.heap.size rfl).read (belowAlloc (Below.refl _ _) (.cells #[.int .i64 t.kind, .int .i64 t.num, .string t.name, .slice ta t.args.length tc] 25)))
  have HY := Lib.hid (at_box_of (w.alloc (.cells #[.int .i64 p.kind, .int .i64 p.num, .string p.name, .slice pa p.args.length pc] 25)) #[.int .i64 t.kind, .int .i64 t.num, .string t.name, .slice ta t.args.length tc] 25 (w.heap.size + 1) (by simp))
  have HP := Lib.hid (hP.kept hB)
  have HT := Lib.hid (hT.kept hB)
  have HW := Lib.hid hB
  have HOK := Lib.hid (And.intro hOp (And.intro hOt (And.intro hnp hnt)))
  have HQ : Hid (varB p t = (matB (fun _ => none) p t && matB (fun _ => none) t p)) := Lib.hid rfl
  generalize varB p t = r at HQ ⊢
  clear hP hT hB hOp hOt hnp hnt
  go_enter Try.func15, Try.ntmps15
  go_upto_region 1 with (fail)
  generalize hw0 : (w.alloc (.cells #[.int .i64 p.kind, .int .i64 p.num, .string p.name, .slice pa p.args.length pc] 25)).alloc (.cells #[.int .i64 t.kind, .int .i64 t.num, .string t.name, .slice ta t.args.length tc] 25) = w0 at HX HY HP HT HW ⊢
  clear hw0
  have HC := Lib.hid (hasInstance_any p t _ _ w0 HP.out hZp HT.out hZt HOK.out.1 HOK.out.2.1 HOK.out.2.2.1)
  obtain ⟨c0, c1, c2, c3⟩ := HX.out.cells
  have z0 := HX.out.le
  obtain ⟨d0, d1, d2, d3⟩ := HY.out.cells
  have z1 := HY.out.le
  obtain ⟨q1, hq1⟩ : ∃ q, matB (fun _ => none) p t = q := ⟨_, rfl⟩
  obtain ⟨q2, hq2⟩ : ∃ q, matB (fun _ => none) t p = q := ⟨_, rfl⟩
  rw [hq1] at HC HQ
  rw [hq2] at HQ
  have HQ2 := Lib.hid hq2
  clear hq1 hq2
  go_wp2_with fail
  refine HC.out.mono ?_
  rintro e w1 ⟨rfl, hb⟩
  clear c0 c1 c2 c3 z0 d0 d1 d2 d3 z1 HC
  replace HX := Lib.hid (HX.out.read hb)
  replace HY := Lib.hid (HY.out.read hb)
  replace HP := Lib.hid (HP.out.kept hb)
  replace HT := Lib.hid (HT.out.kept hb)
  replace HW := Lib.hid (belowOn HW.out (Nat.le_refl _) hb)
  clear hb
  cases q1 with
  | false =>
    have HR : Hid (r = false) := Lib.hid (by rw [HQ.out]; rfl)
    go_wp2
    go_ret
    exact ⟨by rw [HR.out]; rfl, HW.out⟩
  | true =>
    have HR : Hid (r = q2) := Lib.hid (by rw [HQ.out]; rfl)
    have HC := Lib.hid (hasInstance_any t p _ _ w1 HT.out hZt HP.out hZp HOK.out.2.1 HOK.out.1 HOK.out.2.2.2)
    rw [HQ2.out] at HC
    obtain ⟨c0, c1, c2, c3⟩ := HX.out.cells
    have z0 := HX.out.le
    obtain ⟨d0, d1, d2, d3⟩ := HY.out.cells
    have z1 := HY.out.le
    go_wp2_with fail
    refine HC.out.mono ?_
    rintro e w2 ⟨rfl, hb⟩
    have HW2 := Lib.hid (belowOn HW.out (Nat.le_refl _) hb)
    clear hb HC c0 c1 c2 c3 z0 d0 d1 d2 d3 z1
    go_wp2
    go_ret
    exact ⟨by rw [HR.out]; rfl, HW2.out⟩
end Go.Proofs.Ytoihimdfmncdoaa

