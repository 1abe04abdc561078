/-
  The model's GroundInstances.
-/
import Derived.Test.YtjpkkhhcpcokaaaValues8
import Derived.Test.YtjpkkhhcpcokaaaWays
import Derived.Test.YtjpkkhhcpcokaaaSpecIns8
import Derived.Test.YtjpkkhhcpcokaaaSpecCopyAll
import Derived.Test.YtjpkkhhcpcokaaaGroundOk
import Derived.Test.YtjpkkhhcpcokaaaLaws
import Derived.Test.YtjpkkhhcpcokaaaVarsP
import Derived.Deep.RegionHeld3
import Derived.Deep.Cut
namespace Go.Proofs.Ytjpkkhhcpcokaaa
open Go.RowKit
set_option linter.unusedVariables false
set_option linter.unusedSimpArgs false

/-! ### plain -/
def giVs (t : Tm) : List Int := t.vl.foldl insAsc []
def giX (t : Tm) (u : List Tm) (k : Nat) : Tm := putT (valsU u (giVs t) k) t
noncomputable def giS (t : Tm) (u : List Tm) (n : Nat) : List Tm := putsT [] ((List.range n).map (giX t u))
def giN (t : Tm) (u : List Tm) : Nat := wysK u.length (giVs t).length
open Classical in
noncomputable def giL (t : Tm) (u : List Tm) : List Tm := if Ok t ∧ UniP u ∧ giN t u ≤ 512 ∧ ∀ k, k < giN t u → (giX t u k).nodes ≤ 5000 then giS t u (giN t u) else []
theorem giL_yes {t : Tm} {u : List Tm} (h1 : Ok t) (h2 : UniP u) (h3 : giN t u ≤ 512) (h4 : ∀ k, k < giN t u → (giX t u k).nodes ≤ 5000) : giL t u = giS t u (giN t u) := by unfold giL; rw [if_pos ⟨h1, h2, h3, h4⟩]
theorem giL_no {t : Tm} {u : List Tm} (h : ¬ (Ok t ∧ UniP u ∧ giN t u ≤ 512 ∧ ∀ k, k < giN t u → (giX t u k).nodes ≤ 5000)) : giL t u = [] := by unfold giL; rw [if_neg h]
theorem giS_succ (t : Tm) (u : List Tm) (k : Nat) : giS t u (k + 1) = insT (giS t u k) (giX t u k) := by
  unfold giS
  rw [List.range_succ, List.map_append]
  exact putsT_snoc _ _ _
theorem valsU_ok {u : List Tm} (hu : ∀ t ∈ u, Ok t) (hp : 1 ≤ u.length) : ∀ (vs : List Int) (k : Nat), ∀ b ∈ valsU u vs k, Ok b.t
  | [], _, b, h => by cases h
  | v :: vs, k, b, h => by
    rw [valsU] at h
    rcases List.mem_cons.1 h with rfl | h
    · have hlt : k % u.length < u.length := Nat.mod_lt _ hp
      show Ok ((u[k % u.length]?).getD _)
      rw [List.getElem?_eq_getElem hlt]
      exact hu _ (List.getElem_mem hlt)
    · exact valsU_ok hu hp vs _ b h
theorem uni_ok {u : List Tm} (h : UniP u) : ∀ t ∈ u, Ok t := fun t ht => by
  obtain ⟨j, hj⟩ := List.getElem?_of_mem ht
  exact (h.2 j t hj).1.1
theorem giX_good {t : Tm} {u : List Tm} (h : Ok t) (hu : UniP u) (k : Nat) : Good (giX t u k) := putT_good (fun b hb => (valsU_ok (uni_ok hu) hu.1.1 _ _ b hb).2) t.nodes t (Nat.le_refl _) h.2
theorem giVs_len (t : Tm) : (giVs t).length ≤ t.vl.length := by
  have h := insL_len t.vl []
  simpa [giVs] using h
/-- A box of a term is no row of bindings. -/
theorem box_notown {w : World} {B lo kb : Nat} {V : Value} {xs : List Bd} {cs : Array Value} (hx : w.heap[B]? = some (.cells cs 46 (0, 0))) (h : RowY bdE 62 w lo kb V xs) : ¬ V.ownBlock = some B := fun hb => by
  obtain ⟨L, _, h2, _⟩ := h
  rcases h2.2 with ⟨rfl, _⟩ | ⟨g, cap, cur, rfl, _, hg, _⟩
  · cases hb
  · cases hb
    rw [hg] at hx
    simp only [Option.some.injEq, Obj.cells.injEq] at hx
    exact absurd hx.2.1 (by decide)
theorem struct2_putG {W0 wS : World} {r : Tm} {c : Bool} {C : Nat → Prop} {B : Nat} {a : Option Addr} {k : Nat} {x0 x1 x2 x3 : Value} (hx : wS.heap[B]? = some (Obj.cells #[x0, x1, x2, x3] 46) ∧ W0.heap.size ≤ B) (hl : ¬ C B)
    (hu : ArgsS wS C (.slice a r.args.length k) r.args) (hb : Below W0.heap.size W0 wS) :
    Struct2 W0 r c (.pointer (some ⟨B, 0, none⟩)) (.bool c) ((((wS.setCell ⟨B, 0, none⟩ (.int .i64 r.kind)).setCell ⟨B, 1, none⟩ (.int .i64 r.num)).setCell ⟨B, 2, none⟩ (.string r.name)).setCell ⟨B, 3, none⟩ (.slice a r.args.length k)) := by
  have h0 := heap_setCell_same wS B 0 _ 46 (.int .i64 r.kind) hx.1
  have h1 := heap_setCell_same _ B 1 _ 46 (.int .i64 r.num) h0
  have h2 := heap_setCell_same _ B 2 _ 46 (.string r.name) h1
  have h3 := heap_setCell_same _ B 3 _ 46 (.slice a r.args.length k) h2
  have one : ∀ (W : World) (j : Nat) (u : Value), Only (fun k => k = B) W (W.setCell ⟨B, j, none⟩ u) := fun W j u => ⟨rfl, rfl, rfl, by simp, fun k _ hk => Below.heap_setCell _ _ _ _ hk⟩
  have ho := (((one wS 0 (.int .i64 r.kind)).trans (one _ 1 (.int .i64 r.num))).trans (one _ 2 (.string r.name))).trans (one _ 3 (.slice a r.args.length k))
  exact ⟨B, a, k, rfl, rfl, h3, hx.2, (hu.frame ho.size fun j hj hjs => ho.block j hjs (fun e => hl (by rw [← e]; exact hj))).at, hb.trans (ho.below (fun j hj => by have := hx.2; omega) hb.size)⟩

set_option maxRecDepth 100000 in
set_option maxHeartbeats 16000000 in
theorem specInst_any (t : Tm) (Vt : Value) (u : List Tm) (Vu : Value) (w : World) (hT : ArgsAt w Vt t.args) (hZt : t.sz ≤ 1048576) (hA : ArgsAt w Vu u) (hE : EachT u) :
    Calls Try.prog 23 #[.agg #[.int .i64 t.kind, .int .i64 t.num, .string t.name, Vt], Vu] w fun e w' => ∃ U, e = .returned U ∧ ArgsAt w' U (giL t u) ∧ Below w.heap.size w w' := by
  obtain ⟨ta, tc, rfl⟩ := hT.slice
  obtain ⟨ua, uc, rfl⟩ := hA.slice
  have hal : Below w.heap.size w (w.alloc (.cells #[.int .i64 t.kind, .int .i64 t.num, .string t.name, .slice ta t.args.length tc] 46)) := belowAlloc (Below.refl _ _) _
  have HBX0 := Lib.hid (at_box_of w #[.int .i64 t.kind, .int .i64 t.num, .string t.name, .slice ta t.args.length tc] 46 w.heap.size rfl)
  have HT := Lib.hid (hT.kept hal)
  have HA := Lib.hid (hA.kept hal)
  have HW := Lib.hid hal
  have HE := Lib.hid hE
  have HZ := Lib.hid hZt
  have hL := hE.1
  clear hT hA hal hE hZt
  go_enter Try.func23, Try.ntmps23
  go_upto_region 1 with (fail)
  generalize hw1 : w.alloc (.cells #[.int .i64 t.kind, .int .i64 t.num, .string t.name, .slice ta t.args.length tc] 46) = w1 at HBX0 HT HA HW ⊢
  clear hw1
  obtain ⟨nb, hnb⟩ : ∃ n : Nat, n = w.heap.size := ⟨_, rfl⟩
  rw [← hnb] at HBX0 ⊢
  have HNB := Lib.hid hnb
  clear hnb
  have HCB : Hid (∀ W, Below w1.heap.size w1 W → W.cell? ⟨nb, 0, none⟩ = some (.int .i64 t.kind) ∧ W.cell? ⟨nb, 1, none⟩ = some (.int .i64 t.num) ∧ W.cell? ⟨nb, 2, none⟩ = some (.string t.name) ∧ W.cell? ⟨nb, 3, none⟩ = some (.slice ta t.args.length tc)) := Lib.hid fun W hW => (HBX0.out.read hW).cells
  obtain ⟨e0, e1, e2, e3⟩ := HCB.out w1 (Below.refl _ _)
  have ze := HBX0.out.le
  have HC1 := Lib.hid (specTermOk_any t _ w1 HT.out HZ.out)
  go_wp2_with fail
  refine HC1.out.mono ?_
  rintro e w2 ⟨rfl, hb2⟩
  obtain ⟨q, hq⟩ : ∃ q, okB t = q := ⟨_, rfl⟩
  rw [hq]
  have HQ := Lib.hid hq
  have HB2 := Lib.hid hb2
  clear HC1 hq hb2 e0 e1 e2 e3 ze
  cases q with
  | false =>
    have HG : Hid (giL t u = []) := Lib.hid (giL_no fun h => okB_false.1 HQ.out h.1)
    have HF := Lib.hid (belowOn HW.out (Nat.le_refl _) HB2.out)
    go_wp2
    go_ret
    exact ⟨_, rfl, by rw [HG.out]; exact .nil _ _, HF.out⟩
  | true =>
    have HOK := Lib.hid (okB_true.1 HQ.out)
    have HC2 := Lib.hid (specUniverse_e u _ w2 (HA.out.kept HB2.out) HE.out)
    go_wp2_with fail
    refine HC2.out.mono ?_
    rintro e w3 ⟨rfl, hb3⟩
    obtain ⟨q2, hq2⟩ : ∃ q, uniB u = q := ⟨_, rfl⟩
    rw [hq2]
    have HQ2 := Lib.hid hq2
    have HB3 := Lib.hid (belowOn HB2.out (Nat.le_refl _) hb3)
    clear HC2 hq2 hb3 HQ HB2
    cases q2 with
    | false =>
      have HG : Hid (giL t u = []) := Lib.hid (giL_no fun h => uniB_false.1 HQ2.out h.2.1)
      have HF := Lib.hid (belowOn HW.out (Nat.le_refl _) HB3.out)
      go_wp2
      go_ret
      exact ⟨_, rfl, by rw [HG.out]; exact .nil _ _, HF.out⟩
    | true =>
      have HU := Lib.hid (uniB_true.1 HQ2.out)
      have hu8 := HU.out.1
      have HLV : Hid (t.nodes ≤ 5000 ∧ (giVs t).length ≤ 1048576) := Lib.hid ⟨HOK.out.1, by have h1 := giVs_len t; have h2 := vl_len t; have h3 := HOK.out.1; omega⟩
      have HC3 := Lib.hid (specVars_any (t.nodes + 1) t (.slice ta t.args.length tc) w1 (.slice none 0 0) [] w3 (Nat.lt_succ_self _) HT.out HB3.out (Row.nil _ _ _) (by have := HLV.out.1; simp; omega) HZ.out)
      obtain ⟨e0, e1, e2, e3⟩ := HCB.out w3 HB3.out
      have ze : nb < w3.heap.size := World.block_lt_of_cell? w3 _ e0
      clear HQ2
      go_wp2_with fail
      refine HC3.out.mono ?_
      rintro e w4 ⟨VI, rfl, hI, hb4⟩
      have HVI : Hid (Vals w4 VI ((giVs t).map (Value.int .i64))) := Lib.hid hI.vals
      obtain ⟨ia, ic, rfl⟩ := vals_ints HVI.out
      have HB4 := Lib.hid (belowOn HB3.out (Nat.le_refl _) hb4)
      have hvl := HLV.out.2
      have HC4 := Lib.hid (specWays_any u.length (giVs t).length hu8.2 hvl w4)
      have HMX : Hid (giN t u ≤ 4096) := Lib.hid (wysK_max u.length hu8.2 _)
      clear HC3 hI hb4 e0 e1 e2 e3 ze HB3
      go_wp2_with fail
      refine HC4.out.mono ?_
      rintro e w5 ⟨rfl, hb5⟩
      have HB5 := Lib.hid (belowOn HB4.out (Nat.le_refl _) hb5)
      have HVI5 := Lib.hid (HVI.out.kept hb5)
      obtain ⟨n, hn⟩ : ∃ n, wysK u.length (giVs t).length = n := ⟨_, rfl⟩
      rw [hn]
      have HN : Hid (giN t u = n) := Lib.hid hn
      have hnm : n ≤ 4096 := by rw [← hn]; exact HMX.out
      clear HC4 hn hb5 HB4 HVI
      by_cases h512 : n ≤ 512
      case neg =>
        have h5 : (512 : Int) < (n : Int) := by omega
        have HG : Hid (giL t u = []) := Lib.hid (giL_no fun h => h512 (by rw [← HN.out]; exact h.2.2.1))
        have HF := Lib.hid (belowOn HW.out (Nat.le_refl _) HB5.out)
        clear h512
        go_wp2
        go_ret
        exact ⟨_, rfl, by rw [HG.out]; exact .nil _ _, HF.out⟩
      case pos =>
        have h5 : ¬ (512 : Int) < (n : Int) := by omega
        have hal6 : Below w5.heap.size w5 (w5.alloc (.cells #[] 46)) := belowAlloc (Below.refl _ _) _
        have HR0 : Hid (OwnX (w5.alloc (.cells #[] 46)) (.slice (some ⟨w5.heap.size, 0, none⟩) 0 0) (giS t u 0)) := Lib.hid ⟨w5.heap.size, hal6.size, rowX_start (Nat.le_refl _)⟩
        have HB6 := Lib.hid (belowOn HB5.out (Nat.le_refl _) hal6)
        replace HVI5 := Lib.hid (HVI5.out.kept hal6)
        clear hal6 HB5
        go_wp2
        generalize hw6 : w5.alloc (.cells #[] 46) = w6 at HR0 HB6 HVI5 ⊢
        clear hw6
        generalize w5.heap.size = n6 at HR0 ⊢
        go_loopw [7, 8] (fun lv iv wr => ∃ (k : Nat) (a : Addr) (m c : Nat), k ≤ n ∧ iv = .int .i64 k ∧ lv = .slice (some a) m c ∧ Hid (∀ j, j < k → (giX t u j).nodes ≤ 5000) ∧ Hid (OwnX wr (.slice (some a) m c) (giS t u k)) ∧ Hid (Below w6.heap.size w6 wr)) (fun _ iv _ => n - (intOf iv).toNat)
        case atStart => exact ⟨0, _, 0, 0, Nat.zero_le _, rfl, rfl, Lib.hid (fun j hj => absurd hj (Nat.not_lt_zero _)), HR0, Lib.hid (Below.refl _ _)⟩
        case round =>
          clear HR0
          obtain ⟨k, a, m, c, hk, rfl, rfl, HFT, HO, HB⟩ := hrel
          have HB1 : Hid (Below w1.heap.size w1 wr) := Lib.hid (belowOn HB6.out (Nat.le_refl _) HB.out)
          by_cases hlt : k < n
          · have hltI : (k : Int) < (n : Int) := by omega
            have hk4 : k ≤ 4096 := by omega
            have HVR := Lib.hid (HVI5.out.kept HB.out)
            have HTr := Lib.hid (HT.out.kept HB1.out)
            have HAr := Lib.hid (HA.out.kept HB1.out)
            have HV8 : Hid (∀ W, Below wr.heap.size wr W → Calls Try.prog 78 #[.slice ia (giVs t).length ic, .slice ua u.length uc, .int .i64 (k : Int)] W fun e w' => ∃ a n c, e = .returned (.slice a n c) ∧ RowY bdE 62 w' W.heap.size wr.heap.size (.slice a n c) (valsU u (giVs t) k) ∧ Below W.heap.size W w') := Lib.hid fun W hW => specValues8_any u _ (giVs t) _ k wr.heap.size W hW.size (HAr.out.inS.kept hW) (HVR.out.kept hW) HU.out.1 HLV.out.2 hk4
            have HAP : Hid (∀ W va vn vc, Below wr.heap.size wr W → (∃ lo, RowY bdE 62 W lo wr.heap.size (.slice va vn vc) (valsU u (giVs t) k)) → Calls Try.prog 77 #[.slice va vn vc, .agg #[.int .i64 t.kind, .int .i64 t.num, .string t.name, .slice ta t.args.length tc]] W fun e w' => ∃ uS, e = .returned (.tuple #[.agg #[.int .i64 (giX t u k).kind, .int .i64 (giX t u k).num, .string (giX t u k).name, uS], .bool (decide ((giX t u k).nodes ≤ 5000))]) ∧
                ArgsS w' (fun b => (b < wr.heap.size ∨ (Value.slice va vn vc).ownBlock = some b) ∨ (W.heap.size ≤ b ∧ b < w'.heap.size)) uS (giX t u k).args ∧ Below W.heap.size W w' ∧
                ∀ B cs, w'.heap[B]? = some (.cells cs 46 (0, 0)) → wr.heap.size ≤ B → B < W.heap.size → ¬ ((B < wr.heap.size ∨ (Value.slice va vn vc).ownBlock = some B) ∨ (W.heap.size ≤ B ∧ B < w'.heap.size))) := Lib.hid fun W va vn vc hW ⟨lo, hR⟩ => by
              have hown : ∀ b, (Value.slice va vn vc).ownBlock = some b → b < W.heap.size := fun b hb => by
                obtain ⟨L, _, h2, _⟩ := hR
                exact (World.ownsRow.lt h2 b hb).2
              refine (specApply4_v (valsU u (giVs t) k) t (.slice va vn vc) (.slice ta t.args.length tc) (fun b => b < wr.heap.size ∨ (Value.slice va vn vc).ownBlock = some b) W (valsU_ok (uni_ok HU.out) HU.out.1.1 _ _) HOK.out (by rw [valsU_len]; exact HLV.out.2) (fun b hb => hb.elim (fun h => by have := hW.size; omega) (hown b)) hR.list ((HTr.out.inS.kept hW).sub fun b hb => .inl hb) HZ.out).mono ?_
              rintro e w' ⟨uS, h1, h2, h3⟩
              refine ⟨uS, h1, h2, h3, fun B cs hB h4 h5 h6 => ?_⟩
              rcases h6 with (h6 | h6) | h6
              · omega
              · exact box_notown hB (hR.kept h3) h6
              · omega
            have HX : Hid (Good (giX t u k)) := Lib.hid (giX_good HOK.out HU.out k)
            have HSU := Lib.hid (giS_succ t u k)
            generalize hX : giX t u k = X at HAP HX HSU
            have HXE := Lib.hid hX
            obtain ⟨okb, hokb⟩ : ∃ okb, decide (X.nodes ≤ 5000) = okb := ⟨_, rfl⟩
            rw [hokb] at HAP
            have HOB := Lib.hid hokb
            clear hX hokb
            have hself : Below wr.heap.size wr wr := Below.refl _ _
            have hdrew : Below wr.heap.size wr wr.drew := hself.drew
            have HCE : Hid (∀ W, Below wr.heap.size wr W → W.cell? ⟨nb, 0, none⟩ = some (.int .i64 t.kind) ∧ W.cell? ⟨nb, 1, none⟩ = some (.int .i64 t.num) ∧ W.cell? ⟨nb, 2, none⟩ = some (.string t.name) ∧ W.cell? ⟨nb, 3, none⟩ = some (.slice ta t.args.length tc)) := Lib.hid fun W hW => HCB.out W (belowOn HB1.out (Nat.le_refl _) hW)
            have HTR : Hid (∀ a b, Below wr.heap.size wr a → Below a.heap.size a b → Below wr.heap.size wr b) := Lib.hid fun a b h1 h2 => belowOn h1 (Nat.le_refl _) h2
            obtain ⟨e0, e1, e2, e3⟩ := HCE.out wr hself
            have ze : nb < wr.heap.size := World.block_lt_of_cell? wr _ e0
            have n0a : ¬ nb = wr.heap.size := by omega
            have n0b : ¬ wr.heap.size = nb := by omega
            go_upto_region 11 with (fail)
            go_cut [9, 10] from 34 to 42 (fun p b wx => Struct2 wr X okb p b wx)
            case first =>
              clear HSU HX HOB HXE HFT HO HB HVR HTr HAr
              go_region_held3 (fun w' => w'.cell? ⟨nb, 0, none⟩ = some (.int .i64 t.kind) ∧ w'.cell? ⟨nb, 1, none⟩ = some (.int .i64 t.num) ∧ w'.cell? ⟨nb, 2, none⟩ = some (.string t.name) ∧ w'.cell? ⟨nb, 3, none⟩ = some (.slice ta t.args.length tc)) (go_keep)
                (first
                  | (go_at_call 78; (with_reducible refine Calls.mono (HV8.out _ ?_) ?_); (first | assumption | exact belowAlloc (by assumption) _ | exact (belowAlloc (by assumption) _).drew); rintro e wA ⟨va, vn, vc, rfl, hvA, hbA⟩; (first | (with_reducible have HBX := Lib.hid (box_after (W0 := wr) (by assumption) hbA)) | (with_reducible have HBX := Lib.hid (box_after_drew (W0 := wr) (by assumption) hbA)) | (replace HBX := Lib.hid (box_keep HBX.out hbA)) | skip); have HVV := Lib.hid hvA; clear hvA; have hA' := HTR.out _ _ (by (first | assumption | exact belowAlloc (by assumption) _ | exact (belowAlloc (by assumption) _).drew)) hbA; have nawA : ¬ nb = wA.heap.size := (by have := hA'.size; omega); have ncwA : ¬ wA.heap.size = nb := (by have := hA'.size; omega); obtain ⟨k0, k1, k2, k3⟩ := HCE.out _ hA')
                  | (go_at_call 77; (with_reducible refine Calls.mono (HAP.out _ _ _ _ ?_ ?_) ?_); (first | assumption | exact belowAlloc (by assumption) _ | exact (belowAlloc (by assumption) _).drew); (first | exact ⟨_, HVV.out⟩ | exact ⟨_, HVV.out.kept (belowAlloc (Below.refl _ _) _)⟩ | exact ⟨_, HVV.out.kept (belowAlloc (Below.refl _ _) _).drew⟩ | exact ⟨_, HVV.out.kept ((Below.refl _ _).drew)⟩); rintro e wS ⟨uS, rfl, huS, hbS, hnS⟩; obtain ⟨aS, kS, rfl⟩ := huS.at.slice; (first | (with_reducible have HBL := Lib.hid (alloc_lt hbS)) | (have HBL := Lib.hid (block_lt HBX.out hbS)) | skip); (first | (with_reducible have HBX := Lib.hid (box_after (W0 := wr) (by assumption) hbS)) | (with_reducible have HBX := Lib.hid (box_after_drew (W0 := wr) (by assumption) hbS)) | (replace HBX := Lib.hid (box_keep HBX.out hbS)) | skip); have hS := HTR.out _ _ (by (first | assumption | exact belowAlloc (by assumption) _ | exact (belowAlloc (by assumption) _).drew)) hbS; have HUS := Lib.hid huS; have HNS := Lib.hid hnS; clear huS hnS; have nawS : ¬ nb = wS.heap.size := (by have := hS.size; omega); have ncwS : ¬ wS.heap.size = nb := (by have := hS.size; omega); obtain ⟨k0, k1, k2, k3⟩ := HCE.out _ hS; (first | (have hq9 := box_cells (HBX.out).1; obtain ⟨q0, q1, q2, q3, qf⟩ := hq9) | skip)))
              all_goals (go_wp2_with fail; go_meet; first | (with_reducible exact struct2_late HUS.out hS) | (with_reducible exact struct2_putG HBX.out (HNS.out _ _ HBX.out.1 HBX.out.2 HBL.out) HUS.out hS) | exact struct2_late HUS.out hS | exact struct2_putG HBX.out (HNS.out _ _ HBX.out.1 HBX.out.2 HBL.out) HUS.out hS)
            case rest =>
              obtain ⟨B, xa, xc, rfl, rfl, hbx, hlo, hu, hb⟩ := hcut
              obtain ⟨w8, rfl⟩ : ∃ x : World, x = wc := ⟨_, rfl⟩
              have HBX := Lib.hid hbx
              have HUX := Lib.hid hu
              have HB8 := Lib.hid (belowOn HB.out (Nat.le_refl _) hb)
              have HO8 := Lib.hid (HO.out.kept hb)
              clear HV8 HAP HCE HTR hself hdrew e0 e1 e2 e3 n0a n0b hbx hlo hu hb HO
              cases okb with
              | false =>
                have HG : Hid (giL t u = []) := Lib.hid (giL_no fun h => by
                  have h1 := h.2.2.2 k (by rw [HN.out]; exact hlt)
                  rw [HXE.out] at h1
                  exact absurd h1 (of_decide_eq_false HOB.out))
                have HF := Lib.hid (belowOn HW.out (Nat.le_refl _) (belowOn HB6.out (Nat.le_refl _) HB8.out))
                go_wp2
                go_ret
                exact ⟨_, rfl, by rw [HG.out]; exact .nil _ _, HF.out⟩
              | true =>
                have hxn : X.nodes ≤ 5000 := of_decide_eq_true HOB.out
                have HFT2 : Hid (∀ j, j < k + 1 → (giX t u j).nodes ≤ 5000) := Lib.hid fun j hj => by
                  by_cases e : j = k
                  · rw [e, HXE.out]; exact hxn
                  · exact HFT.out j (by omega)
                obtain ⟨b0, b1, b2, b3, _⟩ := box_cells HBX.out
                have HGS : Hid (AscT (giS t u k) ∧ (giS t u k).length ≤ 4096 ∧ ∀ x ∈ giS t u k, x.sz ≤ 1048576) := Lib.hid (by
                  have hm : ∀ x ∈ (List.range k).map (giX t u), Good x ∧ x.sz ≤ 1048576 := fun x hx => by
                    obtain ⟨j, hj, rfl⟩ := List.mem_map.1 hx
                    have h1 := giX_good HOK.out HU.out j
                    have h2 := good_sz h1
                    have h3 := HFT.out j (List.mem_range.1 hj)
                    exact ⟨h1, by omega⟩
                  have h1 := putsT_le ((List.range k).map (giX t u)) []
                  rw [List.length_map, List.length_range] at h1
                  unfold giS
                  exact ⟨putsT_asc _ AscT.nil fun x hx => (hm x hx).1, by simp at h1; omega, fun x hx => (hm x (((putsT_mem _ _).1 hx).resolve_left (by simp))).2⟩)
                have HC := Lib.hid (specIns8_any (giS t u k) (.slice (some a) m c) X (.slice xa X.args.length xc) w8 HO8.out HUX.out HGS.out.1 HX.out ⟨_, _, _, rfl⟩ (by have := HGS.out.2.1; omega) HGS.out.2.2 (by have := good_sz HX.out; omega))
                clear hxn
                go_wp2_with fail
                refine HC.out.mono ?_
                rintro e w9 ⟨U, rfl, hU, hb9⟩
                have hne : 0 < (insT (giS t u k) X).length := List.length_pos_of_mem (insT_mem.2 (.inr rfl))
                have hUs : ∃ a m c, U = .slice (some a) m c := by
                  obtain ⟨lo, _, h5⟩ := hU
                  obtain ⟨g, cp, e⟩ := h5.some hne
                  exact ⟨_, _, _, e⟩
                obtain ⟨a9, m9, c9, rfl⟩ := hUs
                have HO9 : Hid (OwnX w9 (.slice (some a9) m9 c9) (giS t u (k + 1))) := Lib.hid (by rw [HSU.out]; exact hU)
                have HB9 := Lib.hid (belowOn HB8.out (Nat.le_refl _) hb9)
                clear HC hU hb9 hne b0 b1 b2 b3 HO8 HUX HBX HB8
                go_wp2
                go_roundw
                case rel =>
                  exact ⟨k + 1, a9, m9, c9, by omega, by go_num, rfl, HFT2, HO9, HB9⟩
                case measure => simp [intOf]; omega
          · obtain rfl : k = n := by omega
            have HG : Hid (giL t u = giS t u k) := Lib.hid (by rw [giL_yes HOK.out HU.out (by rw [HN.out]; exact h512) (fun j hj => HFT.out j (by rw [HN.out] at hj; exact hj)), HN.out])
            have HC := Lib.hid (specCopyAll_any (giS t u k) (.slice (some a) m c) wr HO.out.at (by
              have h1 := putsT_le ((List.range k).map (giX t u)) []
              rw [List.length_map, List.length_range] at h1
              refine ⟨by unfold giS; simp at h1; omega, fun x hx => ?_⟩
              unfold giS at hx
              obtain ⟨j, hj, rfl⟩ := List.mem_map.1 (((putsT_mem _ _).1 hx).resolve_left (by simp))
              have h2 := good_sz (giX_good HOK.out HU.out j)
              have h3 := HFT.out j (List.mem_range.1 hj)
              omega))
            go_wp2_with fail
            refine HC.out.mono ?_
            rintro e w9 ⟨U, rfl, hU, hb⟩
            have HUU := Lib.hid hU
            have HF := Lib.hid (belowOn HW.out (Nat.le_refl _) (belowOn HB1.out (Nat.le_refl _) hb))
            clear hU hb HC
            go_wp2
            go_ret
            exact ⟨_, rfl, by rw [HG.out]; exact HUU.out, HF.out⟩
end Go.Proofs.Ytjpkkhhcpcokaaa

