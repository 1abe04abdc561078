/-
  The model's l06Match, and what stands on it: MatchTerm, IsInstance. (Written by wip/tools/gen_specmatch.py.)
-/
import Derived.Test.YtbbgiefnmihmdaaMatchP
import Derived.Test.YtbbgiefnmihmdaaSpecComp
namespace Go.Proofs.Ytbbgiefnmihmdaa
open Go.RowKit
set_option linter.unusedVariables false
set_option linter.unusedSimpArgs false

set_option maxRecDepth 100000 in
set_option maxHeartbeats 8000000 in
theorem specInsertNil_any (b : Bd) (V : Value) (S : Nat → Prop) (w : World) (hb : ArgsS w S V b.t.args) :
    Calls Try.prog 128 #[.slice none 0 0, .agg #[.int .i64 b.v, .int .i64 b.t.kind, .int .i64 b.t.num, .string b.t.name, V]] w fun e w' => ∃ v, e = .returned v ∧ RowB bdE 47 w' (w.heap.size + 1) v [b] ∧ Below w.heap.size w w' := by
  obtain ⟨i0, hi, hz0, hz1, hz2⟩ := info_parts infoBinding
  have HII := Lib.hid (And.intro hi (And.intro hz0 (And.intro hz1 hz2)))
  obtain ⟨ba, bc, rfl⟩ := hb.at.slice
  have HBK := Lib.hid (hb.low.sub (S' := fun k => k < w.heap.size) fun k hk => hk.2)
  have hal : Below w.heap.size w (w.alloc (.cells #[.int .i64 b.v, .int .i64 b.t.kind, .int .i64 b.t.num, .string b.t.name, .slice ba b.t.args.length bc] 47)) := belowAlloc (Below.refl _ _) _
  have HBX := Lib.hid (at_box_of w #[.int .i64 b.v, .int .i64 b.t.kind, .int .i64 b.t.num, .string b.t.name, .slice ba b.t.args.length bc] 47 w.heap.size rfl)
  have HW := Lib.hid hal
  clear hi hz0 hz1 hz2 hb hal
  go_enter Try.func128, Try.ntmps128
  go_upto_region 1 with (fail)
  generalize hw1 : w.alloc (.cells #[.int .i64 b.v, .int .i64 b.t.kind, .int .i64 b.t.num, .string b.t.name, .slice ba b.t.args.length bc] 47) = w1 at HBX HW ⊢
  clear hw1
  go_wp2
  go_loopw [5] (fun iv wr => iv = .int .i64 0 ∧ Hid (Below w1.heap.size w1 wr)) (fun _ _ => 0)
  case atStart => exact ⟨rfl, Lib.hid (Below.refl _ _)⟩
  case round =>
    obtain ⟨rfl, HB⟩ := hrel
    have HWR : Hid (Below w.heap.size w wr) := Lib.hid (belowOn HW.out (Nat.le_refl _) HB.out)
    have HBR := Lib.hid (HBX.out.read HB.out)
    obtain ⟨e0, e1, e2, e3, e4, ef⟩ := box_cells5 HBR.out.now
    have hself : Below wr.heap.size wr wr := Below.refl _ _
    have hdrew : Below wr.heap.size wr wr.drew := hself.drew
    go_upto_region 2 with (fail)
    have g0 : decide ((0 : Int) < 0) = false := rfl
    clear e1 e2 e3 e4 ef
    refine wp_region_held_drew (S := (fun w' => Below wr.heap.size wr w' ∧ w'.cell? ⟨w.heap.size, 0, none⟩ = some (.int .i64 b.v))) (by kernel_rfl) (by (try dsimp only); go_keep) (fun hHeld => ?_)
    (refine wpAnyH_take (i := 0) (oi := ⟨_, _, _, _, _, _⟩) (v := ?_) rfl (by kernel_rfl) (by kernel_rfl) (by kernel_rfl) (fun _ _ _ h => h) (Or.inl ⟨by rfl, ?_⟩) (by assumption) ?_; rotate_left; focus ((intro w' hSw; (try dsimp only at hSw); go_simp; (try with_reducible rfl)))); (try simp only [Act.put, List.setIfInBounds_toArray, List.set_cons_zero, List.set_cons_succ])
    (refine wpAnyH_take (i := 1) (oi := ⟨_, _, _, _, _, _⟩) (v := ?_) rfl (by kernel_rfl) (by kernel_rfl) (by kernel_rfl) (fun _ _ _ h => h) (Or.inl ⟨by rfl, ?_⟩) (by assumption) ?_; rotate_left; focus ((intro w' hSw; (try dsimp only at hSw); go_simp; (try with_reducible rfl)))); (try simp only [Act.put, List.setIfInBounds_toArray, List.set_cons_zero, List.set_cons_succ])
    (refine wpAnyH_take (i := 2) (oi := ⟨_, _, _, _, _, _⟩) (v := ?_) rfl (by kernel_rfl) (by kernel_rfl) (by kernel_rfl) (fun _ _ _ h => h) (Or.inl ⟨by rfl, ?_⟩) (by assumption) ?_; rotate_left; focus ((intro w' hSw; (try dsimp only at hSw); go_simp; (try with_reducible rfl)))); (try simp only [Act.put, List.setIfInBounds_toArray, List.set_cons_zero, List.set_cons_succ])
    (refine wpAnyH_take (i := 3) (oi := ⟨_, _, _, _, _, _⟩) (v := undef) rfl (by kernel_rfl) (by kernel_rfl) (by kernel_rfl) (fun _ _ _ h => h) (Or.inr ⟨by rfl, rfl⟩) (by assumption) ?_); (try simp only [Act.put, List.setIfInBounds_toArray, List.set_cons_zero, List.set_cons_succ])
    (refine wpAnyH_take (i := 4) (oi := ⟨_, _, _, _, _, _⟩) (v := undef) rfl (by kernel_rfl) (by kernel_rfl) (by kernel_rfl) (fun _ _ _ h => h) (Or.inr ⟨by rfl, rfl⟩) (by assumption) ?_); (try simp only [Act.put, List.setIfInBounds_toArray, List.set_cons_zero, List.set_cons_succ])
    (refine wpAnyH_take (i := 5) (oi := ⟨_, _, _, _, _, _⟩) (v := undef) rfl (by kernel_rfl) (by kernel_rfl) (by kernel_rfl) (fun _ _ _ h => h) (Or.inr ⟨by rfl, rfl⟩) (by assumption) ?_); (try simp only [Act.put, List.setIfInBounds_toArray, List.set_cons_zero, List.set_cons_succ])
    (refine wpAnyH_take (i := 6) (oi := ⟨_, _, _, _, _, _⟩) (v := undef) rfl (by kernel_rfl) (by kernel_rfl) (by kernel_rfl) (fun _ _ _ h => h) (Or.inr ⟨by rfl, rfl⟩) (by assumption) ?_); (try simp only [Act.put, List.setIfInBounds_toArray, List.set_cons_zero, List.set_cons_succ])
    (refine wpAnyH_take (i := 7) (oi := ⟨_, _, _, _, _, _⟩) (v := undef) rfl (by kernel_rfl) (by kernel_rfl) (by kernel_rfl) (fun _ _ _ h => h) (Or.inr ⟨by rfl, rfl⟩) (by assumption) ?_); (try simp only [Act.put, List.setIfInBounds_toArray, List.set_cons_zero, List.set_cons_succ])
    (refine wpAnyH_take (i := 8) (oi := ⟨_, _, _, _, _, _⟩) (v := undef) rfl (by kernel_rfl) (by kernel_rfl) (by kernel_rfl) (fun _ _ _ h => h) (Or.inr ⟨by rfl, rfl⟩) (by assumption) ?_); (try simp only [Act.put, List.setIfInBounds_toArray, List.set_cons_zero, List.set_cons_succ])
    (refine wpAnyH_take (i := 9) (oi := ⟨_, _, _, _, _, _⟩) (v := undef) rfl (by kernel_rfl) (by kernel_rfl) (by kernel_rfl) (fun _ _ _ h => h) (Or.inr ⟨by rfl, rfl⟩) (by assumption) ?_); (try simp only [Act.put, List.setIfInBounds_toArray, List.set_cons_zero, List.set_cons_succ])
    (refine wpAnyH_take (i := 10) (oi := ⟨_, _, _, _, _, _⟩) (v := undef) rfl (by kernel_rfl) (by kernel_rfl) (by kernel_rfl) (fun _ _ _ h => h) (Or.inr ⟨by rfl, rfl⟩) (by assumption) ?_); (try simp only [Act.put, List.setIfInBounds_toArray, List.set_cons_zero, List.set_cons_succ])
    (refine wpAnyH_take (i := 11) (oi := ⟨_, _, _, _, _, _⟩) (v := undef) rfl (by kernel_rfl) (by kernel_rfl) (by kernel_rfl) (fun _ _ _ h => h) (Or.inr ⟨by rfl, rfl⟩) (by assumption) ?_); (try simp only [Act.put, List.setIfInBounds_toArray, List.set_cons_zero, List.set_cons_succ])
    (refine wpAnyH_take (i := 12) (oi := ⟨_, _, _, _, _, _⟩) (v := ?_) rfl (by kernel_rfl) (by kernel_rfl) (by kernel_rfl) (fun _ _ _ h => h) (Or.inl ⟨by rfl, ?_⟩) (by assumption) ?_; rotate_left; focus ((intro w' hSw; (try dsimp only at hSw); go_simp; (try with_reducible rfl)))); (try simp only [Act.put, List.setIfInBounds_toArray, List.set_cons_zero, List.set_cons_succ])
    refine wpAnyH_done (by kernel_rfl) ?_ _
    have HWQ := Lib.hid HWR.out.drew
    have HBQ := Lib.hid (HBR.out.read hdrew)
    clear g0 hHeld HB HWR HBR hself hdrew e0 HW HBX
    go_upto_region 4 with (fail)
    generalize wr.drew = wq at HWQ HBQ ⊢
    have hz1 : w.heap.size + 1 ≤ wq.heap.size := HBQ.out.le
    have HZQ := Lib.hid hz1
    have HRS := Lib.hid (rowB_start (E := bdE) (e := 47) (w := wq) (lo := w.heap.size + 1) hz1)
    have HWA : Hid (Below w.heap.size w (wq.alloc (.cells #[] 47))) := Lib.hid (HWQ.out.alloc (by omega) _)
    have HBA := Lib.hid (HBQ.out.read (belowAlloc (Below.refl _ _) (.cells #[] 47)))
    clear hz1
    go_upto_region 5 with (at_builtin; refine append_rowB rfl _ _ 23 rfl bdE (w.heap.size + 1) 47 i0 _ 64 Try.underlying23 HII.out.1 HII.out.2.1 HII.out.2.2.1 HII.out.2.2.2 rfl (by omega) _ _ rfl HRS.out none 0 0 rfl [] rfl (fun _ => ⟨rfl, rfl⟩) (fun ad h j u hj => by cases h) (fun u hu => by simp [cellsE] at hu) (fun j p hj => by simp at hj) (by simp) (by have := HBA.out.le; simp at this ⊢; omega) ?_; intro v21 w21 hown21 hb21; have HO21 := Lib.hid hown21; have HX21 := Lib.hid hb21; clear hown21 hb21)
    have HW21 : Hid (Below w.heap.size w w21) := Lib.hid (HWA.out.trans (HX21.out.mono (Nat.le_succ _)))
    have HB21 := Lib.hid (HBA.out.of_below HX21.out (Nat.le_refl _))
    obtain ⟨q0, q1, q2, q3, q4, qf⟩ := box_cells5 HB21.out.now
    have HR21 := Lib.hid (HO21.out.kept (belowAlloc (Below.refl _ _) (.cells #[.int .i64 b.v, .int .i64 b.t.kind, .int .i64 b.t.num, .string b.t.name, .slice ba b.t.args.length bc] 47)))
    have HWB : Hid (Below w.heap.size w (w21.alloc (.cells #[.int .i64 b.v, .int .i64 b.t.kind, .int .i64 b.t.num, .string b.t.name, .slice ba b.t.args.length bc] 47))) := Lib.hid (HW21.out.alloc HW21.out.size _)
    have HBB := Lib.hid (HB21.out.read (belowAlloc (Below.refl _ _) (.cells #[.int .i64 b.v, .int .i64 b.t.kind, .int .i64 b.t.num, .string b.t.name, .slice ba b.t.args.length bc] 47)))
    clear HRS HX21 HWA HBA
    go_upto_region 6 with (at_builtin; refine append_rowB rfl _ _ 23 rfl bdE (w.heap.size + 1) 47 i0 _ 64 Try.underlying23 HII.out.1 HII.out.2.1 HII.out.2.2.1 HII.out.2.2.2 rfl (by omega) v21 _ rfl HR21.out (some ⟨w21.heap.size, 0, none⟩) 1 1 rfl [(b, Value.slice ba b.t.args.length bc)] rfl (fun h => by cases h) (fun ad h j u hj => by cases h; rw [cellsE_one] at hj; exact World.news_of_block (heap_alloc_new w21 _) j u hj) (bd_one fun j p hj => by (match j, hj with | 0, hj => (simp at hj; subst hj; rfl))) (fun j p hj => by (match j, hj with | 0, hj => (simp at hj; subst hj; exact (HBK.out.frame HWB.out.size fun k hk _ => HWB.out.block k hk).sub fun k hk => Nat.lt_succ_of_lt hk))) (by simp) (by have := HBB.out.le; exact this) ?_; intro v22 w22 hown22 hb22; have HO22 := Lib.hid hown22; have HX22 := Lib.hid hb22; clear hown22 hb22)
    have HW22 : Hid (Below w.heap.size w w22) := Lib.hid (HWB.out.trans (HX22.out.mono (Nat.le_succ _)))
    have HB22 := Lib.hid (HBB.out.of_below HX22.out (Nat.le_refl _))
    clear HR21 HX22 HWB HBB q0 q1 q2 q3 q4 qf
    go_wp2_with (at_builtin; refine append_rowB rfl _ _ 23 rfl bdE (w.heap.size + 1) 47 i0 _ 64 Try.underlying23 HII.out.1 HII.out.2.1 HII.out.2.2.1 HII.out.2.2.2 rfl (by omega) v22 _ rfl HO22.out none 0 0 rfl [] rfl (fun _ => ⟨rfl, rfl⟩) (fun ad h j u hj => by cases h) (fun u hu => by simp [cellsE] at hu) (fun j p hj => by simp at hj) (by simp) (by have := HB22.out.le; exact this) ?_; intro v23 w23 hown23 hb23; have HO23 := Lib.hid hown23; have HX23 := Lib.hid hb23; clear hown23 hb23)
    go_wp2
    go_ret
    exact ⟨_, rfl, by simpa using HO23.out, HW22.out.trans (HX23.out.mono (Nat.le_succ _))⟩

/-- A list of bindings as l06Match makes it: nil, or a row of the model's own. -/
def VL (w : World) (v : Value) (l : List Bd) : Prop := (l = [] ∧ v = .slice none 0 0) ∨ ∃ g cap lo, v = .slice (some ⟨g, 0, none⟩) l.length cap ∧ RowK bdE 47 w lo (.slice (some ⟨g, 0, none⟩) l.length cap) l
theorem VL.kept {w w' : World} {v : Value} {l : List Bd} (h : VL w v l) (hb : Below w.heap.size w w') : VL w' v l := by
  rcases h with ⟨h1, h2⟩ | ⟨g, cap, lo, h1, h2⟩
  · exact .inl ⟨h1, h2⟩
  · exact .inr ⟨g, cap, lo, h1, h2.kept hb⟩
theorem VL.inS {w : World} {v : Value} {l : List Bd} (h : VL w v l) : ListS bdE w Any v l := by
  rcases h with ⟨rfl, rfl⟩ | ⟨g, cap, lo, rfl, h2⟩
  · exact .nil _ _
  · exact h2.inS
theorem VL.slice {w : World} {v : Value} {l : List Bd} (h : VL w v l) : ∃ a cap, v = .slice a l.length cap := h.inS.slice
theorem vl_row {w : World} {lo : Nat} {v : Value} {l : List Bd} (h : RowB bdE 47 w lo v l) (hs : lo ≤ w.heap.size) (hp : 0 < l.length) : VL w v l := by
  obtain ⟨g, cap, rfl⟩ := h.some hp
  exact .inr ⟨g, cap, 0, rfl, h.rowK (Nat.zero_le _) hs⟩
theorem specInsertV_any (s : List Bd) (v : Value) (b : Bd) (V : Value) (S : Nat → Prop) (w : World) (h : VL w v s) (hb : ArgsS w S V b.t.args) (hl : s.length ≤ 1048576) :
    Calls Try.prog 128 #[v, .agg #[.int .i64 b.v, .int .i64 b.t.kind, .int .i64 b.t.num, .string b.t.name, V]] w fun e w' => ∃ v, e = .returned v ∧ VL w' v (insB s b) ∧ Below w.heap.size w w' := by
  rcases h with ⟨rfl, rfl⟩ | ⟨g, cap, lo, rfl, h2⟩
  · refine (specInsertNil_any b V S w hb).mono ?_
    rintro e w' ⟨v, rfl, hr, hB⟩
    refine ⟨v, rfl, ?_, hB⟩
    have hs := hr.size (by simp)
    rw [show insB [] b = [b] from rfl]
    exact vl_row hr (by omega) (by simp)
  · refine (specInsert_any s g cap lo b V S w h2 hb hl).mono ?_
    rintro e w' ⟨v, rfl, hr, hB⟩
    have hs := hr.size (by rw [insB_length]; omega)
    exact ⟨v, rfl, vl_row hr (by omega) (by rw [insB_length]; omega), hB⟩
theorem insB_get {l : List Bd} {b : Bd} (hl : l.Pairwise (fun a b => a.v < b.v)) (hn : getO l b.v = none) : (insB l b).Pairwise (fun a b => a.v < b.v) ∧ ∀ v, getO (insB l b) v = updO (getO l) b.v b.t v := by
  have ha := insB_asc hl fun c hc e => getO_none.1 hn c hc e
  refine ⟨ha, fun v => ?_⟩
  by_cases e : v = b.v
  · rw [e, updO_self]
    exact get_asc ha b (insB_mem.2 (.inl rfl))
  · rw [updO_ne _ _ e]
    cases hg : getO l v with
    | none =>
      refine getO_none.2 fun c hc hcv => ?_
      rcases insB_mem.1 hc with rfl | hc
      · exact e hcv.symm
      · exact getO_none.1 hg c hc hcv
    | some t =>
      obtain ⟨c, hc, hcv, rfl⟩ := getO_some hg
      rw [← hcv]
      exact get_asc ha c (insB_mem.2 (.inr hc))
theorem mat_len {a b : Tm} (ha : Good a) (hb : Good b) (h : a.kind = b.kind) : a.args.length = b.args.length := by
  rcases good_args_cases ha with ⟨hk, x, y, hxy, _⟩ | ⟨hk, hl⟩
  · rcases good_args_cases hb with ⟨_, x2, y2, hxy2, _⟩ | ⟨hk', _⟩
    · rw [hxy, hxy2]; rfl
    · omega
  · rcases good_args_cases hb with ⟨hk', _⟩ | ⟨_, hl'⟩
    · omega
    · rw [hl, hl']
/-- What the model's l06Match answers. -/
def SMatP (l : List Bd) (p t : Tm) (w : World) (e : Ending) (w' : World) : Prop :=
  ∃ (v : Value) (m : List Bd), e = .returned (.tuple #[v, .bool (matB (getO l) p t)]) ∧ VL w' v m ∧ Below w.heap.size w w' ∧ (matB (getO l) p t = true → m.Pairwise (fun a b => a.v < b.v) ∧ OkG (getO m) ∧ m.length ≤ l.length + p.nodes ∧ MatY (getO l) p t (getO m))

set_option maxRecDepth 100000 in
set_option maxHeartbeats 8000000 in
theorem specMatch_any (N : Nat) : ∀ (p t : Tm) (l : List Bd) (Vp Vt Vl : Value) (w : World), p.nodes < N → VL w Vl l → l.Pairwise (fun a b => a.v < b.v) → OkG (getO l) → l.length + p.nodes ≤ 1000000 → ArgsAt w Vp p.args → ArgsAt w Vt t.args → Ok p → Ok t →
    Calls Try.prog 93 #[.agg #[.int .i64 p.kind, .int .i64 p.num, .string p.name, Vp], .agg #[.int .i64 t.kind, .int .i64 t.num, .string t.name, Vt], Vl] w (SMatP l p t w) := by
  induction N with
  | zero => intro p t l Vp Vt Vl w hN; omega
  | succ N ih =>
    intro p t l Vp Vt Vl w hN hL hasc hg hn hP hQ hOp hOt
    obtain ⟨pa, pc, rfl⟩ := hP.slice
    obtain ⟨qa, qc, rfl⟩ := hQ.slice
    obtain ⟨la, lc, rfl⟩ := hL.slice
    have HI := Lib.hid ih
    have hB : Below w.heap.size w ((w.alloc (.cells #[.int .i64 p.kind, .int .i64 p.num, .string p.name, .slice pa p.args.length pc] 27)).alloc (.cells #[.int .i64 t.kind, .int .i64 t.num, .string t.name, .slice qa t.args.length qc] 27)) := belowAlloc (belowAlloc (Below.refl _ _) _) _
    have HX := Lib.hid ((at_box_of w #[.int .i64 p.kind, .int .i64 p.num, .string p.name, .slice pa p.args.length pc] 27 w.heap.size rfl).read (belowAlloc (Below.refl _ _) (.cells #[.int .i64 t.kind, .int .i64 t.num, .string t.name, .slice qa t.args.length qc] 27)))
    have HY := Lib.hid (at_box_of (w.alloc (.cells #[.int .i64 p.kind, .int .i64 p.num, .string p.name, .slice pa p.args.length pc] 27)) #[.int .i64 t.kind, .int .i64 t.num, .string t.name, .slice qa t.args.length qc] 27 (w.heap.size + 1) (by simp))
    have HL := Lib.hid (hL.kept hB)
    have HP := Lib.hid (hP.kept hB)
    have HQ := Lib.hid (hQ.kept hB)
    have HW := Lib.hid hB
    have HASC := Lib.hid hasc
    have HOP := Lib.hid hOp
    have HOQ := Lib.hid hOt
    have HG := Lib.hid hg
    have hnp := nodes_pos p
    have HNE := Lib.hid (nodes_eq p)
    have hzp : p.sz ≤ 1048576 := by have h1 := good_sz hOp.2; have h2 := hOp.1; omega
    have hzt : t.sz ≤ 1048576 := by have h1 := good_sz hOt.2; have h2 := hOt.1; omega
    have hll : l.length ≤ 1048576 := by omega
    clear hP hQ hL hB hOp hOt hg hasc ih
    obtain ⟨r, hr⟩ : ∃ r, matB (getO l) p t = r := ⟨_, rfl⟩
    have HR := Lib.hid hr
    have END : Hid (∀ (v : Value) (m : List Bd) (W : World), VL W v m → Below w.heap.size w W → (r = true → m.Pairwise (fun a b => a.v < b.v) ∧ OkG (getO m) ∧ m.length ≤ l.length + p.nodes ∧ MatY (getO l) p t (getO m)) → SMatP l p t w (.returned (.tuple #[v, .bool r])) W) := Lib.hid fun v m W h1 h2 h3 => ⟨v, m, by rw [hr], h1, h2, by rw [hr]; exact h3⟩
    clear hr
    go_enter Try.func93, Try.ntmps93
    go_upto_region 1 with (fail)
    generalize hw0 : (w.alloc (.cells #[.int .i64 p.kind, .int .i64 p.num, .string p.name, .slice pa p.args.length pc] 27)).alloc (.cells #[.int .i64 t.kind, .int .i64 t.num, .string t.name, .slice qa t.args.length qc] 27) = w0 at HX HY HL HP HQ HW ⊢
    clear hw0
    obtain ⟨c0, c1, c2, c3⟩ := HX.out.cells
    have z0 := HX.out.le
    by_cases hk : p.kind = 1
    · have dk : (p.kind == 1) = true := by rw [hk]; rfl
      have HTM := Lib.hid (take_mat (t := t) HG.out HOP.out.2 hk HOQ.out.2)
      have HTO := Lib.hid (takeG_ok (v := p.num) HG.out HOQ.out)
      have HC := Lib.hid (specGet_any l _ p.num (fun k => k < w0.heap.size) w0 HL.out.inS.lowB hll)
      clear hk
      go_wp2_with fail
      refine HC.out.mono ?_
      rintro e w1 ⟨u, rfl, hu, hb⟩
      obtain ⟨ua, uc, rfl⟩ := hu.at.slice
      replace HX := Lib.hid (HX.out.read hb)
      replace HY := Lib.hid (HY.out.read hb)
      replace HL := Lib.hid (HL.out.kept hb)
      replace HQ := Lib.hid (HQ.out.kept hb)
      replace HW := Lib.hid (belowOn HW.out (Nat.le_refl _) hb)
      have HU := Lib.hid hu.at
      clear hb hu HC c0 c1 c2 c3 z0 HP
      cases hgl : getO l p.num with
      | some x =>
        obtain ⟨h1, h2⟩ := get_yes hgl
        have HT1 := Lib.hid (take_had (t := t) hgl)
        have HOX := Lib.hid (HG.out p.num x hgl)
        rw [h1] at HU ⊢
        rw [h2]
        clear h1 h2 hgl
        go_upto_region 4 with (fail)
        have hal : Below w1.heap.size w1 (w1.alloc (.cells #[.int .i64 x.kind, .int .i64 x.num, .string x.name, .slice ua x.args.length uc] 27)) := belowAlloc (Below.refl _ _) _
        have HZ := Lib.hid (at_box_of w1 #[.int .i64 x.kind, .int .i64 x.num, .string x.name, .slice ua x.args.length uc] 27 w1.heap.size rfl)
        replace HY := Lib.hid (HY.out.read hal)
        replace HL := Lib.hid (HL.out.kept hal)
        replace HQ := Lib.hid (HQ.out.kept hal)
        replace HU := Lib.hid (HU.out.kept hal)
        replace HW := Lib.hid (belowOn HW.out (Nat.le_refl _) hal)
        clear hal HX
        generalize hw2 : w1.alloc (.cells #[.int .i64 x.kind, .int .i64 x.num, .string x.name, .slice ua x.args.length uc] 27) = w2 at HY HZ HL HQ HU HW ⊢
        clear hw2
        generalize w1.heap.size = nx at HZ ⊢
        have HC := Lib.hid (specSame_any x t _ _ w2 HU.out HQ.out (by have h1 := good_sz HOX.out.2; have h2 := HOX.out.1; omega) hzt)
        obtain ⟨c0, c1, c2, c3⟩ := HZ.out.cells
        have z0 := HZ.out.le
        obtain ⟨d0, d1, d2, d3⟩ := HY.out.cells
        have z1 := HY.out.le
        go_wp2_with fail
        refine HC.out.mono ?_
        rintro e w3 ⟨rfl, hb⟩
        have HE : Hid (SMatP l p t w (.returned (.tuple #[.slice la l.length lc, .bool (x.cmp t == 0)])) w3) := Lib.hid (by
          have hrr : (x.cmp t == 0) = r := by rw [← HR.out, HTM.out.1, HT1.out.1]
          rw [hrr]
          refine END.out _ l w3 (HL.out.kept hb) (belowOn HW.out (Nat.le_refl _) hb) fun h => ⟨HASC.out, HG.out, Nat.le_add_right _ _, ?_⟩
          have h4 := HTM.out.2 (by rw [HT1.out.1, hrr]; exact h)
          rw [HT1.out.2] at h4
          exact h4)
        clear hb HC c0 c1 c2 c3 z0 d0 d1 d2 d3 z1
        go_wp2
        go_ret2
        exact HE.out
      | none =>
        obtain ⟨h1, h2⟩ := get_no hgl
        have HT1 := Lib.hid (take_free (t := t) hgl)
        have HGL := Lib.hid hgl
        rw [h1] at HU ⊢
        rw [h2]
        clear h1 h2 hgl HU
        go_upto_region 5 with (fail)
        have hal : Below w1.heap.size w1 (w1.alloc (.cells #[.int .i64 zeroTm.kind, .int .i64 zeroTm.num, .string zeroTm.name, .slice ua zeroTm.args.length uc] 27)) := belowAlloc (Below.refl _ _) _
        replace HX := Lib.hid (HX.out.read hal)
        replace HY := Lib.hid (HY.out.read hal)
        replace HL := Lib.hid (HL.out.kept hal)
        replace HQ := Lib.hid (HQ.out.kept hal)
        replace HW := Lib.hid (belowOn HW.out (Nat.le_refl _) hal)
        clear hal
        generalize hw2 : w1.alloc (.cells #[.int .i64 zeroTm.kind, .int .i64 zeroTm.num, .string zeroTm.name, .slice ua zeroTm.args.length uc] 27) = w2 at HX HY HL HQ HW ⊢
        clear hw2
        have HC := Lib.hid (specInsertV_any l _ ⟨p.num, t⟩ _ _ w2 HL.out HQ.out.inS hll)
        obtain ⟨c0, c1, c2, c3⟩ := HX.out.cells
        have z0 := HX.out.le
        obtain ⟨d0, d1, d2, d3⟩ := HY.out.cells
        have z1 := HY.out.le
        go_wp2_with fail
        refine HC.out.mono ?_
        rintro e w3 ⟨v, rfl, hv, hb⟩
        have HE : Hid (SMatP l p t w (.returned (.tuple #[v, .bool true])) w3) := Lib.hid (by
          have hrr : true = r := by rw [← HR.out, HTM.out.1, HT1.out.1]
          obtain ⟨k1, k2⟩ := insB_get (b := ⟨p.num, t⟩) HASC.out HGL.out
          rw [hrr]
          refine END.out _ (insB l ⟨p.num, t⟩) w3 hv (belowOn HW.out (Nat.le_refl _) hb) fun h => ?_
          have e1 : getO (insB l ⟨p.num, t⟩) = updO (getO l) p.num t := funext k2
          have h4 := HTM.out.2 (by rw [HT1.out.1])
          rw [HT1.out.2] at h4
          rw [e1]
          exact ⟨k1, HG.out.upd HOQ.out, by rw [insB_length]; omega, h4⟩)
        clear hb hv HC c0 c1 c2 c3 z0 d0 d1 d2 d3 z1
        go_wp2
        go_ret2
        exact HE.out
    · have dk : (p.kind == 1) = false := beq_eq_false_iff_ne.2 hk
      have HNP := Lib.hid hk
      obtain ⟨k0, k1, k2, k3⟩ := HY.out.cells
      have z1 := HY.out.le
      clear hk
      by_cases h3 : p.kind = t.kind ∧ p.num = t.num ∧ p.name = t.name
      · have HEQ := Lib.hid h3
        have HLEN := Lib.hid (mat_len HOP.out.2 HOQ.out.2 h3.1)
        have e1 : (p.kind != t.kind) = false := by rw [h3.1]; exact bne_self_eq_false _
        have e2 : (p.num != t.num) = false := by rw [h3.2.1]; exact bne_self_eq_false _
        have e3 : (p.name.toList == t.name.toList) = true := by rw [h3.2.2]; exact beq_self_eq_true _
        have e4 : (p.name.toList != t.name.toList) = false := by rw [h3.2.2]; exact bne_self_eq_false _
        have hpl : p.args.length ≤ 1048576 := by have h3 := length_szL p.args; have h4 := sz_eq p; omega
        have HYES : Hid (∀ m, MatYs (getO l) p.args t.args (getO m) → r = true ∧ MatY (getO l) p t (getO m)) := Lib.hid fun m h => by
          have hy := mat_node HNP.out HEQ.out h
          exact ⟨by rw [← HR.out]; exact matB_yes hy, hy⟩
        have HNOT : Hid (MatNs (getO l) p.args t.args → r = false) := Lib.hid fun h => by rw [← HR.out]; exact matB_no (nat_args HNP.out h)
        clear h3
        go_wp2
        clear e1 e2 e3 e4 c0 c1 c2 c3 z0 k0 k1 k2 k3 z1 dk
        go_loopw [2, 10, 56] (fun sv ov kv wr => ∃ (k : Nat) (u : List Bd), k ≤ p.args.length ∧ kv = .int .i64 k ∧ ov = .bool true ∧ Hid (VL wr sv u) ∧ Hid (u.Pairwise (fun a b => a.v < b.v) ∧ OkG (getO u) ∧ u.length ≤ l.length + nodesL (p.args.take k) ∧ MatYs (getO l) (p.args.take k) (t.args.take k) (getO u)) ∧ Hid (Below w0.heap.size w0 wr)) (fun _ _ kv _ => p.args.length - (intOf kv).toNat)
        case atStart => exact ⟨0, l, Nat.zero_le _, rfl, rfl, HL, Lib.hid ⟨HASC.out, HG.out, Nat.le_add_right _ _, mats_nil _⟩, Lib.hid (Below.refl _ _)⟩
        case round =>
          obtain ⟨k, u, hk, rfl, rfl, HU, HM, HB⟩ := hrel
          obtain ⟨ua, uc, rfl⟩ := HU.out.slice
          by_cases hlt : k < p.args.length
          · have hltI : (k : Int) < (p.args.length : Int) := by omega
            have hltQ : k < t.args.length := by have := HLEN.out; omega
            have hltJ : (k : Int) < (t.args.length : Int) := by omega
            obtain ⟨x, hx⟩ : ∃ x, p.args[k]? = some x := ⟨_, List.getElem?_eq_getElem hlt⟩
            obtain ⟨y, hy⟩ : ∃ y, t.args[k]? = some y := ⟨_, List.getElem?_eq_getElem hltQ⟩
            obtain ⟨g, off, u1, u2, rfl, hg, _, hc, hxa⟩ := HP.out.elem hx
            obtain ⟨g', off', y1, y2, rfl, hg', _, hc', hya⟩ := HQ.out.elem hy
            obtain ⟨d0, d1, d2, d3⟩ := hc wr HB.out
            have HXE := Lib.hid hx
            have HYE := Lib.hid hy
            have HNX := Lib.hid (And.intro (nodes_at hx) (nodes_at hy))
            have HNK := Lib.hid (And.intro (nodes_take hx) (nodes_take_at hx))
            have HOX : Hid (Ok x) := Lib.hid ⟨by have h1 := HNX.out.1; have h2 := HNE.out; have h3 := HOP.out.1; omega, HOP.out.2.each hx⟩
            have HOY : Hid (Ok y) := Lib.hid ⟨by have h1 := HNX.out.2; have h2 := nodes_eq t; have h3 := HOQ.out.1; omega, HOQ.out.2.each hy⟩
            have hal : Below wr.heap.size wr (wr.alloc (.cells #[.int .i64 x.kind, .int .i64 x.num, .string x.name, .slice u1 x.args.length u2] 27)) := belowAlloc (Below.refl _ _) _
            have HXB := Lib.hid (at_box_of wr #[.int .i64 x.kind, .int .i64 x.num, .string x.name, .slice u1 x.args.length u2] 27 wr.heap.size rfl)
            have HU1 := Lib.hid (HU.out.kept hal)
            have HB1 := Lib.hid (belowOn HB.out (Nat.le_refl _) hal)
            have HXA := Lib.hid (hxa.kept (belowOn HB.out (Nat.le_refl _) hal))
            have HYA := Lib.hid (hya.kept (belowOn HB.out (Nat.le_refl _) hal))
            have HC2 := Lib.hid (fun W hW => hc' W (belowOn (belowOn HB.out (Nat.le_refl _) hal) (Nat.le_refl _) hW))
            clear hc hc' hxa hya hx hy hal
            go_upto_region 12 with (fail)
            generalize hw5 : wr.alloc (.cells #[.int .i64 x.kind, .int .i64 x.num, .string x.name, .slice u1 x.args.length u2] 27) = w5 at HXB HU1 HB1 HXA HYA HC2 ⊢
            clear hw5 d0 d1 d2 d3 HU HB
            generalize wr.heap.size = nx at HXB ⊢
            have hself : Below w5.heap.size w5 w5 := Below.refl _ _
            have hdrew : Below w5.heap.size w5 w5.drew := hself.drew
            have HCE : Hid (∀ W, Below w5.heap.size w5 W → W.cell? ⟨w.heap.size + 1, 3, none⟩ = some (.slice (some ⟨g', off', none⟩) t.args.length qc)) := Lib.hid fun W hW => ((HY.out.read HB1.out).read hW).cells.2.2.2
            obtain ⟨d0, d1, d2, d3⟩ := HC2.out w5 hself
            obtain ⟨f0, f1, f2, f3⟩ := HC2.out w5.drew hdrew
            obtain ⟨c0, c1, c2, c3⟩ := HXB.out.cells
            obtain ⟨k0, k1, k2, k3⟩ := (HXB.out.read hdrew).cells
            have r3 := HCE.out w5 hself
            have r3d := HCE.out w5.drew hdrew
            cases hm : matB (getO u) x y with
            | false =>
              obtain rfl := HNOT.out (by
                have h1 := List.take_append_drop k p.args
                have h2 := List.take_append_drop k t.args
                rw [List.drop_eq_getElem_cons hlt] at h1
                rw [List.drop_eq_getElem_cons hltQ] at h2
                have ex : p.args[k] = x := by have := HXE.out; rw [List.getElem?_eq_getElem hlt] at this; exact Option.some.inj this
                have ey : t.args[k] = y := by have := HYE.out; rw [List.getElem?_eq_getElem hltQ] at this; exact Option.some.inj this
                rw [← h1, ← h2, ex, ey]
                exact nats_snoc HM.out.2.2.2 (matB_false HOX.out.2 hm) (by rw [List.length_take, List.length_take]; omega))
              have HCC : Hid (∀ W, Below w5.heap.size w5 W → Calls Try.prog 93 #[.agg #[.int .i64 x.kind, .int .i64 x.num, .string x.name, .slice u1 x.args.length u2], .agg #[.int .i64 y.kind, .int .i64 y.num, .string y.name, .slice y1 y.args.length y2], .slice ua u.length uc] W fun e w' => ∃ v, e = .returned (.tuple #[v, .bool false]) ∧ Hid (Below w5.heap.size w5 w')) := Lib.hid fun W hW =>
                (HI.out x y u _ _ _ W (by have h1 := HNX.out.1; have h2 := HNE.out; omega) (HU1.out.kept hW) HM.out.1 HM.out.2.1 (by have h1 := HNK.out.2; have h2 := HNE.out; have h3 := HM.out.2.2.1; omega) (HXA.out.kept hW) (HYA.out.kept hW) HOX.out HOY.out).mono fun e w' ⟨v, m, he, hv, hb, _⟩ => ⟨v, by rw [he, hm], Lib.hid (belowOn hW (Nat.le_refl _) hb)⟩
              clear HXB HU1 HXA HYA HC2 HI HP HQ HX HL hm
              go_region_law (go_simp; go_at_call 93; (with_reducible refine Calls.mono (HCC.out _ ?_) ?_); (first | exact hself | exact hdrew); rintro e wB ⟨v5, rfl, HB5⟩)
              all_goals
                have HF := Lib.hid (END.out (.slice none 0 0) [] wB (.inl ⟨rfl, rfl⟩) (belowOn HW.out (Nat.le_refl _) (belowOn HB1.out (Nat.le_refl _) HB5.out)) (fun h => by cases h))
                clear d0 d1 d2 d3 f0 f1 f2 f3 c0 c1 c2 c3 k0 k1 k2 k3 r3 r3d
                go_wp2
                go_ret2
                exact HF.out
            | true =>
              have HCC : Hid (∀ W, Below w5.heap.size w5 W → Calls Try.prog 93 #[.agg #[.int .i64 x.kind, .int .i64 x.num, .string x.name, .slice u1 x.args.length u2], .agg #[.int .i64 y.kind, .int .i64 y.num, .string y.name, .slice y1 y.args.length y2], .slice ua u.length uc] W fun e w' => ∃ v, e = .returned (.tuple #[v, .bool true]) ∧ Hid (∃ m, VL w' v m ∧ Below w5.heap.size w5 w' ∧ m.Pairwise (fun a b => a.v < b.v) ∧ OkG (getO m) ∧ m.length ≤ u.length + x.nodes ∧ MatY (getO u) x y (getO m))) := Lib.hid fun W hW =>
                (HI.out x y u _ _ _ W (by have h1 := HNX.out.1; have h2 := HNE.out; omega) (HU1.out.kept hW) HM.out.1 HM.out.2.1 (by have h1 := HNK.out.2; have h2 := HNE.out; have h3 := HM.out.2.2.1; omega) (HXA.out.kept hW) (HYA.out.kept hW) HOX.out HOY.out).mono fun e w' ⟨v, m, he, hv, hb, hh⟩ => ⟨v, by rw [he, hm], Lib.hid ⟨m, hv, belowOn hW (Nat.le_refl _) hb, hh hm⟩⟩
              clear HXB HU1 HXA HYA HC2 HI HX HL hm
              go_region_law (go_simp; go_at_call 93; (with_reducible refine Calls.mono (HCC.out _ ?_) ?_); (first | exact hself | exact hdrew); rintro e wB ⟨v5, rfl, HB5⟩)
              all_goals
                obtain ⟨m, hv5, hb5, hm1, hm2, hm3, hm4⟩ := HB5.out
                have HV5 := Lib.hid hv5
                have HBB := Lib.hid (belowOn HB1.out (Nat.le_refl _) hb5)
                have HMM : Hid (m.Pairwise (fun a b => a.v < b.v) ∧ OkG (getO m) ∧ m.length ≤ l.length + nodesL (p.args.take (k + 1)) ∧ MatYs (getO l) (p.args.take (k + 1)) (t.args.take (k + 1)) (getO m)) := Lib.hid ⟨hm1, hm2, by have h1 := HNK.out.1; have h3 := HM.out.2.2.1; omega, by
                  rw [take_snoc HXE.out, take_snoc HYE.out]
                  exact mats_snoc HM.out.2.2.2 hm4 (by rw [List.length_take, List.length_take]; omega)⟩
                clear hv5 hb5 hm1 hm2 hm3 hm4 d0 d1 d2 d3 f0 f1 f2 f3 c0 c1 c2 c3 k0 k1 k2 k3 r3 r3d HB5 HM
                go_wp2
                go_roundw
                case rel => exact ⟨k + 1, m, by omega, by go_num, rfl, HV5, HMM, HBB⟩
                case measure => simp [intOf]; omega
          · obtain rfl : k = p.args.length := by omega
            have HMU : Hid (MatYs (getO l) p.args t.args (getO u)) := Lib.hid (by have h := HM.out.2.2.2; have e := HLEN.out; rw [List.take_length, e, List.take_length] at h; exact h)
            have HF : Hid (SMatP l p t w (.returned (.tuple #[.slice ua u.length uc, .bool true])) wr) := Lib.hid (by
              obtain ⟨h1, h2⟩ := HYES.out u HMU.out
              have h3 := END.out (.slice ua u.length uc) u wr HU.out (belowOn HW.out (Nat.le_refl _) HB.out) (fun _ => ⟨HM.out.1, HM.out.2.1, by have h4 := HM.out.2.2.1; rw [List.take_length] at h4; have h5 := HNE.out; omega, h2⟩)
              rw [h1] at h3
              exact h3)
            go_wp2
            go_ret2
            exact HF.out
      · obtain rfl : r = false := by rw [← HR.out]; exact matB_no (nat_node HNP.out h3)
        have HF := Lib.hid (END.out (.slice none 0 0) [] w0 (.inl ⟨rfl, rfl⟩) HW.out (fun h => by cases h))
        have HCS : (p.kind != t.kind) = true ∨ ((p.kind != t.kind) = false ∧ (p.num != t.num) = true) ∨ ((p.kind != t.kind) = false ∧ (p.num != t.num) = false ∧ (p.name.toList == t.name.toList) = false ∧ (p.name.toList != t.name.toList) = true) := by
          by_cases h1 : p.kind = t.kind
          · by_cases h2 : p.num = t.num
            · exact .inr (.inr ⟨by rw [h1]; exact bne_self_eq_false _, by rw [h2]; exact bne_self_eq_false _, beq_eq_false_iff_ne.2 fun h => h3 ⟨h1, h2, toList_inj h⟩, bne_iff_ne.2 fun h => h3 ⟨h1, h2, toList_inj h⟩⟩)
            · exact .inr (.inl ⟨by rw [h1]; exact bne_self_eq_false _, bne_iff_ne.2 h2⟩)
          · exact .inl (bne_iff_ne.2 h1)
        clear h3
        rcases HCS with d1 | ⟨d1, d2⟩ | ⟨d1, d2, d3, d4⟩
        all_goals
          go_wp2
          go_ret2
          exact HF.out
end Go.Proofs.Ytbbgiefnmihmdaa

