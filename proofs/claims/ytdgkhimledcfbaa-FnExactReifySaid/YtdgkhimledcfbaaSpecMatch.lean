/-
  The model's l06Match, and what stands on it: MatchTerm, IsInstance. (Written by wip/tools/gen_specmatch.py.)
-/
import Derived.Test.YtdgkhimledcfbaaMatchP
import Derived.Test.YtdgkhimledcfbaaSpecComp
namespace Go.Proofs.Ytdgkhimledcfbaa
open Go.RowKit
set_option linter.unusedVariables false
set_option linter.unusedSimpArgs false

set_option maxRecDepth 100000 in
set_option maxHeartbeats 8000000 in
theorem specInsertNil_any (b : Bd) (V : Value) (S : Nat → Prop) (w : World) (hb : ArgsS w S V b.t.args) :
    Calls Try.prog 123 #[.slice none 0 0, .agg #[.int .i64 b.v, .int .i64 b.t.kind, .int .i64 b.t.num, .string b.t.name, V]] w fun e w' => ∃ v, e = .returned v ∧ RowB bdE 40 w' (w.heap.size + 1) v [b] ∧ Below w.heap.size w w' := by
  obtain ⟨i0, hi, hz0, hz1, hz2⟩ := info_parts infoBinding
  have HII := Lib.hid (And.intro hi (And.intro hz0 (And.intro hz1 hz2)))
  obtain ⟨ba, bc, rfl⟩ := hb.at.slice
  have HBK := Lib.hid (hb.low.sub (S' := fun k => k < w.heap.size) fun k hk => hk.2)
  have hal : Below w.heap.size w (w.alloc (.cells #[.int .i64 b.v, .int .i64 b.t.kind, .int .i64 b.t.num, .string b.t.name, .slice ba b.t.args.length bc] 40)) := belowAlloc (Below.refl _ _) _
  have HBX := Lib.hid (at_box_of w #[.int .i64 b.v, .int .i64 b.t.kind, .int .i64 b.t.num, .string b.t.name, .slice ba b.t.args.length bc] 40 w.heap.size rfl)
  have HW := Lib.hid hal
  clear hi hz0 hz1 hz2 hb hal
  go_enter Try.func123, Try.ntmps123
  go_upto_region 1 with (fail)
  generalize hw1 : w.alloc (.cells #[.int .i64 b.v, .int .i64 b.t.kind, .int .i64 b.t.num, .string b.t.name, .slice ba b.t.args.length bc] 40) = w1 at HBX HW ⊢
  clear hw1
  go_wp2
  go_loopw [5] (fun iv wr => iv = .int .i64 0 ∧ Hid (Below w1.heap.size w1 wr)) (fun _ _ => 0)
  case atStart => exact ⟨rfl, Lib.hid (Below.refl _ _)⟩
  case round =>
    obtain ⟨rfl, HB⟩ := hrel
    have HWR : Hid (Below w.heap.size w wr) := Lib.hid (belowOn HW.out (Nat.le_refl _) HB.out)
    have HBR := Lib.hid (HBX.out.read HB.out)
    obtain ⟨e0, e1, e2, e3, e4, ef⟩ := box_cells5 HBR.out.now
    have hself : Below wr.heap.size wr wr := Below.refl _ _
    have hdrew : Below wr.heap.size wr wr.drew := hself.drew
    go_upto_region 2 with (fail)
    have g0 : decide ((0 : Int) < 0) = false := rfl
    clear e1 e2 e3 e4 ef
    refine wp_region_held_drew (S := (fun w' => Below wr.heap.size wr w' ∧ w'.cell? ⟨w.heap.size, 0, none⟩ = some (.int .i64 b.v))) (by kernel_rfl) (by (try dsimp only); go_keep) (fun hHeld => ?_)
    (refine wpAnyH_take (i := 0) (oi := ⟨_, _, _, _, _, _⟩) (v := ?_) rfl (by kernel_rfl) (by kernel_rfl) (by kernel_rfl) (fun _ _ _ h => h) (Or.inl ⟨by rfl, ?_⟩) (by assumption) ?_; rotate_left; focus ((intro w' hSw; (try dsimp only at hSw); go_simp; (try with_reducible rfl)))); (try simp only [Act.put, List.setIfInBounds_toArray, List.set_cons_zero, List.set_cons_succ])
    (refine wpAnyH_take (i := 1) (oi := ⟨_, _, _, _, _, _⟩) (v := ?_) rfl (by kernel_rfl) (by kernel_rfl) (by kernel_rfl) (fun _ _ _ h => h) (Or.inl ⟨by rfl, ?_⟩) (by assumption) ?_; rotate_left; focus ((intro w' hSw; (try dsimp only at hSw); go_simp; (try with_reducible rfl)))); (try simp only [Act.put, List.setIfInBounds_toArray, List.set_cons_zero, List.set_cons_succ])
    (refine wpAnyH_take (i := 2) (oi := ⟨_, _, _, _, _, _⟩) (v := ?_) rfl (by kernel_rfl) (by kernel_rfl) (by kernel_rfl) (fun _ _ _ h => h) (Or.inl ⟨by rfl, ?_⟩) (by assumption) ?_; rotate_left; focus ((intro w' hSw; (try dsimp only at hSw); go_simp; (try with_reducible rfl)))); (try simp only [Act.put, List.setIfInBounds_toArray, List.set_cons_zero, List.set_cons_succ])
    (refine wpAnyH_take (i := 3) (oi := ⟨_, _, _, _, _, _⟩) (v := undef) rfl (by kernel_rfl) (by kernel_rfl) (by kernel_rfl) (fun _ _ _ h => h) (Or.inr ⟨by rfl, rfl⟩) (by assumption) ?_); (try simp only [Act.put, List.setIfInBounds_toArray, List.set_cons_zero, List.set_cons_succ])
    (refine wpAnyH_take (i := 4) (oi := ⟨_, _, _, _, _, _⟩) (v := undef) rfl (by kernel_rfl) (by kernel_rfl) (by kernel_rfl) (fun _ _ _ h => h) (Or.inr ⟨by rfl, rfl⟩) (by assumption) ?_); (try simp only [Act.put, List.setIfInBounds_toArray, List.set_cons_zero, List.set_cons_succ])
    (refine wpAnyH_take (i := 5) (oi := ⟨_, _, _, _, _, _⟩) (v := undef) rfl (by kernel_rfl) (by kernel_rfl) (by kernel_rfl) (fun _ _ _ h => h) (Or.inr ⟨by rfl, rfl⟩) (by assumption) ?_); (try simp only [Act.put, List.setIfInBounds_toArray, List.set_cons_zero, List.set_cons_succ])
    (refine wpAnyH_take (i := 6) (oi := ⟨_, _, _, _, _, _⟩) (v := undef) rfl (by kernel_rfl) (by kernel_rfl) (by kernel_rfl) (fun _ _ _ h => h) (Or.inr ⟨by rfl, rfl⟩) (by assumption) ?_); (try simp only [Act.put, List.setIfInBounds_toArray, List.set_cons_zero, List.set_cons_succ])
    (refine wpAnyH_take (i := 7) (oi := ⟨_, _, _, _, _, _⟩) (v := undef) rfl (by kernel_rfl) (by kernel_rfl) (by kernel_rfl) (fun _ _ _ h => h) (Or.inr ⟨by rfl, rfl⟩) (by assumption) ?_); (try simp only [Act.put, List.setIfInBounds_toArray, List.set_cons_zero, List.set_cons_succ])
    (refine wpAnyH_take (i := 8) (oi := ⟨_, _, _, _, _, _⟩) (v := undef) rfl (by kernel_rfl) (by kernel_rfl) (by kernel_rfl) (fun _ _ _ h => h) (Or.inr ⟨by rfl, rfl⟩) (by assumption) ?_); (try simp only [Act.put, List.setIfInBounds_toArray, List.set_cons_zero, List.set_cons_succ])
    (refine wpAnyH_take (i := 9) (oi := ⟨_, _, _, _, _, _⟩) (v := undef) rfl (by kernel_rfl) (by kernel_rfl) (by kernel_rfl) (fun _ _ _ h => h) (Or.inr ⟨by rfl, rfl⟩) (by assumption) ?_); (try simp only [Act.put, List.setIfInBounds_toArray, List.set_cons_zero, List.set_cons_succ])
    (refine wpAnyH_take (i := 10) (oi := ⟨_, _, _, _, _, _⟩) (v := undef) rfl (by kernel_rfl) (by kernel_rfl) (by kernel_rfl) (fun _ _ _ h => h) (Or.inr ⟨by rfl, rfl⟩) (by assumption) ?_); (try simp only [Act.put, List.setIfInBounds_toArray, List.set_cons_zero, List.set_cons_succ])
    (refine wpAnyH_take (i := 11) (oi := ⟨_, _, _, _, _, _⟩) (v := undef) rfl (by kernel_rfl) (by kernel_rfl) (by kernel_rfl) (fun _ _ _ h => h) (Or.inr ⟨by rfl, rfl⟩) (by assumption) ?_); (try simp only [Act.put, List.setIfInBounds_toArray, List.set_cons_zero, List.set_cons_succ])
    (refine wpAnyH_take (i := 12) (oi := ⟨_, _, _, _, _, _⟩) (v := ?_) rfl (by kernel_rfl) (by kernel_rfl) (by kernel_rfl) (fun _ _ _ h => h) (Or.inl ⟨by rfl, ?_⟩) (by assumption) ?_; rotate_left; focus ((intro w' hSw; (try dsimp only at hSw); go_simp; (try with_reducible rfl)))); (try simp only [Act.put, List.setIfInBounds_toArray, List.set_cons_zero, List.set_cons_succ])
    refine wpAnyH_done (by kernel_rfl) ?_ _
    have HWQ := Lib.hid HWR.out.drew
    have HBQ := Lib.hid (HBR.out.read hdrew)
    clear g0 hHeld HB HWR HBR hself hdrew e0 HW HBX
    go_upto_region 4 with (fail)
    generalize wr.drew = wq at HWQ HBQ ⊢
    have hz1 : w.heap.size + 1 ≤ wq.heap.size := HBQ.out.le
    have HZQ := Lib.hid hz1
    have HRS := Lib.hid (rowB_start (E := bdE) (e := 40) (w := wq) (lo := w.heap.size + 1) hz1)
    have HWA : Hid (Below w.heap.size w (wq.alloc (.cells #[] 40))) := Lib.hid (HWQ.out.alloc (by omega) _)
    have HBA := Lib.hid (HBQ.out.read (belowAlloc (Below.refl _ _) (.cells #[] 40)))
    clear hz1
    go_upto_region 5 with (at_builtin; refine append_rowB rfl _ _ 28 rfl bdE (w.heap.size + 1) 40 i0 _ 64 Try.underlying28 HII.out.1 HII.out.2.1 HII.out.2.2.1 HII.out.2.2.2 rfl (by omega) _ _ rfl HRS.out none 0 0 rfl [] rfl (fun _ => ⟨rfl, rfl⟩) (fun ad h j u hj => by cases h) (fun u hu => by simp [cellsE] at hu) (fun j p hj => by simp at hj) (by simp) (by have := HBA.out.le; simp at this ⊢; omega) ?_; intro v21 w21 hown21 hb21; have HO21 := Lib.hid hown21; have HX21 := Lib.hid hb21; clear hown21 hb21)
    have HW21 : Hid (Below w.heap.size w w21) := Lib.hid (HWA.out.trans (HX21.out.mono (Nat.le_succ _)))
    have HB21 := Lib.hid (HBA.out.of_below HX21.out (Nat.le_refl _))
    obtain ⟨q0, q1, q2, q3, q4, qf⟩ := box_cells5 HB21.out.now
    have HR21 := Lib.hid (HO21.out.kept (belowAlloc (Below.refl _ _) (.cells #[.int .i64 b.v, .int .i64 b.t.kind, .int .i64 b.t.num, .string b.t.name, .slice ba b.t.args.length bc] 40)))
    have HWB : Hid (Below w.heap.size w (w21.alloc (.cells #[.int .i64 b.v, .int .i64 b.t.kind, .int .i64 b.t.num, .string b.t.name, .slice ba b.t.args.length bc] 40))) := Lib.hid (HW21.out.alloc HW21.out.size _)
    have HBB := Lib.hid (HB21.out.read (belowAlloc (Below.refl _ _) (.cells #[.int .i64 b.v, .int .i64 b.t.kind, .int .i64 b.t.num, .string b.t.name, .slice ba b.t.args.length bc] 40)))
    clear HRS HX21 HWA HBA
    go_upto_region 6 with (at_builtin; refine append_rowB rfl _ _ 28 rfl bdE (w.heap.size + 1) 40 i0 _ 64 Try.underlying28 HII.out.1 HII.out.2.1 HII.out.2.2.1 HII.out.2.2.2 rfl (by omega) v21 _ rfl HR21.out (some ⟨w21.heap.size, 0, none⟩) 1 1 rfl [(b, Value.slice ba b.t.args.length bc)] rfl (fun h => by cases h) (fun ad h j u hj => by cases h; rw [cellsE_one] at hj; exact World.news_of_block (heap_alloc_new w21 _) j u hj) (bd_one fun j p hj => by (match j, hj with | 0, hj => (simp at hj; subst hj; rfl))) (fun j p hj => by (match j, hj with | 0, hj => (simp at hj; subst hj; exact (HBK.out.frame HWB.out.size fun k hk _ => HWB.out.block k hk).sub fun k hk => Nat.lt_succ_of_lt hk))) (by simp) (by have := HBB.out.le; exact this) ?_; intro v22 w22 hown22 hb22; have HO22 := Lib.hid hown22; have HX22 := Lib.hid hb22; clear hown22 hb22)
    have HW22 : Hid (Below w.heap.size w w22) := Lib.hid (HWB.out.trans (HX22.out.mono (Nat.le_succ _)))
    have HB22 := Lib.hid (HBB.out.of_below HX22.out (Nat.le_refl _))
    clear HR21 HX22 HWB HBB q0 q1 q2 q3 q4 qf
    go_wp2_with (at_builtin; refine append_rowB rfl _ _ 28 rfl bdE (w.heap.size + 1) 40 i0 _ 64 Try.underlying28 HII.out.1 HII.out.2.1 HII.out.2.2.1 HII.out.2.2.2 rfl (by omega) v22 _ rfl HO22.out none 0 0 rfl [] rfl (fun _ => ⟨rfl, rfl⟩) (fun ad h j u hj => by cases h) (fun u hu => by simp [cellsE] at hu) (fun j p hj => by simp at hj) (by simp) (by have := HB22.out.le; exact this) ?_; intro v23 w23 hown23 hb23; have HO23 := Lib.hid hown23; have HX23 := Lib.hid hb23; clear hown23 hb23)
    go_wp2
    go_ret
    exact ⟨_, rfl, by simpa using HO23.out, HW22.out.trans (HX23.out.mono (Nat.le_succ _))⟩

/-- A list of bindings as l06Match makes it: nil, or a row of the model's own. -/
def VL (w : World) (v : Value) (l : List Bd) : Prop := (l = [] ∧ v = .slice none 0 0) ∨ ∃ g cap lo, v = .slice (some ⟨g, 0, none⟩) l.length cap ∧ RowK bdE 40 w lo (.slice (some ⟨g, 0, none⟩) l.length cap) l
theorem VL.kept {w w' : World} {v : Value} {l : List Bd} (h : VL w v l) (hb : Below w.heap.size w w') : VL w' v l := by
  rcases h with ⟨h1, h2⟩ | ⟨g, cap, lo, h1, h2⟩
  · exact .inl ⟨h1, h2⟩
  · exact .inr ⟨g, cap, lo, h1, h2.kept hb⟩
theorem VL.inS {w : World} {v : Value} {l : List Bd} (h : VL w v l) : ListS bdE w Any v l := by
  rcases h with ⟨rfl, rfl⟩ | ⟨g, cap, lo, rfl, h2⟩
  · exact .nil _ _
  · exact h2.inS
theorem VL.slice {w : World} {v : Value} {l : List Bd} (h : VL w v l) : ∃ a cap, v = .slice a l.length cap := h.inS.slice
theorem vl_row {w : World} {lo : Nat} {v : Value} {l : List Bd} (h : RowB bdE 40 w lo v l) (hs : lo ≤ w.heap.size) (hp : 0 < l.length) : VL w v l := by
  obtain ⟨g, cap, rfl⟩ := h.some hp
  exact .inr ⟨g, cap, 0, rfl, h.rowK (Nat.zero_le _) hs⟩
theorem specInsertV_any (s : List Bd) (v : Value) (b : Bd) (V : Value) (S : Nat → Prop) (w : World) (h : VL w v s) (hb : ArgsS w S V b.t.args) (hl : s.length ≤ 1048576) :
    Calls Try.prog 123 #[v, .agg #[.int .i64 b.v, .int .i64 b.t.kind, .int .i64 b.t.num, .string b.t.name, V]] w fun e w' => ∃ v, e = .returned v ∧ VL w' v (insB s b) ∧ Below w.heap.size w w' := by
  rcases h with ⟨rfl, rfl⟩ | ⟨g, cap, lo, rfl, h2⟩
  · refine (specInsertNil_any b V S w hb).mono ?_
    rintro e w' ⟨v, rfl, hr, hB⟩
    refine ⟨v, rfl, ?_, hB⟩
    have hs := hr.size (by simp)
    rw [show insB [] b = [b] from rfl]
    exact vl_row hr (by omega) (by simp)
  · refine (specInsert_any s g cap lo b V S w h2 hb hl).mono ?_
    rintro e w' ⟨v, rfl, hr, hB⟩
    have hs := hr.size (by rw [insB_length]; omega)
    exact ⟨v, rfl, vl_row hr (by omega) (by rw [insB_length]; omega), hB⟩
theorem insB_get {l : List Bd} {b : Bd} (hl : l.Pairwise (fun a b => a.v < b.v)) (hn : getO l b.v = none) : (insB l b).Pairwise (fun a b => a.v < b.v) ∧ ∀ v, getO (insB l b) v = updO (getO l) b.v b.t v := by
  have ha := insB_asc hl fun c hc e => getO_none.1 hn c hc e
  refine ⟨ha, fun v => ?_⟩
  by_cases e : v = b.v
  · rw [e, updO_self]
    exact get_asc ha b (insB_mem.2 (.inl rfl))
  · rw [updO_ne _ _ e]
    cases hg : getO l v with
    | none =>
      refine getO_none.2 fun c hc hcv => ?_
      rcases insB_mem.1 hc with rfl | hc
      · exact e hcv.symm
      · exact getO_none.1 hg c hc hcv
    | some t =>
      obtain ⟨c, hc, hcv, rfl⟩ := getO_some hg
      rw [← hcv]
      exact get_asc ha c (insB_mem.2 (.inr hc))
theorem mat_len {a b : Tm} (ha : Good a) (hb : Good b) (h : a.kind = b.kind) : a.args.length = b.args.length := by
  rcases good_args_cases ha with ⟨hk, x, y, hxy, _⟩ | ⟨hk, hl⟩
  · rcases good_args_cases hb with ⟨_, x2, y2, hxy2, _⟩ | ⟨hk', _⟩
    · rw [hxy, hxy2]; rfl
    · omega
  · rcases good_args_cases hb with ⟨hk', _⟩ | ⟨_, hl'⟩
    · omega
    · rw [hl, hl']
/-- What the model's l06Match answers. -/
def SMatP (l : List Bd) (p t : Tm) (w : World) (e : Ending) (w' : World) : Prop :=
  ∃ (v : Value) (m : List Bd), e = .returned (.tuple #[v, .bool (matB (getO l) p t)]) ∧ VL w' v m ∧ Below w.heap.size w w' ∧ (matB (getO l) p t = true → m.Pairwise (fun a b => a.v < b.v) ∧ OkG (getO m) ∧ m.length ≤ l.length + p.nodes ∧ MatY (getO l) p t (getO m))

end Go.Proofs.Ytdgkhimledcfbaa

