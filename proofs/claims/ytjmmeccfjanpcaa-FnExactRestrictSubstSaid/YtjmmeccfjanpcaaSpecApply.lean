/-
  The model's l04Apply, Lookup, ApplySubst.
-/
import Derived.Test.YtjmmeccfjanpcaaSpecPut4
import Derived.Test.YtjmmeccfjanpcaaSpecSubst
import Derived.Test.YtjmmeccfjanpcaaItems
namespace Go.Proofs.Ytjmmeccfjanpcaa
open Go.RowKit
set_option linter.unusedVariables false
set_option linter.unusedSimpArgs false

theorem putT_good {s : List Bd} (hs : ∀ b ∈ s, Good b.t) : ∀ (n : Nat) (t : Tm), t.nodes ≤ n → Good t → Good (putT s t)
  | 0, t, h, _ => by have := nodes_pos t; omega
  | n + 1, t, h, hg => by
    by_cases h1 : t.kind = 1
    · rw [putT_var h1]
      split
      · rename_i x hx
        obtain ⟨b, hb, _, rfl⟩ := getO_some hx
        exact hs b hb
      · exact hg
    · by_cases h4 : t.kind = 4
      · obtain ⟨x, y, hxy⟩ := hg.fit.pair h4
        have hn := nodes_args2 hxy
        have h2 := (good_two hg.fit hxy).1 hg
        rw [putT_two h4 hxy]
        exact .pair _ _ (putT_good hs n x (by omega) h2.1) (putT_good hs n y (by omega) h2.2)
      · rw [putT_atom h1 h4]; exact hg
theorem putT_nodes {s : List Bd} {M : Nat} (hM : 1 ≤ M) (hs : ∀ b ∈ s, b.t.nodes ≤ M) : ∀ (n : Nat) (t : Tm), t.nodes ≤ n → Good t → (putT s t).nodes ≤ M * t.nodes
  | 0, t, h, _ => by have := nodes_pos t; omega
  | n + 1, t, h, hg => by
    have hp := nodes_pos t
    by_cases h1 : t.kind = 1
    · rw [putT_var h1]
      split
      · rename_i x hx
        obtain ⟨b, hb, _, rfl⟩ := getO_some hx
        exact Nat.le_trans (hs b hb) (Nat.le_mul_of_pos_right _ hp)
      · exact Nat.le_mul_of_pos_left _ hM
    · by_cases h4 : t.kind = 4
      · obtain ⟨x, y, hxy⟩ := hg.fit.pair h4
        have hn := nodes_args2 hxy
        have h2 := (good_two hg.fit hxy).1 hg
        have e : (Tm.mk 4 0 ⟨#[]⟩ [putT s x, putT s y]).nodes = 1 + (putT s x).nodes + (putT s y).nodes := nodes_args2 rfl
        have a := putT_nodes hM hs n x (by omega) h2.1
        have b := putT_nodes hM hs n y (by omega) h2.2
        rw [putT_two h4 hxy, e, hn, Nat.mul_add, Nat.mul_add]
        omega
      · rw [putT_atom h1 h4]; exact Nat.le_mul_of_pos_left _ hM
theorem SubstP.good {s : List Bd} (h : SubstP s) : ∀ b ∈ s, Good b.t := fun b hb => by
  obtain ⟨i, hi⟩ := List.getElem?_of_mem hb
  exact (h.1.1 i b hi).2.2
theorem SubstP.nodes {s : List Bd} (h : SubstP s) : ∀ b ∈ s, b.t.nodes ≤ 5000 := fun b hb => by
  obtain ⟨i, hi⟩ := List.getElem?_of_mem hb
  exact (h.1.1 i b hi).2.1
theorem putT_fine {s : List Bd} {t : Tm} (hs : SubstP s) (ht : Ok t) : Good (putT s t) ∧ (putT s t).nodes ≤ 25000000 ∧ (putT s t).sz ≤ 1099511627776 := by
  have h1 := putT_good hs.good t.nodes t (Nat.le_refl _) ht.2
  have h2 := putT_nodes (by decide) hs.nodes t.nodes t (Nat.le_refl _) ht.2
  have h3 : 5000 * t.nodes ≤ 5000 * 5000 := Nat.mul_le_mul_left _ ht.1
  have h4 := good_sz h1
  exact ⟨h1, by omega, by omega⟩

/-- A term, shared with what was there, and whether. -/
def OldS2 (S : Nat → Prop) (t : Tm) (b : Bool) (w : World) (e : Ending) (w' : World) : Prop :=
  ∃ u, e = .returned (.tuple #[.agg #[.int .i64 t.kind, .int .i64 t.num, .string t.name, u], .bool b]) ∧ ArgsS w' (fun k => S k ∨ (w.heap.size ≤ k ∧ k < w'.heap.size)) u t.args ∧ Below w.heap.size w w'
/-- The return of a struct of four cells that lies in the result's variable, and of a second result. -/
theorem bodyPost_row2 {P : Program} {fn : Func} {R : Ending → World → Prop} {a : Act} {w : World} {p q : Tmp} {ty e : TypeId} {b : Nat} {y0 y1 y2 y3 z : Value} {d : TypeDesc} (h : fn.results = #[.cell p ty, .tmp q]) (hp : a.tmps.getD p undef = .pointer (some ⟨b, 0, none⟩)) (hq : a.tmps.getD q undef = z) (hd : a.defers = [])
    (hu : P.underlying ty = some d) (hdd : (match d with | .struct _ | .array _ _ => true | _ => false) = true) (hi : (P.info? ty).map (·.size) = some 4) (hb : w.heap[b]? = some (Obj.cells #[y0, y1, y2, y3] e))
    (hR : R (.returned (.tuple #[.agg #[y0, y1, y2, y3], z])) w) : bodyPost P fn R .ret a w := by
  subst hq
  exact bodyPost_ret (results_cell_row2 h _ _ b e #[y0, y1, y2, y3] (0, 0) d hp hb hu hdd hi) hd hR
theorem only_store4 {w W : World} {b : Nat} (h : Only (fun k => k = b) w W) (y0 y1 y2 y3 : Value) : Only (fun k => k = b) w ((((W.setCell ⟨b, 0, none⟩ y0).setCell ⟨b, 1, none⟩ y1).setCell ⟨b, 2, none⟩ y2).setCell ⟨b, 3, none⟩ y3) := by
  have one : ∀ (W : World) (j : Nat) (u : Value), Only (fun k => k = b) W (W.setCell ⟨b, j, none⟩ u) := fun W j u => ⟨rfl, rfl, rfl, by simp, fun k _ hk => Below.heap_setCell _ _ _ _ hk⟩
  exact (((h.trans (one _ _ _)).trans (one _ _ _)).trans (one _ _ _)).trans (one _ _ _)
theorem fits_dec {n : Nat} : decide (n ≤ 5000) = true ∨ decide (n ≤ 5000) = false := by cases decide (n ≤ 5000) <;> simp

set_option maxRecDepth 100000 in
set_option maxHeartbeats 4000000 in
theorem specApply4_any (s : List Bd) (t : Tm) (Vs V : Value) (S : Nat → Prop) (w : World) (hs : SubstP s) (ht : Ok t) (hL : s.length ≤ 1048576) (hSB : ∀ k, S k → k < w.heap.size) (hLS : ListS bdE w S Vs s) (hA : ArgsS w S V t.args) (hZ : t.sz ≤ 1048576) :
    Calls Try.prog 51 #[Vs, .agg #[.int .i64 t.kind, .int .i64 t.num, .string t.name, V]] w (OldS2 S (putT s t) (decide ((putT s t).nodes ≤ 5000)) w) := by
  obtain ⟨aa, ca, rfl⟩ := hA.at.slice
  obtain ⟨sa, sc, rfl⟩ := hLS.slice
  have HFINE := Lib.hid (putT_fine hs ht)
  have hal : Below w.heap.size w (w.alloc (.cells #[.int .i64 t.kind, .int .i64 t.num, .string t.name, .slice aa t.args.length ca] 31)) := belowAlloc (Below.refl _ _) _
  have hal2 : Below w.heap.size w ((w.alloc (.cells #[.int .i64 t.kind, .int .i64 t.num, .string t.name, .slice aa t.args.length ca] 31)).alloc (.cells #[.int .i64 0, .int .i64 0, .string ⟨#[]⟩, .slice none 0 0] 31)) := belowAlloc hal _
  have HW := Lib.hid hal2
  have HX := Lib.hid (at_box_of w #[.int .i64 t.kind, .int .i64 t.num, .string t.name, .slice aa t.args.length ca] 31 w.heap.size rfl)
  replace HX := Lib.hid (HX.out.read (belowAlloc (Below.refl _ _) (.cells #[.int .i64 0, .int .i64 0, .string ⟨#[]⟩, .slice none 0 0] 31)))
  have HR := Lib.hid (at_box_of (w.alloc (.cells #[.int .i64 t.kind, .int .i64 t.num, .string t.name, .slice aa t.args.length ca] 31)) #[.int .i64 0, .int .i64 0, .string ⟨#[]⟩, .slice none 0 0] 31 (w.heap.size + 1) (by simp))
  have HC := Lib.hid (fun W (h : Below w.heap.size w W) => specPut4_any s hL (t.nodes + 1) t (.slice sa s.length sc) (.slice aa t.args.length ca) S W (Nat.lt_succ_self _) (fun k hk => Nat.lt_of_lt_of_le (hSB k hk) h.size) (hLS.kept h) (hA.kept h) hZ ht.2)
  have HSB := Lib.hid hSB
  clear hal hal2 hLS hA hSB ht hs
  generalize putT s t = r at HC HFINE ⊢
  obtain ⟨fb, hfb⟩ : ∃ fb, fb = decide (r.nodes ≤ 5000) := ⟨_, rfl⟩
  rw [← hfb]
  have HFB := Lib.hid hfb
  clear hfb
  go_enter Try.func51, Try.ntmps51
  go_upto_region 1 with (fail)
  generalize hw0 : (w.alloc (.cells #[.int .i64 t.kind, .int .i64 t.num, .string t.name, .slice aa t.args.length ca] 31)).alloc (.cells #[.int .i64 0, .int .i64 0, .string ⟨#[]⟩, .slice none 0 0] 31) = w0 at HW HX HR ⊢
  clear hw0
  obtain ⟨c0a, c0b, c0c, c0d⟩ := HX.out.cells
  go_wp2_with fail
  refine (HC.out _ HW.out).mono ?_
  rintro e w1 ⟨u, rfl, hu, hb⟩
  obtain ⟨ua, uc, rfl⟩ := hu.at.slice
  have hal : Below w1.heap.size w1 (w1.alloc (.cells #[.int .i64 r.kind, .int .i64 r.num, .string r.name, .slice ua r.args.length uc] 31)) := belowAlloc (Below.refl _ _) _
  have hrl := HR.out.le
  have HU := Lib.hid (hu.kept hal)
  have HBX := Lib.hid (at_box_of w1 #[.int .i64 r.kind, .int .i64 r.num, .string r.name, .slice ua r.args.length uc] 31 (w1.heap.size) rfl)
  have HB1 := Lib.hid (belowOn HW.out (Nat.le_refl _) (belowOn hb (Nat.le_refl _) hal))
  have HR1 := Lib.hid ((HR.out.read hb).read hal)
  have hsz := hb.size
  have hsz0 := HW.out.size
  have hnb : ¬ w1.heap.size = w.heap.size + 1 := by omega
  have hnb2 : ¬ w.heap.size + 1 = w1.heap.size := by omega
  clear hu hb hal HC c0a c0b c0c c0d HX
  go_upto_region 2 with (fail)
  have hS1 : (w1.alloc (.cells #[.int .i64 r.kind, .int .i64 r.num, .string r.name, .slice ua r.args.length uc] 31)).heap.size = w1.heap.size + 1 := by simp
  have HS1 := Lib.hid hS1
  clear hS1
  generalize hw1 : w1.alloc (.cells #[.int .i64 r.kind, .int .i64 r.num, .string r.name, .slice ua r.args.length uc] 31) = w2 at HU HBX HB1 HR1 HS1 ⊢
  clear hw1
  obtain ⟨nb, hnbe⟩ : ∃ n : Nat, n = w1.heap.size := ⟨_, rfl⟩
  rw [← hnbe] at HBX hnb hnb2 ⊢
  have HNB := Lib.hid hnbe
  clear hnbe
  have hself : Only (fun k => k = w.heap.size + 1) w2 w2 := Only.refl _ _
  have hdrew : Only (fun k => k = w.heap.size + 1) w2 w2.drew := Only.of_below (Below.refl _ _).drew
  have hbself : Below w2.heap.size w2 w2 := Below.refl _ _
  have hbdrew : Below w2.heap.size w2 w2.drew := hbself.drew
  have HSET : Hid (∀ k, (S k ∨ (w0.heap.size ≤ k ∧ k < w1.heap.size)) → ¬ k = w.heap.size + 1) := Lib.hid fun k hk e => by
    rcases hk with h | h
    · have := HSB.out k h; omega
    · omega
  have HCE : Hid (∀ W, Only (fun k => k = w.heap.size + 1) w2 W → W.cell? ⟨nb, 0, none⟩ = some (.int .i64 r.kind) ∧ W.cell? ⟨nb, 1, none⟩ = some (.int .i64 r.num) ∧ W.cell? ⟨nb, 2, none⟩ = some (.string r.name) ∧ W.cell? ⟨nb, 3, none⟩ = some (.slice ua r.args.length uc)) := Lib.hid fun W hW => by
    have h := (hW.block nb (by have := HS1.out; have := HNB.out; omega) hnb).trans HBX.out.now
    obtain ⟨q0, q1, q2, q3, _⟩ := box_cells h
    exact ⟨q0, q1, q2, q3⟩
  have HFT : Hid (∀ W, Only (fun k => k = w.heap.size + 1) w2 W → Calls Try.prog 79 #[.agg #[.int .i64 r.kind, .int .i64 r.num, .string r.name, .slice ua r.args.length uc]] W fun e w' => e = .returned (.bool fb) ∧ Below W.heap.size W w' ∧ Only (fun k => k = w.heap.size + 1) w2 w') := Lib.hid fun W hW => by
    rw [HFB.out]
    refine (specFits_any r _ W (HU.out.frame hW.size fun k hk hks => hW.block k hks (HSET.out k hk)).at HFINE.out.2.2).mono ?_
    rintro e w' ⟨he, hb⟩
    exact ⟨he, hb, hW.trans (Only.of_below hb)⟩
  have HRB : Hid (∀ W, Below w2.heap.size w2 W → W.heap[w.heap.size + 1]? = some (Obj.cells #[.int .i64 0, .int .i64 0, .string ⟨#[]⟩, .slice none 0 0] 31)) := Lib.hid fun W hW => (HR1.out.read hW).now
  have HTR : Hid (∀ a b, Below w2.heap.size w2 a → Below a.heap.size a b → Below w2.heap.size w2 b) := Lib.hid fun a b h1 h2 => belowOn h1 (Nat.le_refl _) h2
  have HEND : Hid (∀ W, Only (fun k => k = w.heap.size + 1) w2 W → OldS2 S r fb w (.returned (.tuple #[.agg #[.int .i64 r.kind, .int .i64 r.num, .string r.name, .slice ua r.args.length uc], .bool fb])) W) := Lib.hid fun W hW =>
    ⟨_, rfl, (HU.out.frame hW.size fun k hk hks => hW.block k hks (HSET.out k hk)).sub fun k hk => hk.imp id fun h => ⟨by omega, by have := hW.size; have := HS1.out; omega⟩, HB1.out.trans (hW.below (fun k hk => by omega) HB1.out.size)⟩
  obtain ⟨k0, k1, k2, k3⟩ := HCE.out w2 hself
  obtain ⟨r0, r1, r2, r3, rf⟩ := box_cells HR1.out.now
  have HR2 := Lib.hid HR1.out.now
  have hrl2 : w.heap.size + 1 < w2.heap.size := by have := HS1.out; omega
  clear HU HBX HB1 HR1 HW HR HSET HFINE HS1 HNB HSB HFB hrl hsz hsz0
  go_region_held3 (fun w' => w'.cell? ⟨nb, 0, none⟩ = some (.int .i64 r.kind) ∧ w'.cell? ⟨nb, 1, none⟩ = some (.int .i64 r.num) ∧ w'.cell? ⟨nb, 2, none⟩ = some (.string r.name) ∧ w'.cell? ⟨nb, 3, none⟩ = some (.slice ua r.args.length uc)) (go_keep)
    (first
      | (go_at_call 79; (with_reducible refine Calls.mono (HFT.out _ ?_) ?_); (first | exact hself | exact hdrew | exact only_store4 hself _ _ _ _ | exact only_store4 hdrew _ _ _ _); rintro e wF ⟨rfl, hb, ho⟩; obtain ⟨k0, k1, k2, k3⟩ := HCE.out _ ho; have HO := Lib.hid ho; have HF := Lib.hid hb; (first | (have hRF := HRB.out _ (HTR.out _ _ (by assumption) hb); obtain ⟨r0, r1, r2, r3, rf⟩ := box_cells hRF; have HRF := Lib.hid hRF) | skip); clear hb ho))
  all_goals (go_wp2_with fail; first | with_reducible exact bodyPost_row2 (p := 4) (q := 5) (b := w.heap.size + 1) (z := .bool fb) rfl rfl rfl rfl Try.underlying31 rfl (by kernel_rfl) (store4 HRF.out _ _ _ _).1 (HEND.out _ (only_store4 HO.out _ _ _ _)) | exact bodyPost_row2 (p := 4) (q := 5) (b := w.heap.size + 1) (z := .bool fb) rfl rfl rfl rfl Try.underlying31 rfl (by kernel_rfl) ((HF.out.block _ (by simp; omega)).trans (store4 HR2.out _ _ _ _).1) (HEND.out _ HO.out))
end Go.Proofs.Ytjmmeccfjanpcaa

