/-
  The laws' count of a variable; what FnTerms asks, plain.
-/
import Derived.Test.YtokndpmoamjbfaaSame
import Derived.Test.YtokndpmoamjbfaaReplace
import Derived.Test.YtokndpmoamjbfaaItemsImpl
import Derived.Test.YtokndpmoamjbfaaImplListTerm
namespace Go.Proofs.Ytokndpmoamjbfaa
open Go.RowKit
set_option linter.unusedVariables false
set_option linter.unusedSimpArgs false

theorem occ_no_var {v : Int} {t : Tm} (h : ¬ (t.kind = 1 ∧ t.num = v)) : t.occ v = occL v t.args := by rw [occ_eq, if_neg h]
theorem occ_var {v : Int} {t : Tm} (h : t.kind = 1 ∧ t.num = v) : t.occ v = 1 := by rw [occ_eq, if_pos h]
theorem occ_two (v : Int) (x y : Tm) : occL v [x, y] = x.occ v + y.occ v := by rw [occL, occL, occL]; omega
theorem occ_put {v : Int} {b : Tm} (n : Nat) : ∀ t : Tm, t.nodes ≤ n → Good t → (t.put v b).occ v = t.occ v * b.occ v := by
  induction n with
  | zero => intro t h; have := nodes_pos t; omega
  | succ n ih =>
    intro t hn hg
    by_cases hv : t.kind = 1 ∧ t.num = v
    · rw [put_var hv, occ_var hv, Nat.one_mul]
    · rcases good_args_cases hg with ⟨hk, x, y, hxy, gx, gy⟩ | ⟨hk, hl⟩
      · have hnn : t.nodes = 1 + x.nodes + y.nodes := by rw [nodes_eq, hxy, nodesL, nodesL, nodesL]; omega
        rw [put_pair hv hxy, occ_no_var (t := .mk t.kind t.num t.name _) hv, occ_no_var hv, hxy]
        show occL v [x.put v b, y.put v b] = _
        rw [occ_two, occ_two, ih x (by omega) gx, ih y (by omega) gy, Nat.add_mul]
      · rw [put_atom hv hl, occ_no_var hv, hl, occL_nil, Nat.zero_mul]
theorem list_items (n : Nat) : ∀ t : Tm, t.nodes ≤ n → Good t → listT t.items t.last = t ∧ Good t.last ∧ ¬ t.last.kind = 4 ∧ (∀ x ∈ t.items, Good x ∧ x.nodes ≤ t.nodes) ∧ t.last.nodes ≤ t.nodes := by
  induction n with
  | zero => intro t h; have := nodes_pos t; omega
  | succ n ih =>
    intro t hn hg
    rcases good_args_cases hg with ⟨hk, x, y, hxy, gx, gy⟩ | ⟨hk, hl⟩
    · have hnn := nodes_args2 hxy
      have hx := nodes_pos x
      obtain ⟨h1, h2, h3, h4, h5⟩ := ih y (by omega) gy
      rw [items_pair hxy, last_pair hxy, listT_cons, h1]
      refine ⟨?_, h2, h3, fun z hz => ?_, by omega⟩
      · obtain ⟨f1, f2⟩ := pair_fields hg hk
        have e := t.eta
        rw [hxy, hk, f1, f2] at e
        exact e
      · rcases List.mem_cons.1 hz with rfl | hz
        · exact ⟨gx, by omega⟩
        · have := h4 z hz; exact ⟨this.1, by omega⟩
    · rw [items_atom hl, last_atom hl, listT_nil]
      exact ⟨rfl, hg, hk, fun z hz => by simp at hz, Nat.le_refl _⟩

theorem small_prod {a b : Nat} (ha : a ≤ 27) (hb : b ≤ 27) : a * b ≤ 729 := Nat.le_trans (Nat.mul_le_mul ha hb) (by decide)
/-- What the law compares. -/
theorem terms_facts {t b : Tm} (v : Int) (ht : Good t) (hb : Good b) (hn : (t.nodes : Int) ≤ 27) (hm : (b.nodes : Int) ≤ 27) :
    (rvB t v b = true ∧ Good (rvT t v b) ∧ ((rvT t v b).nodes : Int) = t.nodes + (t.occ v : Int) * ((b.nodes : Int) - 1) ∧ (((rvT t v b).occ v : Nat) : Int) = (t.occ v : Int) * (b.occ v : Int) ∧ (rvT t v b).nodes ≤ 1000) ∧
    (ltB (itT t) (itL t) = true ∧ ltT (itT t) (itL t) = t ∧ ¬ (itL t).kind = 4) ∧ (0 ≤ (t.occ v : Int) * ((b.nodes : Int) - 1) ∧ (t.occ v : Int) * ((b.nodes : Int) - 1) ≤ 729) ∧ (0 ≤ (t.occ v : Int) * (b.occ v : Int) ∧ (t.occ v : Int) * (b.occ v : Int) ≤ 729) := by
  have h1 := nodes_put (v := v) (b := b) ht
  have h2 := occ_put (v := v) (b := b) t.nodes t (Nat.le_refl _) ht
  have ho := occ_nodes v t
  have ho2 := occ_nodes v b
  have hbp := nodes_pos b
  have hs := small_prod (a := t.occ v) (b := b.nodes) (by omega) (by omega)
  have hs2 := small_prod (a := t.occ v) (b := b.occ v) (by omega) (by omega)
  have e : (t.occ v : Int) * ((b.nodes : Int) - 1) = ((t.occ v * b.nodes : Nat) : Int) - t.occ v := by rw [Int.mul_sub, Int.mul_one]; simp
  have e2 : (t.occ v : Int) * (b.occ v : Int) = ((t.occ v * b.occ v : Nat) : Int) := by simp
  have hle : t.occ v ≤ t.occ v * b.nodes := Nat.le_mul_of_pos_right _ (by omega)
  have hok : RvOk t v b := ⟨⟨by omega, ht⟩, ⟨by omega, hb⟩, by omega⟩
  obtain ⟨r1, r2⟩ := rv_yes hok
  obtain ⟨i1, i2⟩ := it_yes (t := t) ⟨by omega, ht⟩
  obtain ⟨l1, l2, l3, l4, l5⟩ := list_items t.nodes t (Nat.le_refl _) ht
  have hlt : LtOk t.items t.last := ⟨fun x hx => ⟨by have := (l4 x hx).2; omega, (l4 x hx).1⟩, ⟨by omega, l2⟩, by rw [l1]; omega⟩
  obtain ⟨k1, k2⟩ := lt_yes hlt
  rw [r1, r2, i1, i2, k1, k2, l1, e, e2, h2]
  refine ⟨⟨rfl, good_put hb ht, by omega, rfl, by omega⟩, ⟨rfl, rfl, l3⟩, ⟨by omega, by omega⟩, ⟨by omega, by omega⟩⟩

set_option maxHeartbeats 2000000 in
set_option maxRecDepth 100000 in
theorem counted_any (N : Nat) : ∀ (t : Tm) (V : Value) (v : Int) (w : World), t.nodes < N → ArgsAt w V t.args → t.sz ≤ 1048576 → Good t →
    Calls Try.prog 9 #[.agg #[.int .i64 t.kind, .int .i64 t.num, .string t.name, V], .int .i64 v] w fun e w' => e = .returned (.int .i64 (t.occ v : Nat)) ∧ Below w.heap.size w w' := by
  induction N with
  | zero => intro t V v w hN; omega
  | succ N ih =>
    intro t V v w hN hA hZ hG
    obtain ⟨aa, ca, rfl⟩ := hA.slice
    have HI := Lib.hid ih
    have HG := Lib.hid hG
    have HA := Lib.hid hA
    have HS := Lib.hid (sz_eq t)
    have HNE := Lib.hid (nodes_eq t)
    have hla : t.args.length ≤ 1048576 := by have := length_szL t.args; have := HS.out; omega
    have HX := Lib.hid (at_box w #[.int .i64 t.kind, .int .i64 t.num, .string t.name, .slice aa t.args.length ca] 25)
    have HW : Hid (Below w.heap.size w (w.alloc (.cells #[.int .i64 t.kind, .int .i64 t.num, .string t.name, .slice aa t.args.length ca] 25))) := Lib.hid (belowAlloc (Below.refl _ _) _)
    have HON := Lib.hid (occL_nodes v t.args)
    have HNZ := Lib.hid (nodesL_sz t.args)
    obtain ⟨bs, HBS, hbs⟩ : ∃ bs : Nat, Hid (t.occ v = bs + occL v t.args) ∧ ((bs = 1 ∧ (t.kind = 1 ∧ t.num = v)) ∨ (bs = 0 ∧ ¬ (t.kind = 1 ∧ t.num = v))) := by
      by_cases hv : t.kind = 1 ∧ t.num = v
      · exact ⟨1, Lib.hid (by rw [occ_var hv, fit_var HG.out.fit hv.1, occL_nil]), .inl ⟨rfl, hv⟩⟩
      · exact ⟨0, Lib.hid (by rw [occ_no_var hv, Nat.zero_add]), .inr ⟨rfl, hv⟩⟩
    have hb1 : bs ≤ 1 := by rcases hbs with h | h <;> omega
    clear hA ih hG
    go_enter Try.func9, Try.ntmps9
    go_upto_region 2 with (fail)
    generalize hw0 : w.alloc (.cells #[.int .i64 t.kind, .int .i64 t.num, .string t.name, .slice aa t.args.length ca] 25) = w0 at HX HW ⊢
    clear hw0
    have hcs : (bs = 1 ∧ (t.kind == 1) = true ∧ (t.num == v) = true) ∨ (bs = 0 ∧ (t.kind == 1) = true ∧ (t.num == v) = false) ∨ (bs = 0 ∧ (t.kind == 1) = false) := by
      rcases hbs with ⟨h, h1, h2⟩ | ⟨h, h1⟩
      · exact .inl ⟨h, by rw [h1]; rfl, by rw [h2]; exact beq_self_eq_true _⟩
      · by_cases h2 : t.kind = 1
        · exact .inr (.inl ⟨h, by rw [h2]; rfl, by rw [beq_eq_false_iff_ne]; exact fun e => h1 ⟨h2, e⟩⟩)
        · exact .inr (.inr ⟨h, by rw [beq_eq_false_iff_ne]; exact h2⟩)
    clear hbs
    obtain ⟨c0a, c0b, c0c, c0d⟩ := HX.out.cells
    have z0 := HX.out.le
    rcases hcs with ⟨rfl, d1, d2⟩ | ⟨rfl, d1, d2⟩ | ⟨rfl, d1⟩
    all_goals
      go_wp2
      clear c0a c0b c0c c0d z0 HX
      go_loopw [5, 20] (fun nv iv wr => ∃ (bs k : Nat), Hid (t.occ v = bs + occL v t.args) ∧ bs ≤ 1 ∧ k ≤ t.args.length ∧ iv = .int .i64 k ∧ nv = .int .i64 ((bs + occL v (t.args.take k) : Nat)) ∧ Hid (Below w.heap.size w wr)) (fun _ iv _ => t.args.length - (intOf iv).toNat)
      case atStart => exact ⟨_, 0, HBS, by omega, Nat.zero_le _, rfl, by simp [occL_nil], HW⟩
      case round =>
        obtain ⟨bs, k, HBr, hb1, hk, rfl, rfl, HWr⟩ := hrel
        have hle := occ_take_le v t.args k
        have hnn := HNZ.out
        have hss := HS.out
        by_cases hlt : k < t.args.length
        · obtain ⟨x, hx⟩ : ∃ x, t.args[k]? = some x := ⟨_, List.getElem?_eq_getElem hlt⟩
          obtain ⟨g, off, u1, u2, rfl, hg, hn, hc, hax⟩ := HA.out.elem hx
          obtain ⟨c0, c1, c2, c3⟩ := hc wr HWr.out
          have HXT := Lib.hid (occ_take v hx)
          have hle2 := occ_take_le v t.args (k + 1)
          have hxo : x.occ v ≤ nodesL t.args := by have := HXT.out; omega
          have hal : Below wr.heap.size wr (wr.alloc (.cells #[.int .i64 x.kind, .int .i64 x.num, .string x.name, .slice u1 x.args.length u2] 25)) := belowAlloc (Below.refl _ _) _
          have HB1 := Lib.hid (belowOn HWr.out (Nat.le_refl _) hal)
          have HC := Lib.hid (HI.out x _ v (wr.alloc (.cells #[.int .i64 x.kind, .int .i64 x.num, .string x.name, .slice u1 x.args.length u2] 25)) (by have := nodes_at hx; have := HNE.out; omega) (hax.kept HB1.out) (by have := sz_at hx; omega) (HG.out.each hx))
          clear hx hn hc hax hal hg
          generalize hq : x.occ v = q at HC HXT hxo
          clear hq
          generalize occL v (t.args.take k) = p at HXT hle ⊢
          go_wp2_with fail
          refine HC.out.mono ?_
          rintro e w2 ⟨rfl, hb⟩
          have HB2 := Lib.hid (belowOn HB1.out (Nat.le_refl _) hb)
          clear hb HC HB1 c0 c1 c2 c3
          go_wp2
          go_roundw
          case rel => exact ⟨bs, k + 1, HBr, hb1, by omega, by go_num, by rw [HXT.out]; go_num, HB2⟩
          case measure => simp [intOf]; omega
        · obtain rfl : k = t.args.length := by omega
          have HE : Hid (t.occ v = bs + occL v (t.args.take t.args.length)) := Lib.hid (by rw [List.take_length]; exact HBr.out)
          go_wp2
          go_ret
          exact ⟨by rw [HE.out]; rfl, HWr.out⟩
end Go.Proofs.Ytokndpmoamjbfaa

