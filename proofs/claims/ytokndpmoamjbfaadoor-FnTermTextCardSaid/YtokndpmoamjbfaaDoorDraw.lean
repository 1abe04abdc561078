/-
  The drawing of terms in the laws: a term of the right form, its blocks new, the cursor's block alone written.
-/
import Derived.Test.YtokndpmoamjbfaaDoorItems
import Derived.Test.YtokndpmoamjbfaaDoorCursor
namespace Go.Proofs.YtokndpmoamjbfaaDoor
open Go.RowKit
set_option linter.unusedVariables false
set_option linter.unusedSimpArgs false

/-- A cursor over bytes that came in: where it stands may be any place. -/
structure Ready (w0 : World) (p : Nat) (a : Option Addr) (len cap : Nat) (w : World) : Prop where
  bytes : Bytes w0 a len
  most : len ≤ 1048576
  lo : w0.heap.size ≤ p
  hi : p < w.heap.size
  old : Below w0.heap.size w0 w
  cur : Cur w p a len cap
theorem Ready.below {w0 w w' : World} {p : Nat} {a : Option Addr} {len cap : Nat} (h : Ready w0 p a len cap w) (hb : Below w.heap.size w w') : Ready w0 p a len cap w' := by
  obtain ⟨i, x, hi, hh⟩ := h.cur
  exact ⟨h.bytes, h.most, h.lo, Nat.lt_of_lt_of_le h.hi hb.size, h.old.trans (hb.mono h.old.size), i, x, hi, (hb.block p h.hi).trans hh⟩
theorem Ready.drew {w0 w : World} {p : Nat} {a : Option Addr} {len cap : Nat} (h : Ready w0 p a len cap w) : Ready w0 p a len cap w.drew := h.below (Below.refl _ _).drew
theorem Ready.only {w0 w w' : World} {p b : Nat} {a : Option Addr} {len cap : Nat} (h : Ready w0 p a len cap w) (ho : Only (iv b (b + 1)) w w') (hb : w0.heap.size ≤ b) (hne : ¬ b = p) : Ready w0 p a len cap w' := by
  obtain ⟨i, x, hi, hh⟩ := h.cur
  exact ⟨h.bytes, h.most, h.lo, Nat.lt_of_lt_of_le h.hi ho.size, h.old.trans (ho.below (fun k hk => by have := hk.1; omega) h.old.size), i, x, hi, (ho.block p h.hi fun hk => by have h1 := hk.1; have h2 := hk.2; omega).trans hh⟩
theorem Ready.moved {w0 w w' : World} {p : Nat} {a : Option Addr} {len cap : Nat} (h : Ready w0 p a len cap w) (ho : w.grownBy w' (some p)) (hc : Cur w' p a len cap) : Ready w0 p a len cap w' :=
  ⟨h.bytes, h.most, h.lo, Nat.lt_of_lt_of_le h.hi ho.size, h.old.trans (below_of_grown ho h.old.size (fun k hk => by cases hk; exact h.lo)), hc⟩
theorem only_grown {w w' : World} {p : Nat} (h : w.grownBy w' (some p)) : Only (iv p (p + 1)) w w' := Only.of_grown h ⟨Nat.le_refl _, Nat.lt_succ_self _⟩
/-- What is written later in a block that was new is no write. -/
theorem only_new {w w1 w2 : World} {p b : Nat} (h : Only (iv p (p + 1)) w w1) (h2 : Only (iv b (b + 1)) w1 w2) (hb : w.heap.size ≤ b) : Only (iv p (p + 1)) w w2 :=
  ⟨h2.os.trans h.os, h2.tape.trans h.tape, h2.output.trans h.output, Nat.le_trans h.size h2.size, fun k hk hn => (h2.block k (Nat.lt_of_lt_of_le hk h.size) fun x => by have := x.1; omega).trans (h.block k hk hn)⟩
theorem only_below {S : Nat → Prop} {w w1 w2 : World} (h : Only S w w1) (hb : Below w1.heap.size w1 w2) : Only S w w2 := h.trans (Only.of_below hb)

/-- A number drawn. -/
def DrawN (w0 : World) (p : Nat) (a : Option Addr) (len cap : Nat) (lo hi : Int) (w : World) (e : Ending) (w' : World) : Prop :=
  ∃ r : Int, e = .returned (.int .i64 r) ∧ lo ≤ r ∧ r ≤ hi ∧ Ready w0 p a len cap w' ∧ Only (iv p (p + 1)) w w'
/-- A term drawn. -/
def DrawT (w0 : World) (p : Nat) (a : Option Addr) (len cap : Nat) (n : Int) (w : World) (e : Ending) (w' : World) : Prop :=
  ∃ (t : Tm) (x : Option Addr) (c : Nat), e = .returned (.agg #[.int .i64 t.kind, .int .i64 t.num, .string t.name, .slice x t.args.length c]) ∧ ArgsS w' (iv w.heap.size w'.heap.size) (.slice x t.args.length c) t.args ∧ Good t ∧ (t.nodes : Int) ≤ n ∧ Ready w0 p a len cap w' ∧ Only (iv p (p + 1)) w w'

set_option maxHeartbeats 400000 in
theorem below_any (n : Int) (w0 : World) (p : Nat) (a : Option Addr) (len cap : Nat) (w : World) (h : Ready w0 p a len cap w) (h0 : 0 < n) (h1 : n ≤ 256) :
    Calls Tryd.prog 47 #[.pointer (some ⟨p, 0, none⟩), .int .i64 n] w (DrawN w0 p a len cap 0 (n - 1) w) := by
  have HC := Lib.hid (byte_any p a len cap w h.cur (h.bytes.kept h.old) (h.bytes.apart h.lo) h.most)
  have HR := Lib.hid h
  clear h
  have hn : ¬ n = 0 := by omega
  go_enter Tryd.func47, Tryd.ntmps47
  go_wp2_with fail
  refine HC.out.mono ?_
  rintro e w1 ⟨r, rfl, hr0, hr1, hc, hg⟩
  have HU := Lib.hid (And.intro hc hg)
  clear hc hg HC
  have HM : Hid (0 ≤ r % n ∧ r % n ≤ n - 1) := Lib.hid ⟨Int.emod_nonneg _ (by omega), by have := Int.emod_lt_of_pos r h0; omega⟩
  go_wp2
  go_ret
  exact ⟨_, rfl, by first | exact HM.out.1 | (rw [Int.tmod_eq_emod_of_nonneg hr0]; exact HM.out.1), by first | exact HM.out.2 | (rw [Int.tmod_eq_emod_of_nonneg hr0]; exact HM.out.2), HR.out.moved HU.out.2 HU.out.1, only_grown HU.out.2⟩

set_option maxHeartbeats 400000 in
theorem num_any (n : Int) (w : World) : Calls Tryd.prog 67 #[.int .i64 n] w fun e w' => e = .returned (.agg #[.int .i64 3, .int .i64 n, .string ⟨#[]⟩, .slice none 0 0]) ∧ Below w.heap.size w w' := by
  go_enter Tryd.func67, Tryd.ntmps67
  go_wp2
  exact bodyPost_ret (v := .agg #[.int .i64 3, .int .i64 n, .string ⟨#[]⟩, .slice none 0 0]) (by simp [results, Tryd.results67, go_sem]) rfl ⟨rfl, (Below.refl _ _).alloc (Nat.le_refl _) _⟩
set_option maxHeartbeats 400000 in
theorem var_any (n : Int) (w : World) : Calls Tryd.prog 49 #[.int .i64 n] w fun e w' => e = .returned (.agg #[.int .i64 1, .int .i64 n, .string ⟨#[]⟩, .slice none 0 0]) ∧ Below w.heap.size w w' := by
  go_enter Tryd.func49, Tryd.ntmps49
  go_wp2
  exact bodyPost_ret (v := .agg #[.int .i64 1, .int .i64 n, .string ⟨#[]⟩, .slice none 0 0]) (by simp [results, Tryd.results49, go_sem]) rfl ⟨rfl, (Below.refl _ _).alloc (Nat.le_refl _) _⟩
set_option maxHeartbeats 400000 in
theorem sym_any (s : ByteArray) (w : World) : Calls Tryd.prog 68 #[.string s] w fun e w' => e = .returned (.agg #[.int .i64 2, .int .i64 0, .string s, .slice none 0 0]) ∧ Below w.heap.size w w' := by
  go_enter Tryd.func68, Tryd.ntmps68
  go_wp2
  exact bodyPost_ret (v := .agg #[.int .i64 2, .int .i64 0, .string s, .slice none 0 0]) (by simp [results, Tryd.results68, go_sem]) rfl ⟨rfl, (Below.refl _ _).alloc (Nat.le_refl _) _⟩

/-- The end of a function that answers an atom by its result's variable. -/
theorem drawT_end {P : Program} {fn : Func} {t : Tm} {w0 w W : World} {a : Act} {p b : Nat} {q : Tmp} {ad : Option Addr} {len cap : Nat} {n : Int} {x0 x1 x2 x3 : Value} {fs : Array Field} {u : Option Addr} {c : Nat} {k i : Int} {s : ByteArray} {m : Nat} (h1 : t.kind = k) (h2 : t.num = i) (h3 : t.name = s) (h4 : t.args.length = m)
    (h : fn.results = #[.cell q 26]) (hp : a.tmps.getD q undef = .pointer (some ⟨b, 0, none⟩)) (hd : a.defers = []) (hu : P.underlying 26 = some (.struct fs)) (hi : (P.info? 26).map (·.size) = some 4)
    (hb : W.heap[b]? = some (Obj.cells #[x0, x1, x2, x3] 26)) (hlo : w.heap.size ≤ b) (hne : ¬ b = p) (hw : w0.heap.size ≤ w.heap.size) (hr : Ready w0 p ad len cap W) (ho : Only (iv p (p + 1)) w W)
    (hA : ArgsS W (fun j => (w.heap.size ≤ j ∧ j < W.heap.size) ∧ ¬ j = b) (.slice u m c) t.args) (hg : Good t) (hn : (t.nodes : Int) ≤ n) :
    bodyPost P fn (DrawT w0 p ad len cap n w) .ret a ((((W.setCell ⟨b, 0, none⟩ (.int .i64 k)).setCell ⟨b, 1, none⟩ (.int .i64 i)).setCell ⟨b, 2, none⟩ (.string s)).setCell ⟨b, 3, none⟩ (.slice u m c)) := by
  subst h1
  subst h2
  subst h3
  subst h4
  refine bodyPost_four h hp hd hu rfl hi hb fun w' hw' => ?_
  have hw2 : Only (iv b (b + 1)) W w' := hw'.sub fun k hk => by subst hk; exact ⟨Nat.le_refl _, Nat.lt_succ_self _⟩
  have hs := hw'.size
  refine ⟨t, u, c, rfl, (hA.frame hw'.size fun k hk hks => hw'.block k hks hk.2).sub fun k hk => ⟨hk.1.1, by have := hk.1.2; omega⟩, hg, hn, hr.only hw2 (by omega) hne, only_new ho hw2 hlo⟩
theorem atom_args {w : World} {S : Nat → Prop} {l : List Tm} (h : l = []) : ArgsS w S (.slice none 0 0) l := by subst h; exact .nil _ _

theorem name_letter (x : UInt8) (h : 97 ≤ x.toNat ∧ x.toNat ≤ 122) : isName ⟨#[x]⟩ = true := by
  unfold isName
  rw [decide_eq_true_eq]
  refine ⟨⟨Nat.le_refl _, (by decide : (1 : Nat) ≤ 12)⟩, fun j hj => ?_⟩
  have h0 : j = 0 := by have : j < 1 := hj; omega
  subst h0
  show okByte (x.toNat : Int) 0
  unfold okByte
  omega
end Go.Proofs.YtokndpmoamjbfaaDoor

