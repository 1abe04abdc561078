/-
  The drawing of terms in the laws: a term of the right form, its blocks new, the cursor's block alone written.
  Terms drawn: l02Atom, l02Draw, MakeTerm, MakeSize.
  Terms drawn: l02Draw.
  Terms drawn by the laws: MakeTerm, MakeTerms, MakeSize.
-/
import Derived.Test.YtnmdnajbafpfiaaItems
import Derived.Test.YtnmdnajbafpfiaaCursor
import Derived.Deep.RegionHeld3
import Derived.Deep.RegionWith
import Derived.IntWalk
namespace Go.Proofs.Ytnmdnajbafpfiaa
open Go.RowKit
set_option linter.unusedVariables false
set_option linter.unusedSimpArgs false

/-- A cursor over bytes that came in: where it stands may be any place. -/
structure Ready (w0 : World) (p : Nat) (a : Option Addr) (len cap : Nat) (w : World) : Prop where
  bytes : Bytes w0 a len
  most : len ≤ 1048576
  lo : w0.heap.size ≤ p
  hi : p < w.heap.size
  old : Below w0.heap.size w0 w
  cur : Cur w p a len cap
theorem Ready.below {w0 w w' : World} {p : Nat} {a : Option Addr} {len cap : Nat} (h : Ready w0 p a len cap w) (hb : Below w.heap.size w w') : Ready w0 p a len cap w' := by
  obtain ⟨i, x, hi, hh⟩ := h.cur
  exact ⟨h.bytes, h.most, h.lo, Nat.lt_of_lt_of_le h.hi hb.size, h.old.trans (hb.mono h.old.size), i, x, hi, (hb.block p h.hi).trans hh⟩
theorem Ready.drew {w0 w : World} {p : Nat} {a : Option Addr} {len cap : Nat} (h : Ready w0 p a len cap w) : Ready w0 p a len cap w.drew := h.below (Below.refl _ _).drew
theorem Ready.only {w0 w w' : World} {p b : Nat} {a : Option Addr} {len cap : Nat} (h : Ready w0 p a len cap w) (ho : Only (iv b (b + 1)) w w') (hb : w0.heap.size ≤ b) (hne : ¬ b = p) : Ready w0 p a len cap w' := by
  obtain ⟨i, x, hi, hh⟩ := h.cur
  exact ⟨h.bytes, h.most, h.lo, Nat.lt_of_lt_of_le h.hi ho.size, h.old.trans (ho.below (fun k hk => by have := hk.1; omega) h.old.size), i, x, hi, (ho.block p h.hi fun hk => by have h1 := hk.1; have h2 := hk.2; omega).trans hh⟩
theorem Ready.moved {w0 w w' : World} {p : Nat} {a : Option Addr} {len cap : Nat} (h : Ready w0 p a len cap w) (ho : w.grownBy w' (some p)) (hc : Cur w' p a len cap) : Ready w0 p a len cap w' :=
  ⟨h.bytes, h.most, h.lo, Nat.lt_of_lt_of_le h.hi ho.size, h.old.trans (below_of_grown ho h.old.size (fun k hk => by cases hk; exact h.lo)), hc⟩
theorem only_grown {w w' : World} {p : Nat} (h : w.grownBy w' (some p)) : Only (iv p (p + 1)) w w' := Only.of_grown h ⟨Nat.le_refl _, Nat.lt_succ_self _⟩
/-- What is written later in a block that was new is no write. -/
theorem only_new {w w1 w2 : World} {p b : Nat} (h : Only (iv p (p + 1)) w w1) (h2 : Only (iv b (b + 1)) w1 w2) (hb : w.heap.size ≤ b) : Only (iv p (p + 1)) w w2 :=
  ⟨h2.os.trans h.os, h2.tape.trans h.tape, h2.output.trans h.output, Nat.le_trans h.size h2.size, fun k hk hn => (h2.block k (Nat.lt_of_lt_of_le hk h.size) fun x => by have := x.1; omega).trans (h.block k hk hn)⟩
theorem only_below {S : Nat → Prop} {w w1 w2 : World} (h : Only S w w1) (hb : Below w1.heap.size w1 w2) : Only S w w2 := h.trans (Only.of_below hb)

/-- A number drawn. -/
def DrawN (w0 : World) (p : Nat) (a : Option Addr) (len cap : Nat) (lo hi : Int) (w : World) (e : Ending) (w' : World) : Prop :=
  ∃ r : Int, e = .returned (.int .i64 r) ∧ lo ≤ r ∧ r ≤ hi ∧ Ready w0 p a len cap w' ∧ Only (iv p (p + 1)) w w'
/-- What a drawn term is: closed under what l02Draw makes, its variables below v. -/
structure Closed (v : Int) (G : Tm → Prop) : Prop where
  nil : G (.mk 0 0 ⟨#[]⟩ [])
  sym : ∀ s, isName s = true → G (.mk 2 0 s [])
  int : ∀ r : Int, 0 ≤ r → r ≤ 100 → G (.mk 3 r ⟨#[]⟩ [])
  var : ∀ i : Int, 0 ≤ i → i < v → G (.mk 1 i ⟨#[]⟩ [])
  pair : ∀ x y, G x → G y → G (.mk 4 0 ⟨#[]⟩ [x, y])
theorem closed_good {v : Int} (h : v ≤ 256) : Closed v Good := ⟨.nil, .sym, fun r _ _ => .int r (by omega) (by omega), fun i _ _ => .var i (by omega) (by omega), .pair⟩
/-- A term drawn. -/
def DrawT (w0 : World) (p : Nat) (a : Option Addr) (len cap : Nat) (G : Tm → Prop) (n : Int) (w : World) (e : Ending) (w' : World) : Prop :=
  ∃ (t : Tm) (x : Option Addr) (c : Nat), e = .returned (.agg #[.int .i64 t.kind, .int .i64 t.num, .string t.name, .slice x t.args.length c]) ∧ ArgsS w' (iv w.heap.size w'.heap.size) (.slice x t.args.length c) t.args ∧ G t ∧ (t.nodes : Int) ≤ n ∧ Ready w0 p a len cap w' ∧ Only (iv p (p + 1)) w w'

set_option maxHeartbeats 400000 in
theorem below_any (n : Int) (w0 : World) (p : Nat) (a : Option Addr) (len cap : Nat) (w : World) (h : Ready w0 p a len cap w) (h0 : 0 < n) (h1 : n ≤ 256) :
    Calls Try.prog 44 #[.pointer (some ⟨p, 0, none⟩), .int .i64 n] w (DrawN w0 p a len cap 0 (n - 1) w) := by
  have HC := Lib.hid (byte_any p a len cap w h.cur (h.bytes.kept h.old) (h.bytes.apart h.lo) h.most)
  have HR := Lib.hid h
  clear h
  have hn : ¬ n = 0 := by omega
  go_enter Try.func44, Try.ntmps44
  go_wp2_with fail
  refine HC.out.mono ?_
  rintro e w1 ⟨r, rfl, hr0, hr1, hc, hg⟩
  have HU := Lib.hid (And.intro hc hg)
  clear hc hg HC
  have HM : Hid (0 ≤ r % n ∧ r % n ≤ n - 1) := Lib.hid ⟨Int.emod_nonneg _ (by omega), by have := Int.emod_lt_of_pos r h0; omega⟩
  go_wp2
  go_ret
  exact ⟨_, rfl, by first | exact HM.out.1 | (rw [Int.tmod_eq_emod_of_nonneg hr0]; exact HM.out.1), by first | exact HM.out.2 | (rw [Int.tmod_eq_emod_of_nonneg hr0]; exact HM.out.2), HR.out.moved HU.out.2 HU.out.1, only_grown HU.out.2⟩

/-- The end of a function that answers an atom by its result's variable. -/
theorem drawT_end {P : Program} {fn : Func} {G : Tm → Prop} {t : Tm} {w0 w W : World} {a : Act} {p b : Nat} {q : Tmp} {ad : Option Addr} {len cap : Nat} {n : Int} {x0 x1 x2 x3 : Value} {fs : Array Field} {u : Option Addr} {c : Nat} {k i : Int} {s : ByteArray} {m : Nat} (h1 : t.kind = k) (h2 : t.num = i) (h3 : t.name = s) (h4 : t.args.length = m)
    (h : fn.results = #[.cell q 28]) (hp : a.tmps.getD q undef = .pointer (some ⟨b, 0, none⟩)) (hd : a.defers = []) (hu : P.underlying 28 = some (.struct fs)) (hi : (P.info? 28).map (·.size) = some 4)
    (hb : W.heap[b]? = some (Obj.cells #[x0, x1, x2, x3] 28)) (hlo : w.heap.size ≤ b) (hne : ¬ b = p) (hw : w0.heap.size ≤ w.heap.size) (hr : Ready w0 p ad len cap W) (ho : Only (iv p (p + 1)) w W)
    (hA : ArgsS W (fun j => (w.heap.size ≤ j ∧ j < W.heap.size) ∧ ¬ j = b) (.slice u m c) t.args) (hg : G t) (hn : (t.nodes : Int) ≤ n) :
    bodyPost P fn (DrawT w0 p ad len cap G n w) .ret a ((((W.setCell ⟨b, 0, none⟩ (.int .i64 k)).setCell ⟨b, 1, none⟩ (.int .i64 i)).setCell ⟨b, 2, none⟩ (.string s)).setCell ⟨b, 3, none⟩ (.slice u m c)) := by
  subst h1
  subst h2
  subst h3
  subst h4
  refine bodyPost_four h hp hd hu rfl hi hb fun w' hw' => ?_
  have hw2 : Only (iv b (b + 1)) W w' := hw'.sub fun k hk => by subst hk; exact ⟨Nat.le_refl _, Nat.lt_succ_self _⟩
  have hs := hw'.size
  refine ⟨t, u, c, rfl, (hA.frame hw'.size fun k hk hks => hw'.block k hks hk.2).sub fun k hk => ⟨hk.1.1, by have := hk.1.2; omega⟩, hg, hn, hr.only hw2 (by omega) hne, only_new ho hw2 hlo⟩
theorem atom_args {w : World} {S : Nat → Prop} {l : List Tm} (h : l = []) : ArgsS w S (.slice none 0 0) l := by subst h; exact .nil _ _

theorem name_letter (x : UInt8) (h : 97 ≤ x.toNat ∧ x.toNat ≤ 122) : isName ⟨#[x]⟩ = true := by
  unfold isName
  rw [decide_eq_true_eq]
  refine ⟨⟨Nat.le_refl _, (by decide : (1 : Nat) ≤ 12)⟩, fun j hj => ?_⟩
  have h0 : j = 0 := by have : j < 1 := hj; omega
  subst h0
  show okByte (x.toNat : Int) 0
  unfold okByte
  omega
end Go.Proofs.Ytnmdnajbafpfiaa

namespace Go.Proofs.Ytnmdnajbafpfiaa
open Go.RowKit
set_option linter.unusedVariables false
set_option linter.unusedSimpArgs false

theorem nodes_atom {t : Tm} (h : t.args = []) : (t.nodes : Int) ≤ 1 := by rw [nodes_eq, h, nodesL]; decide
set_option maxHeartbeats 1000000 in
set_option maxRecDepth 100000 in
theorem atom_any {v : Int} {G : Tm → Prop} (hG : Closed v G) (w0 : World) (p : Nat) (a : Option Addr) (len cap : Nat) (w : World) (h : Ready w0 p a len cap w) :
    Calls Try.prog 68 #[.pointer (some ⟨p, 0, none⟩)] w (DrawT w0 p a len cap G 1 w) := by
  have hn1 : w.heap.size + 1 ≤ (w.alloc (.cells #[.int .i64 0, .int .i64 0, .string ⟨#[]⟩, .slice none 0 0] 28)).heap.size := by simp
  have HR := Lib.hid (at_box w #[.int .i64 0, .int .i64 0, .string ⟨#[]⟩, .slice none 0 0] 28)
  have HG := Lib.hid (h.below (belowAlloc (Below.refl _ _) (.cells #[.int .i64 0, .int .i64 0, .string ⟨#[]⟩, .slice none 0 0] 28)))
  have HO : Hid (Only (iv p (p + 1)) w (w.alloc (.cells #[.int .i64 0, .int .i64 0, .string ⟨#[]⟩, .slice none 0 0] 28))) := Lib.hid (Only.of_below (belowAlloc (Below.refl _ _) _))
  have hp := h.hi
  have hlo := h.lo
  clear h
  go_enter Try.func68, Try.ntmps68
  go_upto_region 1 with (fail)
  generalize hw : w.alloc (.cells #[.int .i64 0, .int .i64 0, .string ⟨#[]⟩, .slice none 0 0] 28) = w1 at HR HG HO hn1 ⊢
  clear hw
  go_wp2_with fail
  refine (below_any 7 w0 p a len cap w1 HG.out (by omega) (by omega)).mono ?_
  rintro e w2 ⟨r, rfl, r0, r1, hg, ho⟩
  have HR2 := Lib.hid (HR.out.only ho (by omega))
  have HG2 := Lib.hid hg
  have HO2 := Lib.hid (HO.out.trans ho)
  have hn2 := ho.size
  clear HR HG HO hg ho
  by_cases h2 : r < 2
  · have hd : decide (r < 2) = true := decide_eq_true h2
    have HN := Lib.hid (num_any r w2)
    go_wp2_with fail
    refine HN.out.mono ?_
    rintro e w3 ⟨rfl, hb⟩
    have HRE := Lib.hid (HR2.out.read hb).now
    obtain ⟨q0, q1, q2, q3, qf⟩ := box_cells (HR2.out.read hb).now
    have hn3 := hb.size
    have HG3 := Lib.hid (HG2.out.below hb)
    have HO3 := Lib.hid (only_below HO2.out hb)
    clear hb HN
    go_wp2
    exact drawT_end (t := .mk 3 r ⟨#[]⟩ []) (b := w.heap.size) rfl rfl rfl rfl rfl rfl rfl Try.underlying28 (by kernel_rfl) HRE.out (Nat.le_refl _) (by omega) (by omega) HG3.out HO3.out (atom_args rfl) (hG.int r (by omega) (by omega)) (nodes_atom rfl)
  · have hd : decide (r < 2) = false := decide_eq_false h2
    by_cases h5 : r < 5
    · have hd5 : decide (r < 5) = true := decide_eq_true h5
      obtain ⟨x, hx, hr⟩ : ∃ x : UInt8, (97 ≤ x.toNat ∧ x.toNat ≤ 122) ∧ ((r = 2 ∧ x = 97) ∨ (r = 3 ∧ x = 98) ∨ (r = 4 ∧ x = 99)) := by
        have h3 : r = 2 ∨ r = 3 ∨ r = 4 := by omega
        rcases h3 with rfl | rfl | rfl
        · exact ⟨97, by decide, .inl ⟨rfl, rfl⟩⟩
        · exact ⟨98, by decide, .inr (.inl ⟨rfl, rfl⟩)⟩
        · exact ⟨99, by decide, .inr (.inr ⟨rfl, rfl⟩)⟩
      have HB : Hid (Below w2.heap.size w2 (w2.alloc (.cells #[.string ⟨#[97]⟩, .string ⟨#[98]⟩, .string ⟨#[99]⟩] 9))) := Lib.hid (belowAlloc (Below.refl _ _) _)
      have HN := Lib.hid (sym_any ⟨#[x]⟩ (w2.alloc (.cells #[.string ⟨#[97]⟩, .string ⟨#[98]⟩, .string ⟨#[99]⟩] 9)))
      have HX := Lib.hid (name_letter x hx)
      clear hx hd5 hd
      rcases hr with ⟨rfl, rfl⟩ | ⟨rfl, rfl⟩ | ⟨rfl, rfl⟩
      all_goals
        go_wp2_with fail
        refine HN.out.mono ?_
        rintro e w3 ⟨rfl, hb0⟩
        have hb := HB.out.trans (hb0.mono (by simp))
        have HRE := Lib.hid (HR2.out.read hb).now
        obtain ⟨q0, q1, q2, q3, qf⟩ := box_cells (HR2.out.read hb).now
        have hn3 := hb.size
        have HG3 := Lib.hid (HG2.out.below hb)
        have HO3 := Lib.hid (only_below HO2.out hb)
        clear hb hb0 HN HB
        go_wp2
        exact drawT_end (t := .mk 2 0 _ []) (b := w.heap.size) rfl rfl rfl rfl rfl rfl rfl Try.underlying28 (by kernel_rfl) HRE.out (Nat.le_refl _) (by omega) (by omega) HG3.out HO3.out (atom_args rfl) (hG.sym _ HX.out) (nodes_atom rfl)
    · have hd5 : decide (r < 5) = false := decide_eq_false h5
      have HRE := Lib.hid HR2.out.now
      obtain ⟨q0, q1, q2, q3, qf⟩ := box_cells HR2.out.now
      go_wp2
      exact drawT_end (t := .mk 0 0 ⟨#[]⟩ []) (b := w.heap.size) rfl rfl rfl rfl rfl rfl rfl Try.underlying28 (by kernel_rfl) HRE.out (Nat.le_refl _) (by omega) (by omega) HG2.out HO2.out (atom_args rfl) hG.nil (nodes_atom rfl)
end Go.Proofs.Ytnmdnajbafpfiaa

namespace Go.Proofs.Ytnmdnajbafpfiaa
open Go.RowKit
set_option linter.unusedVariables false
set_option linter.unusedSimpArgs false

theorem half_facts {s : Int} (h : 2 < s) : 1 ≤ s / 2 ∧ 2 * (s / 2) ≤ s ∧ s.tdiv 2 = s / 2 := by
  refine ⟨by omega, by omega, Int.tdiv_eq_ediv_of_nonneg (by omega)⟩
theorem even_facts {r : Int} (h : 0 ≤ r) : r.tmod 2 = r % 2 := Int.tmod_eq_emod_of_nonneg h
/-- A bound on the nodes of what is drawn with a size, which is halved at each pair. -/
def HalfB (B : Int → Int) : Prop := (∀ s, 1 ≤ s → 1 ≤ B s) ∧ ∀ s, 2 < s → 1 + 2 * B (s / 2) ≤ B s
theorem half_plain : HalfB fun s => 2 * s - 1 := ⟨fun s h => by show 1 ≤ 2 * s - 1; omega, fun s h => by show 1 + 2 * (2 * (s / 2) - 1) ≤ 2 * s - 1; omega⟩
/-- The bound itself, for small sizes. -/
def smallB (s : Int) : Int := if s ≤ 2 then 1 else if s ≤ 5 then 3 else if s ≤ 11 then 7 else 2 * s - 1
theorem half_small : HalfB smallB := ⟨fun s h => by unfold smallB; split <;> (try split) <;> (try split) <;> omega, fun s h => by unfold smallB; split <;> (try split) <;> (try split) <;> (try split) <;> (try split) <;> (try split) <;> omega⟩
theorem pair_nodes {B : Int → Int} (hB : HalfB B) (x y : Tm) {s : Int} (hx : (x.nodes : Int) ≤ B (s / 2)) (hy : (y.nodes : Int) ≤ B (s / 2)) (hs : 2 < s) : ((Tm.mk 4 0 ⟨#[]⟩ [x, y]).nodes : Int) ≤ B s := by
  have := hB.2 s hs
  rw [Tm.nodes, nodesL, nodesL, nodesL]; omega

set_option maxHeartbeats 4000000 in
set_option maxRecDepth 100000 in
theorem drawTermB_any {G : Tm → Prop} {B : Int → Int} (hB : HalfB B) (w0 : World) (p : Nat) (a : Option Addr) (len cap : Nat) (v : Int) (hGc : Closed v G) (hv0 : 0 ≤ v) (hv1 : v ≤ 256) (N : Nat) : ∀ (s : Int) (w : World), s < N → 1 ≤ s → s ≤ 1000 → Ready w0 p a len cap w →
    Calls Try.prog 39 #[.pointer (some ⟨p, 0, none⟩), .int .i64 s, .int .i64 v] w (DrawT w0 p a len cap G (B s) w) := by
  induction N with
  | zero => intro s w h1 h2; omega
  | succ N ih =>
    intro s w hN hs1 hs2 h
    have HI := Lib.hid ih
    have HCL := Lib.hid hGc
    have HBB := Lib.hid hB
    have hbs := hB.1 s hs1
    have hn1 : w.heap.size + 1 ≤ (w.alloc (.cells #[.int .i64 0, .int .i64 0, .string ⟨#[]⟩, .slice none 0 0] 28)).heap.size := by simp
    have HR := Lib.hid (at_box w #[.int .i64 0, .int .i64 0, .string ⟨#[]⟩, .slice none 0 0] 28)
    have HG := Lib.hid (h.below (belowAlloc (Below.refl _ _) (.cells #[.int .i64 0, .int .i64 0, .string ⟨#[]⟩, .slice none 0 0] 28)))
    have HO : Hid (Only (iv p (p + 1)) w (w.alloc (.cells #[.int .i64 0, .int .i64 0, .string ⟨#[]⟩, .slice none 0 0] 28))) := Lib.hid (Only.of_below (belowAlloc (Below.refl _ _) _))
    have hp := h.hi
    have hlo := h.lo
    clear h ih
    go_enter Try.func39, Try.ntmps39
    go_upto_region 1 with (fail)
    generalize hw : w.alloc (.cells #[.int .i64 0, .int .i64 0, .string ⟨#[]⟩, .slice none 0 0] 28) = w1 at HR HG HO hn1 ⊢
    clear hw
    go_wp2_with fail
    refine (below_any 8 w0 p a len cap w1 HG.out (by omega) (by omega)).mono ?_
    rintro e w2 ⟨r, rfl, r0, r1, hg, ho⟩
    have HR2 := Lib.hid (HR.out.only ho (by omega))
    have HG2 := Lib.hid hg
    have HO2 := Lib.hid (HO.out.trans ho)
    have hn2 := ho.size
    clear HR HG HO hg ho
    by_cases hbig : 2 < s ∧ 3 ≤ r
    · obtain ⟨hb1, hb2⟩ := hbig
      have hd1 : decide (2 < s) = true := decide_eq_true hb1
      have hd2 : decide (3 ≤ r) = true := decide_eq_true hb2
      obtain ⟨hq0, hq1, hq2⟩ := half_facts hb1
      have HQ := Lib.hid hq2
      have HC : Hid (∀ (q : Int) W, (q = s / 2 ∨ q = s.tdiv 2) → Ready w0 p a len cap W → Calls Try.prog 39 #[.pointer (some ⟨p, 0, none⟩), .int .i64 q, .int .i64 v] W (DrawT w0 p a len cap G (B (s / 2)) W)) := Lib.hid fun q W hq hW => by
        obtain rfl : q = s / 2 := by
          rcases hq with h | h
          · exact h
          · rw [h, HQ.out]
        exact HI.out (s / 2) W (by omega) (by omega) (by omega) hW
      clear HI hq2
      go_wp2_with fail
      refine Calls.mono (HC.out _ w2 (by first | exact .inl rfl | exact .inr rfl) HG2.out) ?_
      rintro e w3 ⟨x, xa, xc, rfl, hx, hgx, hnx, hg, ho⟩
      have HR3 := Lib.hid (HR2.out.only ho (by omega))
      have HG3 := Lib.hid hg
      have HO3 := Lib.hid (HO2.out.trans ho)
      have HXG := Lib.hid hgx
      have HXA := Lib.hid hx
      have HXN := Lib.hid hnx
      have hn3 := ho.size
      clear HR2 HG2 HO2 hg ho hgx hx hnx
      go_upto_region 4 with (fail)
      have HB5 := Lib.hid (heap_alloc_new w3 (.cells #[.int .i64 x.kind, .int .i64 x.num, .string x.name, .slice xa x.args.length xc] 28))
      have HR5 := Lib.hid (HR3.out.read (belowAlloc (Below.refl _ _) (.cells #[.int .i64 x.kind, .int .i64 x.num, .string x.name, .slice xa x.args.length xc] 28)))
      have HG5 := Lib.hid (HG3.out.below (belowAlloc (Below.refl _ _) (.cells #[.int .i64 x.kind, .int .i64 x.num, .string x.name, .slice xa x.args.length xc] 28)))
      have HO5 := Lib.hid (only_below HO3.out (belowAlloc (Below.refl _ _) (.cells #[.int .i64 x.kind, .int .i64 x.num, .string x.name, .slice xa x.args.length xc] 28)))
      have HX5 : Hid (ArgsS (w3.alloc (.cells #[.int .i64 x.kind, .int .i64 x.num, .string x.name, .slice xa x.args.length xc] 28)) (iv (w.heap.size + 1) w3.heap.size) (.slice xa x.args.length xc) x.args) := Lib.hid ((HXA.out.kept (belowAlloc (Below.refl _ _) (.cells #[.int .i64 x.kind, .int .i64 x.num, .string x.name, .slice xa x.args.length xc] 28))).sub fun k hk => ⟨by have := hk.1; omega, hk.2⟩)
      have hn5 : (w3.alloc (.cells #[.int .i64 x.kind, .int .i64 x.num, .string x.name, .slice xa x.args.length xc] 28)).heap.size = w3.heap.size + 1 := by simp
      clear HR3 HG3 HO3 HXA
      generalize hw5 : w3.alloc (.cells #[.int .i64 x.kind, .int .i64 x.num, .string x.name, .slice xa x.args.length xc] 28) = w5 at HB5 HR5 HG5 HO5 HX5 hn5 ⊢
      clear hw5
      obtain ⟨b0, b1, b2, b3, bf⟩ := box_cells HB5.out
      have hself : Below w5.heap.size w5 w5 := Below.refl _ _
      have hself1 : Below w5.heap.size w5 w5.drew := hself.drew
      have HC2 : Hid (∀ (q : Int) W, (q = s / 2 ∨ q = s.tdiv 2) → Below w5.heap.size w5 W → Calls Try.prog 39 #[.pointer (some ⟨p, 0, none⟩), .int .i64 q, .int .i64 v] W fun e w6 =>
          ∃ (y : Tm) (ya : Option Addr) (yc : Nat), e = .returned (.agg #[.int .i64 y.kind, .int .i64 y.num, .string y.name, .slice ya y.args.length yc]) ∧ (w6.cell? ⟨w3.heap.size, 0, none⟩ = some (.int .i64 x.kind) ∧ w6.cell? ⟨w3.heap.size, 1, none⟩ = some (.int .i64 x.num) ∧ w6.cell? ⟨w3.heap.size, 2, none⟩ = some (.string x.name) ∧ w6.cell? ⟨w3.heap.size, 3, none⟩ = some (.slice xa x.args.length xc)) ∧
            Hid (G y ∧ (y.nodes : Int) ≤ B (s / 2) ∧ ∀ w7, Below w6.heap.size w6 w7 → Ready w0 p a len cap w7 ∧ Only (iv p (p + 1)) w w7 ∧ w7.heap[w.heap.size]? = some (Obj.cells #[.int .i64 0, .int .i64 0, .string ⟨#[]⟩, .slice none 0 0] 28) ∧ w.heap.size + 1 ≤ w6.heap.size ∧
              ArgsS w7 (iv (w.heap.size + 1) w6.heap.size) (.slice xa x.args.length xc) x.args ∧ ArgsS w7 (iv (w.heap.size + 1) w6.heap.size) (.slice ya y.args.length yc) y.args)) := Lib.hid fun q W hq hW => by
        refine (HC.out q W hq (HG5.out.below hW)).mono ?_
        rintro e w6 ⟨y, ya, yc, rfl, hy, hgy, hny, hg6, ho6⟩
        have hs5 := hW.size
        have hs6 := ho6.size
        have hh : w6.heap[w3.heap.size]? = _ := (ho6.block w3.heap.size (by omega) (fun hk => by have h1 := hk.1; have h2 := hk.2; omega)).trans ((hW.block w3.heap.size (by omega)).trans HB5.out)
        obtain ⟨y0, y1, y2, y3, _⟩ := box_cells hh
        refine ⟨y, ya, yc, rfl, ⟨y0, y1, y2, y3⟩, Lib.hid ⟨hgy, hny, fun w7 h7 => ⟨hg6.below h7, only_below ((only_below HO5.out hW).trans ho6) h7, (((HR5.out.read hW).only ho6 (by omega)).read h7).now, by omega, ?_, ?_⟩⟩⟩
        · exact ((((HX5.out.kept hW).frame ho6.size (fun k hk hks => ho6.block k hks (fun hh => by have q1 := hh.1; have q2 := hh.2; have q3 := hk.1; omega)))).kept h7).sub fun k hk => ⟨hk.1, by have := hk.2; omega⟩
        · exact (hy.kept h7).sub fun k hk => ⟨by have := hk.1; omega, hk.2⟩
      clear HX5 HR5 HO5 HB5 HC
      have ht : s.tdiv 2 = s / 2 := HQ.out
      have ht1 : IntKind.i64.wrap (s / 2) = s / 2 := IntWalk.i64_in _ (by omega)
      go_region_with (first
        | (go_at_call 39; (with_reducible refine Calls.mono (HC2.out _ _ ?_ ?_) ?_); (first | exact .inl rfl | exact .inr rfl); (first | exact hself | exact hself1 | exact hself1.drew); rintro e w6 ⟨y, ya, yc, rfl, ⟨k0, k1, k2, k3⟩, HY⟩)
        | (go_at_call 66; (with_reducible refine Calls.mono (specPair_any _ _ _ _ _ _ _ _ _ _ _ _ _) ?_); rintro e w7 ⟨g, rfl, hg1, hg2, hgh, hb7⟩; have HZ := Lib.hid (HY.out.2.2 w7 (by first | exact hb7 | exact ((Below.refl _ _).drew).trans hb7)); have hw67 : w6.heap.size ≤ g := hg1; have HP := Lib.hid (And.intro hg2 hgh); clear hg1 hg2 hgh hb7; have HRE := Lib.hid HZ.out.2.2.1; obtain ⟨q0, q1, q2, q3, qf⟩ := box_cells HRE.out))
      all_goals go_wp2_with fail
      all_goals
        have hs6 := HZ.out.2.2.2.1
        have hg2 := HP.out.1
        exact drawT_end (t := .mk 4 0 ⟨#[]⟩ [x, y]) (b := w.heap.size) rfl rfl rfl rfl rfl rfl rfl Try.underlying28 (by kernel_rfl) HRE.out (Nat.le_refl _) (by omega) (by omega) HZ.out.1 HZ.out.2.1
          (argsS_pair HP.out.2 hg2 ⟨by omega, by omega⟩ (HZ.out.2.2.2.2.1.sub fun k hk => ⟨by have h1 := hk.1; have h2 := hk.2; omega, by have := hk.1; omega⟩) (HZ.out.2.2.2.2.2.sub fun k hk => ⟨by have h1 := hk.1; have h2 := hk.2; omega, by have := hk.1; omega⟩))
          (HCL.out.pair x y HXG.out HY.out.1) (pair_nodes HBB.out x y HXN.out HY.out.2.1 (by omega))
    · have hbig' : (2 < s ∧ ¬ 3 ≤ r) ∨ ¬ 2 < s := by omega
      have ht := even_facts r0
      clear HI hbig
      by_cases hve : 0 < v ∧ r % 2 = 0
      · obtain ⟨hv, he⟩ := hve
        have hdv : decide (0 < v) = true := decide_eq_true hv
        have he1 : (r % 2 == 0) = true := by simp [he]
        have HE := Lib.hid he
        clear he
        have HV := Lib.hid (below_any v w0 p a len cap w2 HG2.out hv hv1)
        rcases hbig' with ⟨hb1, hb2⟩ | hb1
        all_goals
          go_wp2_with fail
          refine HV.out.mono ?_
          rintro e w3 ⟨i, rfl, i0, i1, hg, ho⟩
          have HR3 := Lib.hid (HR2.out.only ho (by omega))
          have HG3 := Lib.hid hg
          have HO3 := Lib.hid (HO2.out.trans ho)
          have hn3 := ho.size
          clear hg ho
          go_wp2_with fail
          refine (var_any i w3).mono ?_
          rintro e w4 ⟨rfl, hb⟩
          have HRE := Lib.hid (HR3.out.read hb).now
          obtain ⟨q0, q1, q2, q3, qf⟩ := box_cells (HR3.out.read hb).now
          have hn4 := hb.size
          have HG4 := Lib.hid (HG3.out.below hb)
          have HO4 := Lib.hid (only_below HO3.out hb)
          clear hb
          go_wp2
          exact drawT_end (t := .mk 1 i ⟨#[]⟩ []) (b := w.heap.size) rfl rfl rfl rfl rfl rfl rfl Try.underlying28 (by kernel_rfl) HRE.out (Nat.le_refl _) (by omega) (by omega) HG4.out HO4.out (atom_args rfl) (HCL.out.var i (by omega) (by omega)) (Int.le_trans (nodes_atom rfl) (by omega))
      · have hcs : (decide (0 < v) = true ∧ (r % 2 == 0) = false) ∨ decide (0 < v) = false := by
          by_cases hv : 0 < v
          · exact .inl ⟨decide_eq_true hv, by have : ¬ r % 2 = 0 := fun e => hve ⟨hv, e⟩; simp [this]⟩
          · exact .inr (decide_eq_false hv)
        clear hve
        have HV := Lib.hid (atom_any HCL.out w0 p a len cap w2 HG2.out)
        rcases hbig' with ⟨hb1, hb2⟩ | hb1 <;> rcases hcs with ⟨hdv, he1⟩ | hdv
        all_goals
          go_wp2_with fail
          refine HV.out.mono ?_
          rintro e w3 ⟨y, ya, yc, rfl, hy, hgy, hny, hg, ho⟩
          have HR3 := Lib.hid (HR2.out.only ho (by omega))
          have HG3 := Lib.hid hg
          have HO3 := Lib.hid (HO2.out.trans ho)
          have HY := Lib.hid (And.intro hy (And.intro hgy hny))
          have hn3 := ho.size
          clear hg ho hy hgy hny
          have HRE := Lib.hid HR3.out.now
          obtain ⟨q0, q1, q2, q3, qf⟩ := box_cells HR3.out.now
          go_wp2
          exact drawT_end (t := y) (b := w.heap.size) rfl rfl rfl rfl rfl rfl rfl Try.underlying28 (by kernel_rfl) HRE.out (Nat.le_refl _) (by omega) (by omega) HG3.out HO3.out
            (HY.out.1.sub fun k hk => ⟨⟨by have := hk.1; omega, hk.2⟩, by have := hk.1; omega⟩) HY.out.2.1 (Int.le_trans HY.out.2.2 (by omega))
theorem drawTerm_any {G : Tm → Prop} (w0 : World) (p : Nat) (a : Option Addr) (len cap : Nat) (v : Int) (hGc : Closed v G) (hv0 : 0 ≤ v) (hv1 : v ≤ 256) (N : Nat) : ∀ (s : Int) (w : World), s < N → 1 ≤ s → s ≤ 1000 → Ready w0 p a len cap w →
    Calls Try.prog 39 #[.pointer (some ⟨p, 0, none⟩), .int .i64 s, .int .i64 v] w (DrawT w0 p a len cap G (2 * s - 1) w) := drawTermB_any half_plain w0 p a len cap v hGc hv0 hv1 N
end Go.Proofs.Ytnmdnajbafpfiaa

namespace Go.Proofs.Ytnmdnajbafpfiaa
open Go.RowKit
set_option linter.unusedVariables false
set_option linter.unusedSimpArgs false

theorem ready_new {a : Option Addr} {len cap : Nat} {w w1 : World} {p : Nat} (hb : Bytes w a len) (hl : len ≤ 1048576) (hc : Cur w1 p a len cap) (h1 : w.heap.size ≤ p) (h2 : p < w1.heap.size) (h3 : Below w.heap.size w w1) : Ready w p a len cap w1 := ⟨hb, hl, h1, h2, h3, hc⟩

set_option maxHeartbeats 1000000 in
theorem makeSize_any (a : Option Addr) (len cap n : Nat) (lo hi : Int) (w : World) (hb : Bytes w a len) (hl : len ≤ 1048576) (hn : n ≤ 1000000) (h0 : 0 ≤ lo) (h1 : lo ≤ hi) (h2 : hi ≤ 200) :
    Calls Try.prog 15 #[.slice a len cap, .int .i64 n, .int .i64 lo, .int .i64 hi] w fun e w' => (∃ r : Int, e = .returned (.int .i64 r) ∧ lo ≤ r ∧ r ≤ hi) ∧ Below w.heap.size w w' := by
  have HB := Lib.hid hb
  have HC := Lib.hid (newAt_any a len cap n w hb hl hn)
  have HPOST : Hid (∀ (r : Int) (w' : World), lo ≤ r → r ≤ hi → Below w.heap.size w w' → (∃ r' : Int, Ending.returned (.int .i64 r) = .returned (.int .i64 r') ∧ lo ≤ r' ∧ r' ≤ hi) ∧ Below w.heap.size w w') := Lib.hid (fun r w' h0 h1 h2 => ⟨⟨r, rfl, h0, h1⟩, h2⟩)
  clear hb
  go_enter Try.func15, Try.ntmps15
  go_wp2_with fail
  refine HC.out.mono ?_
  rintro e w1 ⟨p, rfl, hcur, hp1, hp2, hb1⟩
  have HD := Lib.hid (below_any (hi - lo + 1) w p a len cap w1 (ready_new HB.out hl hcur hp1 hp2 hb1) (by omega) (by omega))
  clear hcur hb1 HC
  go_wp2_with fail
  refine HD.out.mono ?_
  rintro e w2 ⟨r, rfl, r0, r1, hg, ho⟩
  have HG := Lib.hid hg.old
  clear hg ho HD
  go_wp2
  go_ret
  exact HPOST.out _ _ (by omega) (by omega) HG.out

/-- The answer is a term of the right form and at most so many nodes. -/
def MadeG (G : Tm → Prop) (n : Int) (w : World) (e : Ending) (w' : World) : Prop :=
  ∃ (t : Tm) (x : Option Addr) (c : Nat), e = .returned (.agg #[.int .i64 t.kind, .int .i64 t.num, .string t.name, .slice x t.args.length c]) ∧ ArgsAt w' (.slice x t.args.length c) t.args ∧ G t ∧ (t.nodes : Int) ≤ n ∧ Below w.heap.size w w'
def MadeT (n : Int) (w : World) (e : Ending) (w' : World) : Prop := MadeG Good n w e w'

set_option maxHeartbeats 1000000 in
theorem makeTermB_any {G : Tm → Prop} {B : Int → Int} (hB : HalfB B) (a : Option Addr) (len cap n : Nat) (s v : Int) (w : World) (hb : Bytes w a len) (hl : len ≤ 1048576) (hn : n ≤ 1000000) (h0 : 1 ≤ s) (h1 : s ≤ 1000) (h2 : 0 < v) (h3 : v ≤ 256) (hGc : Closed v G) :
    Calls Try.prog 9 #[.slice a len cap, .int .i64 n, .int .i64 s, .int .i64 v] w (MadeG G (B s) w) := by
  have HB := Lib.hid (hb.kept (belowAlloc (Below.refl _ _) (.cells #[.int .i64 0, .int .i64 0, .string ⟨#[]⟩, .slice none 0 0] 28)))
  have HR := Lib.hid (at_box w #[.int .i64 0, .int .i64 0, .string ⟨#[]⟩, .slice none 0 0] 28)
  have HW : Hid (Below w.heap.size w (w.alloc (.cells #[.int .i64 0, .int .i64 0, .string ⟨#[]⟩, .slice none 0 0] 28))) := Lib.hid (belowAlloc (Below.refl _ _) _)
  have hsz : (w.alloc (.cells #[.int .i64 0, .int .i64 0, .string ⟨#[]⟩, .slice none 0 0] 28)).heap.size = w.heap.size + 1 := by simp
  clear hb
  go_enter Try.func9, Try.ntmps9
  go_upto_region 1 with (fail)
  generalize hw : w.alloc (.cells #[.int .i64 0, .int .i64 0, .string ⟨#[]⟩, .slice none 0 0] 28) = w1 at HB HR HW hsz ⊢
  clear hw
  go_wp2_with fail
  refine (newAt_any a len cap n w1 HB.out hl hn).mono ?_
  rintro e w2 ⟨p, rfl, hcur, hp1, hp2, hb1⟩
  have HD := Lib.hid (drawTermB_any hB w1 p a len cap v hGc (by omega) h3 (s.toNat + 1) s w2 (by omega) h0 h1 (ready_new HB.out hl hcur hp1 hp2 hb1))
  replace HR := Lib.hid (HR.out.read hb1)
  replace HW := Lib.hid (belowOn HW.out (Nat.le_refl _) (hb1.mono (Nat.le_refl _)))
  have hs1 := hb1.size
  clear hcur hb1
  go_wp2_with fail
  refine HD.out.mono ?_
  rintro e w3 ⟨t, x, c, rfl, ht, hg, hnn, hr, ho⟩
  have HR3 := Lib.hid (HR.out.only ho (by omega))
  have HW3 : Hid (Below w.heap.size w w3) := Lib.hid (HW.out.trans (ho.below (fun k hk => by have := hk.1; omega) HW.out.size))
  have HT := Lib.hid (And.intro ht (And.intro hg hnn))
  have hs2 := ho.size
  clear ht hg hnn hr ho HD
  have HRE := Lib.hid HR3.out.now
  obtain ⟨q0, q1, q2, q3, qf⟩ := box_cells HR3.out.now
  go_wp2
  refine bodyPost_four rfl rfl rfl Try.underlying28 rfl (by kernel_rfl) HRE.out fun w' hw' => ?_
  exact ⟨t, x, c, rfl, (HT.out.1.frame hw'.size fun k hk hks => hw'.block k hks (fun e => by have := hk.1; omega)).at, HT.out.2.1, HT.out.2.2, HW3.out.trans (hw'.below (fun k hk => by omega) HW3.out.size)⟩

theorem makeTerm_any (a : Option Addr) (len cap n : Nat) (s v : Int) (w : World) (hb : Bytes w a len) (hl : len ≤ 1048576) (hn : n ≤ 1000000) (h0 : 1 ≤ s) (h1 : s ≤ 1000) (h2 : 0 < v) (h3 : v ≤ 256) :
    Calls Try.prog 9 #[.slice a len cap, .int .i64 n, .int .i64 s, .int .i64 v] w (MadeT (2 * s - 1) w) := makeTermB_any half_plain a len cap n s v w hb hl hn h0 h1 h2 h3 (closed_good h3)

/-- The answer is a list of so many terms of the right form, at most so many nodes each. -/
def MadeL (m : Nat) (n : Int) (w : World) (e : Ending) (w' : World) : Prop :=
  ∃ (xs : List Tm) (x : Option Addr) (c : Nat), e = .returned (.slice x xs.length c) ∧ xs.length = m ∧ (∀ t ∈ xs, Good t ∧ (t.nodes : Int) ≤ n) ∧ ArgsAt w' (.slice x xs.length c) xs ∧ Below w.heap.size w w'

end Go.Proofs.Ytnmdnajbafpfiaa

