/-
  Ground values drawn (l12Ground, MakeGround), the value of a term (MakeValue), the laws' own test whether values solve a substitution (holds).
-/
import Derived.Test.YtnmdnajbafpfiaaDrawsB
import Derived.Test.YtnmdnajbafpfiaaSame
namespace Go.Proofs.Ytnmdnajbafpfiaa
open Go.RowKit
set_option linter.unusedVariables false
set_option linter.unusedSimpArgs false

/-- Ground values of the variables below n. -/
def GroundP (n : Nat) (l : List Bd) : Prop := l.length = n ∧ ∀ (i : Nat) (b : Bd), l[i]? = some b → b.v = i ∧ Good b.t ∧ b.t.vl = [] ∧ b.t.nodes ≤ 3
theorem ground_nil : GroundP 0 [] := ⟨rfl, fun i b h => by simp at h⟩
theorem GroundP.put {n : Nat} {l : List Bd} {t : Tm} (h : GroundP n l) (hg : Good t ∧ t.vl = []) (hn : t.nodes ≤ 3) : GroundP (n + 1) (l ++ [⟨n, t⟩]) := by
  refine ⟨by rw [List.length_append, h.1]; rfl, fun i b hi => ?_⟩
  by_cases hin : i < l.length
  · rw [List.getElem?_append_left hin] at hi
    exact h.2 i b hi
  · have hil := (List.getElem?_eq_some_iff.1 hi).1
    have : i = n := by rw [List.length_append, List.length_singleton] at hil; have := h.1; omega
    subst this
    rw [List.getElem?_append_right (by rw [h.1]; exact Nat.le_refl _), h.1, Nat.sub_self] at hi
    simp at hi
    subst hi
    exact ⟨rfl, hg.1, hg.2, hn⟩
theorem GroundP.mem {n : Nat} {l : List Bd} (h : GroundP n l) : ∀ b ∈ l, (0 ≤ b.v ∧ b.v < n) ∧ Good b.t ∧ b.t.vl = [] ∧ b.t.nodes ≤ 3 := fun b hb => by
  obtain ⟨i, hi⟩ := List.getElem?_of_mem hb
  have h1 := h.2 i b hi
  have h2 := (List.getElem?_eq_some_iff.1 hi).1
  rw [h.1] at h2
  exact ⟨⟨by omega, by omega⟩, h1.2⟩
theorem GroundP.asc {n : Nat} {l : List Bd} (h : GroundP n l) : l.Pairwise (fun a b => a.v < b.v) := by
  rw [List.pairwise_iff_getElem]
  intro i j hi hj hij
  have h1 := (h.2 i _ (List.getElem?_eq_getElem hi)).1
  have h2 := (h.2 j _ (List.getElem?_eq_getElem hj)).1
  omega
theorem GroundP.take {n m : Nat} {l : List Bd} (h : GroundP n l) (hm : m ≤ n) : GroundP m (l.take m) := by
  refine ⟨by rw [List.length_take, h.1]; omega, fun i b hi => ?_⟩
  have him : i < m := by have := (List.getElem?_eq_some_iff.1 hi).1; rw [List.length_take] at this; omega
  rw [List.getElem?_take_of_lt him] at hi
  exact h.2 i b hi
theorem closed_ground : Closed 0 (fun t => Good t ∧ t.vl = []) where
  nil := ⟨.nil, by simp [Tm.vl, vlL]⟩
  sym := fun s hs => ⟨.sym s hs, by simp [Tm.vl, vlL]⟩
  int := fun r h0 h1 => ⟨.int r (by omega) (by omega), by simp [Tm.vl, vlL]⟩
  var := fun i h0 h1 => absurd h1 (by omega)
  pair := fun x y hx hy => ⟨.pair x y hx.1 hy.1, by simp [Tm.vl, vlL, hx.2, hy.2]⟩

/-- Ground values drawn. -/
def DrawGr (w0 : World) (p : Nat) (a : Option Addr) (len cap : Nat) (n : Nat) (w : World) (e : Ending) (w' : World) : Prop :=
  ∃ (l : List Bd) (u : Value), e = .returned u ∧ RowN bdE 73 w' w.heap.size u l ∧ GroundP n l ∧ Ready w0 p a len cap w' ∧ Only (iv p (p + 1)) w w'

set_option maxRecDepth 100000 in
set_option maxHeartbeats 2000000 in
theorem drawGround_any (w0 : World) (p : Nat) (a : Option Addr) (len cap : Nat) (n : Nat) (w : World) (h : Ready w0 p a len cap w) (hn : n ≤ 8) :
    Calls Try.prog 36 #[.pointer (some ⟨p, 0, none⟩), .int .i64 n] w (DrawGr w0 p a len cap n w) := by
  obtain ⟨i0, hi, hz0, hz1, hz2⟩ := info_parts infoBinding
  have HII := Lib.hid (And.intro hi (And.intro hz0 (And.intro hz1 hz2)))
  have hp := h.hi
  have HR0 := Lib.hid (rowN_start (E := bdE) (e := 73) (w := w))
  have HG0 := Lib.hid (h.below (belowAlloc (Below.refl _ _) (.cells #[] 73)))
  have HW0 : Hid (Only (iv p (p + 1)) w (w.alloc (.cells #[] 73))) := Lib.hid (Only.of_below (belowAlloc (Below.refl _ _) _))
  clear h hi hz0 hz1 hz2
  go_enter Try.func36, Try.ntmps36
  go_wp2
  go_loopw [5, 6] (fun lv iv' wr => ∃ (k : Nat) (l : List Bd), k ≤ n ∧ iv' = .int .i64 k ∧ Hid (RowN bdE 73 wr w.heap.size lv l) ∧ Hid (GroundP k l) ∧ Hid (Ready w0 p a len cap wr) ∧ Hid (Only (iv p (p + 1)) w wr)) (fun _ iv' _ => n - (intOf iv').toNat)
  case atStart => exact ⟨0, [], Nat.zero_le _, rfl, HR0, Lib.hid ground_nil, HG0, HW0⟩
  case round =>
    obtain ⟨k, l, hkn, rfl, HO1, HS, HG1, HW1⟩ := hrel
    clear HR0 HG0 HW0
    obtain ⟨oa, oc, rfl⟩ := HO1.out.slice
    have hlk : l.length ≤ 8 := by have := HS.out.1; omega
    by_cases hlt : k < n
    · have hltI : (k : Int) < (n : Int) := by omega
      have HD := Lib.hid (drawTermB_any half_small w0 p a len cap 0 closed_ground (by omega) (by omega) 4 3 wr (by omega) (by omega) (by omega) HG1.out)
      go_wp2_with fail
      refine HD.out.mono ?_
      rintro e w2 ⟨t, x, c, rfl, ht, hgt, hnt, hg, ho⟩
      have HG2 := Lib.hid hg
      have hs1 : w.heap.size ≤ wr.heap.size := HW1.out.size
      have hs2 : wr.heap.size ≤ w2.heap.size := ho.size
      have HU := Lib.hid ht
      have HS2 := Lib.hid (HS.out.put hgt (by have h3 : (t.nodes : Int) ≤ 3 := hnt; omega))
      have HLT := Lib.hid (fun k' (h : (Value.slice oa l.length oc).ownBlock = some k') => (rowK_block HO1.out.toK k' h))
      have HO2 := HO1.out.only ho (by omega)
      have HW2 := Lib.hid (HW1.out.trans ho)
      obtain ⟨L, hL1, hrow, hch⟩ := HO2
      have hLn : l.length = L.length := by have := congrArg List.length hL1; rwa [List.length_map] at this
      rw [← hLn] at hrow
      have HROW := Lib.hid hrow
      have HPA := Lib.hid (And.intro hL1 (And.intro hLn hch))
      clear hg ho ht hgt hnt hL1 hrow hch HD HS HO1 HG1 HW1 hLn
      generalize hmm : l.length = m at HROW HPA HLT hlk ⊢
      go_wp2_with (at_builtin; refine wpList_append_lies _ rfl _ _ 23 rfl w.heap.size 73 i0 _ 5 64 Try.underlying23 HII.out.1 HII.out.2.1 HII.out.2.2.1 HII.out.2.2.2 rfl (by omega) (.slice oa m oc) m (cellsE bdE L) rfl (HROW.out.alloc _) ⟨w2.heap.size, 0, none⟩ 1 1 (bdE.cells ⟨k, t⟩ (.slice x t.args.length c)) rfl rfl (World.news_of_block (heap_alloc_new w2 _)) (by simp [bdE, Value.oneCell']) (by omega) (by unfold maxLen; omega) (by omega) (by simp; omega) (w2.heap.size + 1) (by simp) ?_; intro gg cap' w3 hown1 hgrow hat hlt1; have HAP := Lib.hid (And.intro hown1 (And.intro hgrow (And.intro hat hlt1))); clear hown1 hgrow hat hlt1)
      have HB3 : Hid (Below w.heap.size w2 w3) := Lib.hid (((belowAlloc (Below.refl _ _) (.cells #[.int .i64 k, .int .i64 t.kind, .int .i64 t.num, .string t.name, .slice x t.args.length c] 73)).mono (by omega)).trans (below_of_grown HAP.out.2.1 (by simp; omega) (fun j hj => (HLT.out j hj).1)))
      have HN : Hid (RowN bdE 73 w3 w.heap.size (.slice (some ⟨gg, 0, none⟩) (m + 1) cap') (l ++ [⟨k, t⟩])) := Lib.hid (by
        have h := rowN_append (E := bdE) (x := ⟨k, t⟩) HPA.out.2.1 HPA.out.2.2 (C := iv wr.heap.size w2.heap.size) HU.out (fun b hb => ⟨by have := hb.1; omega, hb.2, fun e => by have h1 := (HLT.out b e).2; have h2 := hb.1; omega⟩) (belowAlloc (Below.refl _ _) _) HAP.out.1 HAP.out.2.1 (HAP.out.2.2.1.imp id (fun h => by omega))
        rw [← HPA.out.1] at h
        exact h)
      have HG3 := Lib.hid (HG2.out.later HB3.out hp)
      have HW3 := Lib.hid (only_later HW2.out HB3.out)
      clear HAP HPA HROW HLT HU HB3 HG2 HW2
      go_wp2
      go_roundw
      case rel => exact ⟨k + 1, l ++ [⟨k, t⟩], by omega, by go_num, HN, HS2, HG3, HW3⟩
      case measure => simp [intOf]; omega
    · obtain rfl : k = n := by omega
      go_wp2
      go_ret
      exact ⟨l, _, rfl, HO1.out, HS.out, HG1.out, HW1.out⟩

theorem rowN_addr {α : Type} {E : El α} {e : TypeId} {w : World} {lo : Nat} {v : Value} {xs : List α} (h : RowN E e w lo v xs) (hp : 0 < xs.length) : ∃ g cap, v = .slice (some ⟨g, 0, none⟩) xs.length cap ∧ xs.length ≤ cap ∧ cap ≤ 9223372036854775807 := by
  obtain ⟨L, rfl, hrow, hch⟩ := h
  rw [List.length_map] at hp ⊢
  rcases hrow.2 with ⟨_, hn⟩ | ⟨g', cap', cur, he, _, _, h1, h2, _⟩
  · omega
  · exact ⟨g', cap', he, h1, by unfold maxLen at h2; exact h2⟩
/-- The answer is a list of ground values; where it lies. -/
def MadeGrA (n : Nat) (w : World) (e : Ending) (w' : World) : Prop :=
  ∃ (l : List Bd) (g cap : Nat), e = .returned (.slice (some ⟨g, 0, none⟩) l.length cap) ∧ l.length ≤ cap ∧ cap ≤ 9223372036854775807 ∧ ListS bdE w' Any (.slice (some ⟨g, 0, none⟩) l.length cap) l ∧ GroundP n l ∧ Below w.heap.size w w'
/-- The answer is a list of ground values. -/
def MadeGr (n : Nat) (w : World) (e : Ending) (w' : World) : Prop :=
  ∃ (l : List Bd) (u : Value), e = .returned u ∧ ListS bdE w' Any u l ∧ GroundP n l ∧ Below w.heap.size w w'

theorem ground_put {n : Nat} {g : List Bd} (h : GroundP n g) {t : Tm} (ht : Good t) : Good (putT g t) ∧ (putT g t).nodes ≤ 3 * t.nodes := by
  induction ht with
  | nil => rw [putT_atom (by decide) (by decide)]; exact ⟨.nil, by omega⟩
  | var i h0 h1 =>
    cases hg : getO g i with
    | none => rw [show Tm.mk 1 i ⟨#[]⟩ [] = varTm i from rfl, putT_free hg]; exact ⟨.var i h0 h1, by omega⟩
    | some y =>
      obtain ⟨b, hb, _, rfl⟩ := getO_some hg
      rw [show Tm.mk 1 i ⟨#[]⟩ [] = varTm i from rfl, putT_of hg]
      have := h.mem b hb
      exact ⟨this.2.1, by have := this.2.2.2; have := nodes_pos (varTm i); omega⟩
  | sym s h => rw [putT_atom (by show ¬ (2 : Int) = 1; decide) (by show ¬ (2 : Int) = 4; decide)]; exact ⟨.sym s h, by omega⟩
  | int i h0 h1 => rw [putT_atom (by show ¬ (3 : Int) = 1; decide) (by show ¬ (3 : Int) = 4; decide)]; exact ⟨.int i h0 h1, by omega⟩
  | pair x y hx hy ihx ihy =>
    rw [putT_two (t := .mk 4 0 ⟨#[]⟩ [x, y]) (x := x) (y := y) rfl rfl]
    exact ⟨.pair _ _ ihx.1 ihy.1, by simp only [Tm.nodes, nodesL]; omega⟩

theorem ground_get {n : Nat} {g : List Bd} (h : GroundP n g) {v : Int} : (0 ≤ v ∧ v < n → ∃ b, g[v.toNat]? = some b ∧ getO g v = some b.t) := fun hv => by
  obtain ⟨b, hb⟩ : ∃ b, g[v.toNat]? = some b := ⟨_, List.getElem?_eq_getElem (by rw [h.1]; omega)⟩
  have h1 := h.2 _ b hb
  refine ⟨b, hb, ?_⟩
  have := get_asc h.asc b (List.mem_of_getElem? hb)
  rw [show b.v = v from by rw [h1.1]; omega] at this
  exact this
/-- The answer is this term, lying somewhere. -/
def ValT (t : Tm) (w : World) (e : Ending) (w' : World) : Prop :=
  ∃ (x : Option Addr) (c : Nat), e = .returned (.agg #[.int .i64 t.kind, .int .i64 t.num, .string t.name, .slice x t.args.length c]) ∧ ArgsS w' (fun k => w.heap.size ≤ k) (.slice x t.args.length c) t.args ∧ Below w.heap.size w w'

set_option maxRecDepth 100000 in
set_option maxHeartbeats 1000000 in
theorem makeValue_any (g : List Bd) (t : Tm) (Vg V : Value) (w : World) (hL : g.length ≤ 1048576) (hA : ListS bdE w Any Vg g) (hT : ArgsAt w V t.args) (hZ : t.sz ≤ 1048576) (hG : Good t) (hP : (putT g t).sz ≤ 1048576) :
    Calls Try.prog 12 #[.agg #[.int .i64 t.kind, .int .i64 t.num, .string t.name, V], Vg] w (ValT (putT g t) w) := by
  obtain ⟨ga, gc, rfl⟩ := hA.slice
  obtain ⟨ta, tc, rfl⟩ := hT.slice
  have hB : Below w.heap.size w ((w.alloc (.cells #[.int .i64 t.kind, .int .i64 t.num, .string t.name, .slice ta t.args.length tc] 28)).alloc (.cells #[.int .i64 0, .int .i64 0, .string ⟨#[]⟩, .slice none 0 0] 28)) := belowAlloc (belowAlloc (Below.refl _ _) _) _
  have HX := Lib.hid (at_box_of w #[.int .i64 t.kind, .int .i64 t.num, .string t.name, .slice ta t.args.length tc] 28 w.heap.size rfl)
  have HR := Lib.hid (at_box_of (w.alloc (.cells #[.int .i64 t.kind, .int .i64 t.num, .string t.name, .slice ta t.args.length tc] 28)) #[.int .i64 0, .int .i64 0, .string ⟨#[]⟩, .slice none 0 0] 28 (w.heap.size + 1) (by simp))
  replace HX := Lib.hid (HX.out.read (belowAlloc (Below.refl _ _) (.cells #[.int .i64 0, .int .i64 0, .string ⟨#[]⟩, .slice none 0 0] 28)))
  have HW := Lib.hid hB
  have HC1 := Lib.hid (specPut4_any g hL (t.nodes + 1) t (.slice ga g.length gc) (.slice ta t.args.length tc) (fun k => k < w.heap.size) _ (Nat.lt_succ_self _) (fun k hk => Nat.lt_of_lt_of_le hk hB.size) (hA.lowB.kept hB) (hT.inS.kept hB) hZ hG)
  clear hA hT hB
  generalize putT g t = r at HC1 hP ⊢
  go_enter Try.func12, Try.ntmps12
  go_upto_region 1 with (fail)
  generalize hw0 : (w.alloc (.cells #[.int .i64 t.kind, .int .i64 t.num, .string t.name, .slice ta t.args.length tc] 28)).alloc (.cells #[.int .i64 0, .int .i64 0, .string ⟨#[]⟩, .slice none 0 0] 28) = w0 at HX HR HW HC1 ⊢
  clear hw0
  obtain ⟨c0, c1, c2, c3⟩ := HX.out.cells
  have z0 := HX.out.le
  go_wp2_with fail
  refine HC1.out.mono ?_
  rintro e w1 ⟨u, rfl, hu, hb⟩
  obtain ⟨ra, rc, rfl⟩ := hu.at.slice
  have HR1 := Lib.hid (HR.out.read hb)
  have HW1 := Lib.hid (belowOn HW.out (Nat.le_refl _) hb)
  have HC2 := Lib.hid (specCopy_any (r.nodes + 1) r _ w1 (Nat.lt_succ_self _) hu.at (by omega))
  clear hu hb HC1 HX HR c0 c1 c2 c3 z0
  go_wp2_with fail
  refine HC2.out.mono ?_
  rintro e w2 ⟨u, rfl, hu, hb⟩
  obtain ⟨va, vc, rfl⟩ := hu.at.slice
  have HR2 := Lib.hid (HR1.out.read hb)
  have HW2 := Lib.hid (belowOn HW1.out (Nat.le_refl _) hb)
  have HV := Lib.hid hu
  have hs0 := HR1.out.le
  clear hu hb HC2
  have HRE := Lib.hid HR2.out.now
  obtain ⟨q0, q1, q2, q3, qf⟩ := box_cells HR2.out.now
  have z1 := HR2.out.le
  go_wp2
  refine bodyPost_four rfl rfl rfl Try.underlying28 rfl (by kernel_rfl) HRE.out fun w' hw' => ?_
  exact ⟨va, vc, rfl, (HV.out.frame hw'.size fun k hk hks => hw'.block k hks (fun e => by have := hk.1; omega)).sub (fun k hk => by have h1 := hk.1; have h2 := HW1.out.size; omega), HW2.out.trans (hw'.below (fun k hk => by omega) HW2.out.size)⟩

/-- Whether values solve a substitution. -/
def HoldsP (g s : List Bd) : Prop := ∀ b ∈ s, putT g (varTm b.v) = putT g b.t
open Classical in
noncomputable def holdsB (g s : List Bd) : Bool := decide (HoldsP g s)
theorem holds_true {g s : List Bd} : holdsB g s = true ↔ HoldsP g s := by simp [holdsB]
theorem holds_false {g s : List Bd} : holdsB g s = false ↔ ¬ HoldsP g s := by simp [holdsB]

end Go.Proofs.Ytnmdnajbafpfiaa

