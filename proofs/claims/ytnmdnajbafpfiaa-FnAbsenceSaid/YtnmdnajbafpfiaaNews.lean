/-
  New trees: a pair made of two trees; the contracts of pairOf, l02Pair.
  Terms copied and a variable in them replaced: the contracts of the program's copied and replaced.
  A variable replaced: plain; the contract of the program's replaced.
  Trees that can be read, all their blocks in a set; a struct and a second result returned.
-/
import Derived.Test.YtnmdnajbafpfiaaCmps
namespace Go.Proofs.Ytnmdnajbafpfiaa
open Go.RowKit
set_option linter.unusedVariables false
set_option linter.unusedSimpArgs false

/-- The answer is a term, its list of arguments a new tree of the call's own. -/
def NewTm (t : Tm) (w : World) (e : Ending) (w' : World) : Prop := ∃ u, e = .returned (.agg #[.int .i64 t.kind, .int .i64 t.num, .string t.name, u]) ∧ NewTree t.args w u w'
/-- The answer is a term that can be read. -/
def OldTm (t : Tm) (w : World) (e : Ending) (w' : World) : Prop := ∃ u, e = .returned (.agg #[.int .i64 t.kind, .int .i64 t.num, .string t.name, u]) ∧ ArgsAt w' u t.args ∧ Below w.heap.size w w'

theorem row_pair {w : World} {e : TypeId} {g : Nat} {a b : Tm} {Va Vb : Value} (h : w.heap[g]? = some (.cells #[.int .i64 a.kind, .int .i64 a.num, .string a.name, Va, .int .i64 b.kind, .int .i64 b.num, .string b.name, Vb] e)) :
    w.ownsRow 0 e 4 (.slice (some ⟨g, 0, none⟩) 2 2) 2 (cellsL [(a, Va), (b, Vb)]) :=
  ⟨rfl, .inr ⟨g, 2, _, rfl, Nat.zero_le _, h, Nat.le_refl _, by unfold maxLen; omega, rfl, rfl⟩⟩
theorem own_pair {w : World} {e : TypeId} {g : Nat} {a b : Tm} {Va Vb : Value} {S Sa Sb : Nat → Prop} (h : w.heap[g]? = some (.cells #[.int .i64 a.kind, .int .i64 a.num, .string a.name, Va, .int .i64 b.kind, .int .i64 b.num, .string b.name, Vb] e)) (hg : S g)
    (ha : Own w e Sa Va a.args) (hb : Own w e Sb Vb b.args) (hSa : ∀ k, Sa k → S k ∧ k ≠ g) (hSb : ∀ k, Sb k → S k ∧ k ≠ g) (hd : ∀ k, Sa k → ¬ Sb k) : Own w e S (.slice (some ⟨g, 0, none⟩) 2 2) [a, b] := by
  refine .row S g 2 2 [(a, Va), (b, Vb)] (fun i k => (i = 0 ∧ Sa k) ∨ (i = 1 ∧ Sb k)) _ rfl rfl hg (row_pair h) ?_ ?_ ?_
  · intro j p hj
    match j, hj with
    | 0, hj => simp at hj; subst hj; exact ha.sub fun k hk => .inl ⟨rfl, hk⟩
    | 1, hj => simp at hj; subst hj; exact hb.sub fun k hk => .inr ⟨rfl, hk⟩
    | j + 2, hj => simp at hj
  · intro j k hj hk
    rcases hk with ⟨_, hk⟩ | ⟨_, hk⟩
    · exact hSa k hk
    · exact hSb k hk
  · intro i j k hi hj hk hk'
    rcases hk with ⟨rfl, hk⟩ | ⟨rfl, hk⟩
    · rcases hk' with ⟨rfl, hk'⟩ | ⟨rfl, hk'⟩
      · rfl
      · exact absurd hk' (hd k hk)
    · rcases hk' with ⟨rfl, hk'⟩ | ⟨rfl, hk'⟩
      · exact absurd hk (hd k hk')
      · rfl
theorem args_pair {w : World} {e : TypeId} {g : Nat} {a b : Tm} {Va Vb : Value} (h : w.heap[g]? = some (.cells #[.int .i64 a.kind, .int .i64 a.num, .string a.name, Va, .int .i64 b.kind, .int .i64 b.num, .string b.name, Vb] e)) (hg : g < w.heap.size)
    (ha : ArgsAt w Va a.args) (hb : ArgsAt w Vb b.args) : ArgsAt w (.slice (some ⟨g, 0, none⟩) 2 2) [a, b] := by
  have hr := row_pair h
  refine .row g 0 2 2 (fun j => if j = 0 then Va else Vb) _ rfl hg ?_ ?_
  · intro j t hj i v hv
    match j, hj with
    | 0, hj =>
      simp at hj; subst hj
      simp only [if_pos] at hv
      have hi : i < 4 := by have := (List.getElem?_eq_some_iff.1 hv).1; simpa [cells4] using this
      rw [Nat.zero_add, World.ownsRow.cellAt hr _ (by omega)]
      exact cellsL_at (L := [(a, Va), (b, Vb)]) (j := 0) rfl hv
    | 1, hj =>
      simp at hj; subst hj
      simp only [if_neg (show ¬ (1 : Nat) = 0 from by omega)] at hv
      have hi : i < 4 := by have := (List.getElem?_eq_some_iff.1 hv).1; simpa [cells4] using this
      rw [Nat.zero_add, World.ownsRow.cellAt hr _ (by omega)]
      exact cellsL_at (L := [(a, Va), (b, Vb)]) (j := 1) rfl hv
    | j + 2, hj => simp at hj
  · intro j t hj
    match j, hj with
    | 0, hj => simp at hj; subst hj; simpa using ha
    | 1, hj => simp at hj; subst hj; simpa using hb
    | j + 2, hj => simp at hj

set_option maxHeartbeats 400000 in
theorem pairOf_any (x0 x1 : Int) (x2 : ByteArray) (xa : Option Addr) (xn xc : Nat) (y0 y1 : Int) (y2 : ByteArray) (ya : Option Addr) (yn yc : Nat) (w : World) :
    Calls Try.prog 93 #[.agg #[.int .i64 x0, .int .i64 x1, .string x2, .slice xa xn xc], .agg #[.int .i64 y0, .int .i64 y1, .string y2, .slice ya yn yc]] w fun e w' =>
      ∃ g, e = .returned (.agg #[.int .i64 4, .int .i64 0, .string ⟨#[]⟩, .slice (some ⟨g, 0, none⟩) 2 2]) ∧ w.heap.size ≤ g ∧ g < w'.heap.size ∧
        w'.heap[g]? = some (.cells #[.int .i64 x0, .int .i64 x1, .string x2, .slice xa xn xc, .int .i64 y0, .int .i64 y1, .string y2, .slice ya yn yc] 28) ∧ Below w.heap.size w w' := by
  go_enter Try.func93, Try.ntmps93
  go_wp2
  refine bodyPost_ret (v := .agg #[.int .i64 4, .int .i64 0, .string ⟨#[]⟩, .slice (some ⟨w.heap.size + 1 + 1 + 1, 0, none⟩) 2 2]) (by simp [results, Try.results93, go_sem]) rfl ⟨_, rfl, by omega, by simp, ?_, ?_⟩
  · have h := heap_new (((w.alloc (.cells #[.int .i64 x0, .int .i64 x1, .string x2, .slice xa xn xc] 28)).alloc (.cells #[.int .i64 y0, .int .i64 y1, .string y2, .slice ya yn yc] 28)).alloc (.cells #[.int .i64 4, .int .i64 0, .string ⟨#[]⟩, .slice (some ⟨w.heap.size + 1 + 1 + 1, 0, none⟩) 2 2] 28)) (.cells #[.int .i64 x0, .int .i64 x1, .string x2, .slice xa xn xc, .int .i64 y0, .int .i64 y1, .string y2, .slice ya yn yc] 28)
    simpa using h
  · exact ((((Below.refl _ _).alloc (Nat.le_refl _) _).alloc (by simp) _).alloc (by simp; omega) _).alloc (by simp; omega) _

set_option maxHeartbeats 400000 in
theorem specPair_any (x0 x1 : Int) (x2 : ByteArray) (xa : Option Addr) (xn xc : Nat) (y0 y1 : Int) (y2 : ByteArray) (ya : Option Addr) (yn yc : Nat) (w : World) :
    Calls Try.prog 66 #[.agg #[.int .i64 x0, .int .i64 x1, .string x2, .slice xa xn xc], .agg #[.int .i64 y0, .int .i64 y1, .string y2, .slice ya yn yc]] w fun e w' =>
      ∃ g, e = .returned (.agg #[.int .i64 4, .int .i64 0, .string ⟨#[]⟩, .slice (some ⟨g, 0, none⟩) 2 2]) ∧ w.heap.size ≤ g ∧ g < w'.heap.size ∧
        w'.heap[g]? = some (.cells #[.int .i64 x0, .int .i64 x1, .string x2, .slice xa xn xc, .int .i64 y0, .int .i64 y1, .string y2, .slice ya yn yc] 28) ∧ Below w.heap.size w w' := by
  go_enter Try.func66, Try.ntmps66
  go_wp2
  refine bodyPost_ret (v := .agg #[.int .i64 4, .int .i64 0, .string ⟨#[]⟩, .slice (some ⟨w.heap.size + 1 + 1 + 1, 0, none⟩) 2 2]) (by simp [results, Try.results66, go_sem]) rfl ⟨_, rfl, by omega, by simp, ?_, ?_⟩
  · have h := heap_new (((w.alloc (.cells #[.int .i64 x0, .int .i64 x1, .string x2, .slice xa xn xc] 28)).alloc (.cells #[.int .i64 y0, .int .i64 y1, .string y2, .slice ya yn yc] 28)).alloc (.cells #[.int .i64 4, .int .i64 0, .string ⟨#[]⟩, .slice (some ⟨w.heap.size + 1 + 1 + 1, 0, none⟩) 2 2] 28)) (.cells #[.int .i64 x0, .int .i64 x1, .string x2, .slice xa xn xc, .int .i64 y0, .int .i64 y1, .string y2, .slice ya yn yc] 28)
    simpa using h
  · exact ((((Below.refl _ _).alloc (Nat.le_refl _) _).alloc (by simp) _).alloc (by simp; omega) _).alloc (by simp; omega) _
end Go.Proofs.Ytnmdnajbafpfiaa

namespace Go.Proofs.Ytnmdnajbafpfiaa
open Go.RowKit
set_option linter.unusedVariables false
set_option linter.unusedSimpArgs false

theorem newPair {x y : Tm} {w1 A B C D E : World} {u0 u1 : Value} {g : Nat} (h1 : Below w1.heap.size w1 A) (h0 : NewTree x.args A u0 B) (h2 : Below B.heap.size B C) (h3 : NewTree y.args C u1 D) (hg : D.heap.size ≤ g) (hg2 : g < E.heap.size)
    (hh : E.heap[g]? = some (.cells #[.int .i64 x.kind, .int .i64 x.num, .string x.name, u0, .int .i64 y.kind, .int .i64 y.num, .string y.name, u1] 28)) (h4 : Below D.heap.size D E) : NewTree [x, y] w1 (.slice (some ⟨g, 0, none⟩) 2 2) E := by
  have s1 := h1.size
  have s0 := h0.2.size
  have s2 := h2.size
  have s3 := h3.2.size
  have s4 := h4.size
  have hBD := belowOn h2 (Nat.le_refl _) h3.2
  have hBE := belowOn hBD (Nat.le_refl _) h4
  refine ⟨own_pair hh (by unfold iv; omega) (h0.1.kept' hBE fun k hk => hk.2) (h3.1.kept' h4 fun k hk => hk.2) ?_ ?_ ?_, belowOn (belowOn h1 (Nat.le_refl _) h0.2) (Nat.le_refl _) hBE⟩
  · intro k hk
    unfold iv at hk ⊢
    omega
  · intro k hk
    unfold iv at hk ⊢
    omega
  · intro k hk hk'
    unfold iv at hk hk'
    omega
theorem fit_atom_new {t : Tm} {w w' : World} (h : t.args = []) (hb : Below w.heap.size w w') : NewTree t.args w (.slice none 0 0) w' := by
  rw [h]; exact ⟨.nil _, hb⟩
theorem pair_fields {t : Tm} (h : Good t) (hk : t.kind = 4) : t.num = 0 ∧ t.name = ⟨#[]⟩ := by
  rcases h.fit with ⟨h, _⟩ | ⟨h, _⟩ | ⟨h, _⟩ | ⟨h, _⟩ | ⟨_, h1, h2, _⟩
  · rw [hk] at h; cases h
  · rw [hk] at h; cases h
  · rw [hk] at h; cases h
  · rw [hk] at h; cases h
  · exact ⟨h1, h2⟩
theorem below3 {w w0 w1 : World} (h : Below w.heap.size w w0) (h1 : Below w0.heap.size w0 w1) : Below w.heap.size w w1 := belowOn h (Nat.le_refl _) h1
/-- What a function that returns a struct by its result's cell hands back. -/
theorem newTm_end {P : Program} {fn : Func} {t : Tm} {w W wE : World} {a : Act} {p : Tmp} {b : Nat} {x0 x1 x2 x3 u : Value} {fs : Array Field} (h : fn.results = #[.cell p 28]) (hp : a.tmps.getD p undef = .pointer (some ⟨b, 0, none⟩)) (hd : a.defers = [])
    (hu : P.underlying 28 = some (.struct fs)) (hi : (P.info? 28).map (·.size) = some 4) (hb : wE.heap[b]? = some (Obj.cells #[x0, x1, x2, x3] 28))
    (hW : Below w.heap.size w W) (hb1 : w.heap.size ≤ b) (hb2 : b < W.heap.size) (hn : NewTree t.args W u wE) :
    bodyPost P fn (NewTm t w) .ret a ((((wE.setCell ⟨b, 0, none⟩ (.int .i64 t.kind)).setCell ⟨b, 1, none⟩ (.int .i64 t.num)).setCell ⟨b, 2, none⟩ (.string t.name)).setCell ⟨b, 3, none⟩ u) := by
  refine bodyPost_four h hp hd hu rfl hi hb fun w' hw => ⟨_, rfl, NewTree.after hn hW (hw.sub fun k hk => ?_)⟩
  subst hk
  unfold iv
  omega
theorem newTm_end' {P : Program} {fn : Func} {t : Tm} {k i : Int} {s : ByteArray} {w W wE : World} {a : Act} {p : Tmp} {b : Nat} {x0 x1 x2 x3 u : Value} {fs : Array Field} (h1 : t.kind = k) (h2 : t.num = i) (h3 : t.name = s) (h : fn.results = #[.cell p 28]) (hp : a.tmps.getD p undef = .pointer (some ⟨b, 0, none⟩)) (hd : a.defers = [])
    (hu : P.underlying 28 = some (.struct fs)) (hi : (P.info? 28).map (·.size) = some 4) (hb : wE.heap[b]? = some (Obj.cells #[x0, x1, x2, x3] 28))
    (hW : Below w.heap.size w W) (hb1 : w.heap.size ≤ b) (hb2 : b < W.heap.size) (hn : NewTree t.args W u wE) :
    bodyPost P fn (NewTm t w) .ret a ((((wE.setCell ⟨b, 0, none⟩ (.int .i64 k)).setCell ⟨b, 1, none⟩ (.int .i64 i)).setCell ⟨b, 2, none⟩ (.string s)).setCell ⟨b, 3, none⟩ u) := by
  subst h1
  subst h2
  subst h3
  exact newTm_end h hp hd hu hi hb hW hb1 hb2 hn

set_option maxRecDepth 100000 in
set_option maxHeartbeats 4000000 in
theorem copied_any (N : Nat) : ∀ (t : Tm) (V : Value) (w : World), t.nodes < N → ArgsAt w V t.args → t.sz ≤ 1048576 → Good t →
    Calls Try.prog 91 #[.agg #[.int .i64 t.kind, .int .i64 t.num, .string t.name, V]] w (NewTm t w) := by
  induction N with
  | zero => intro t V w hN; omega
  | succ N ih =>
    intro t V w hN hA hZ hG
    obtain ⟨aa, ca, rfl⟩ := hA.slice
    have HI := Lib.hid ih
    have HG := Lib.hid hG
    have HS := Lib.hid (sz_eq t)
    have HNE := Lib.hid (nodes_eq t)
    have HA := Lib.hid (at_args hA)
    have HW : Hid (Below w.heap.size w w) := Lib.hid (Below.refl _ _)
    clear hA ih hG
    have hal : Below w.heap.size w (w.alloc (.cells #[.int .i64 t.kind, .int .i64 t.num, .string t.name, .slice aa t.args.length ca] 28)) := (Below.refl _ _).alloc (Nat.le_refl _) _
    replace HA := Lib.hid (HA.out.read hal)
    replace HW := Lib.hid (belowOn HW.out (Nat.le_refl _) hal)
    have HX := Lib.hid (at_box_of w #[.int .i64 t.kind, .int .i64 t.num, .string t.name, .slice aa t.args.length ca] 28 (w.heap.size) (by simp))
    clear hal
    have hal : Below (w.alloc (.cells #[.int .i64 t.kind, .int .i64 t.num, .string t.name, .slice aa t.args.length ca] 28)).heap.size (w.alloc (.cells #[.int .i64 t.kind, .int .i64 t.num, .string t.name, .slice aa t.args.length ca] 28)) ((w.alloc (.cells #[.int .i64 t.kind, .int .i64 t.num, .string t.name, .slice aa t.args.length ca] 28)).alloc (.cells #[.int .i64 0, .int .i64 0, .string ⟨#[]⟩, .slice none 0 0] 28)) := (Below.refl _ _).alloc (Nat.le_refl _) _
    replace HA := Lib.hid (HA.out.read hal)
    replace HX := Lib.hid (HX.out.read hal)
    replace HW := Lib.hid (belowOn HW.out (Nat.le_refl _) hal)
    have HR := Lib.hid (at_box_of (w.alloc (.cells #[.int .i64 t.kind, .int .i64 t.num, .string t.name, .slice aa t.args.length ca] 28)) #[.int .i64 0, .int .i64 0, .string ⟨#[]⟩, .slice none 0 0] 28 (w.heap.size + 1) (by simp))
    clear hal
    go_enter Try.func91, Try.ntmps91
    go_upto_region 1 with (fail)
    generalize hw0 : (w.alloc (.cells #[.int .i64 t.kind, .int .i64 t.num, .string t.name, .slice aa t.args.length ca] 28)).alloc (.cells #[.int .i64 0, .int .i64 0, .string ⟨#[]⟩, .slice none 0 0] 28) = w0 at HA HX HR HW ⊢
    clear hw0
    have HIP := Lib.hid (isPair_any t.kind t.num t.name (.slice aa t.args.length ca) w0)
    obtain ⟨c0a, c0b, c0c, c0d⟩ := HX.out.cells
    have z0 := HX.out.le
    go_wp2_with fail
    refine HIP.out.mono ?_
    rintro e w1 ⟨rfl, hb⟩
    clear c0a c0b c0c c0d z0 HIP
    replace HA := Lib.hid (HA.out.read hb)
    replace HX := Lib.hid (HX.out.read hb)
    replace HR := Lib.hid (HR.out.read hb)
    replace HW := Lib.hid (belowOn HW.out (Nat.le_refl _) hb)
    clear hb
    by_cases hk : t.kind = 4
    · have hd : decide (t.kind = 4) = true := decide_eq_true hk
      rw [hd]
      obtain ⟨x, y, hxy⟩ := HG.out.fit.pair hk
      obtain ⟨ga, offa, u1, u2, v1, v2, rfl, hga, hla, hcx, hcy, hax, hay⟩ := HA.out.argsAt.two hxy
      have HGA := Lib.hid hga
      have HLA := Lib.hid hla
      have HPA := Lib.hid (And.intro hcx (And.intro hcy (And.intro hax hay)))
      have HGX := Lib.hid ((good_two HG.out.fit hxy).1 HG.out)
      have HNX : Hid (nodesL t.args = x.nodes + y.nodes ∧ szL t.args = 2 + x.sz + y.sz ∧ 1 ≤ x.nodes ∧ 1 ≤ y.nodes) := Lib.hid (by
        rw [hxy]; simp only [nodesL, szL]; have := nodes_pos x; have := nodes_pos y; omega)
      have HF := Lib.hid (pair_fields HG.out hk)
      have HXY := Lib.hid hxy
      have HK := Lib.hid hk
      clear hd hxy hga hla hcx hcy hax hay hk
      have hself : Below w1.heap.size w1 w1 := Below.refl _ _
      have hdrew : Below w1.heap.size w1 w1.drew := hself.drew
      obtain ⟨c0a, c0b, c0c, c0d⟩ := HX.out.cells
      have z0 := HX.out.le
      have HCE : Hid (∀ W, Below w1.heap.size w1 W → W.cell? ⟨w.heap.size, 0, none⟩ = some (.int .i64 t.kind) ∧ W.cell? ⟨w.heap.size, 1, none⟩ = some (.int .i64 t.num) ∧ W.cell? ⟨w.heap.size, 2, none⟩ = some (.string t.name) ∧ W.cell? ⟨w.heap.size, 3, none⟩ = some (.slice (some ⟨ga, offa, none⟩) t.args.length ca)) := Lib.hid fun W hW => by
        obtain ⟨y0a, y0b, y0c, y0d⟩ := (HX.out.read hW).cells
        exact ⟨y0a, y0b, y0c, y0d⟩
      have HTR : Hid (∀ a b, Below w1.heap.size w1 a → Below a.heap.size a b → Below w1.heap.size w1 b) := Lib.hid fun a b h1 h2 => belowOn h1 (Nat.le_refl _) h2
      have HH0 : Hid (∀ W, Below w1.heap.size w1 W → Calls Try.prog 94 #[.agg #[.int .i64 t.kind, .int .i64 t.num, .string t.name, .slice (some ⟨ga, offa, none⟩) t.args.length ca]] W fun e w' => e = .returned (.agg #[.int .i64 x.kind, .int .i64 x.num, .string x.name, .slice u1 x.args.length u2]) ∧ Below W.heap.size W w') := Lib.hid fun W hW => by
        obtain ⟨q0, q1, q2, q3⟩ := HPA.out.1 W hW
        exact head_any t.kind t.num t.name ga offa t.args.length ca _ _ _ _ _ _ W (Nat.lt_of_lt_of_le HGA.out hW.size) (by have := HLA.out; omega) (by have := HLA.out; omega) q0 q1 q2 q3
      have HH1 : Hid (∀ W, Below w1.heap.size w1 W → Calls Try.prog 95 #[.agg #[.int .i64 t.kind, .int .i64 t.num, .string t.name, .slice (some ⟨ga, offa, none⟩) t.args.length ca]] W fun e w' => e = .returned (.agg #[.int .i64 y.kind, .int .i64 y.num, .string y.name, .slice v1 y.args.length v2]) ∧ Below W.heap.size W w') := Lib.hid fun W hW => by
        obtain ⟨q0, q1, q2, q3⟩ := HPA.out.2.1 W hW
        exact tail_any t.kind t.num t.name ga offa t.args.length ca _ _ _ _ _ _ W (Nat.lt_of_lt_of_le HGA.out hW.size) (by have := HLA.out; omega) (by have := HLA.out; omega) q0 q1 q2 q3
      have HC0 : Hid (∀ W, Below w1.heap.size w1 W → Calls Try.prog 91 #[.agg #[.int .i64 x.kind, .int .i64 x.num, .string x.name, .slice u1 x.args.length u2]] W (NewTm x W)) := Lib.hid fun W hW => HI.out x _ W (by have := HNX.out; have := HNE.out; omega) (HPA.out.2.2.1.kept hW) (by have := HNX.out; have := HS.out; omega) HGX.out.1
      have HC1 : Hid (∀ W, Below w1.heap.size w1 W → Calls Try.prog 91 #[.agg #[.int .i64 y.kind, .int .i64 y.num, .string y.name, .slice v1 y.args.length v2]] W (NewTm y W)) := Lib.hid fun W hW => HI.out y _ W (by have := HNX.out; have := HNE.out; omega) (HPA.out.2.2.2.kept hW) (by have := HNX.out; have := HS.out; omega) HGX.out.2
      have HRB : Hid (∀ W, Below w1.heap.size w1 W → W.heap[w.heap.size + 1]? = some (Obj.cells #[.int .i64 0, .int .i64 0, .string ⟨#[]⟩, .slice none 0 0] 28)) := Lib.hid fun W hW => (HR.out.read hW).now
      have HRL : Hid (w.heap.size ≤ w.heap.size + 1 ∧ w.heap.size + 1 < w1.heap.size) := Lib.hid ⟨by omega, by have := HR.out.le; omega⟩
      have ne1 : ¬ w.heap.size = w.heap.size + 1 := by omega
      have ne2 : ¬ w.heap.size + 1 = w.heap.size := by omega
      clear HA HX HR HI HPA
      go_upto_region 2 with (fail)
      go_region_held3 (fun w' => w'.cell? ⟨w.heap.size, 0, none⟩ = some (.int .i64 t.kind) ∧ w'.cell? ⟨w.heap.size, 1, none⟩ = some (.int .i64 t.num) ∧ w'.cell? ⟨w.heap.size, 2, none⟩ = some (.string t.name) ∧ w'.cell? ⟨w.heap.size, 3, none⟩ = some (.slice (some ⟨ga, offa, none⟩) t.args.length ca)) (go_keep)
        (first
          | (go_at_call 94; (with_reducible refine Calls.mono (HH0.out _ ?_) ?_); (assumption); rintro e wA ⟨rfl, hbA⟩; have hA' := HTR.out _ _ (by assumption) hbA; obtain ⟨k0, k1, k2, k3⟩ := HCE.out _ hA')
          | (go_at_call 91; (with_reducible refine Calls.mono (HC0.out _ ?_) ?_); (assumption); rintro e wB ⟨u0, rfl, hn0⟩; have hB' := HTR.out _ _ (by assumption) hn0.2; obtain ⟨k0, k1, k2, k3⟩ := HCE.out _ hB'; obtain ⟨a0, c0, rfl⟩ := hn0.1.argsAt.slice; have HN0 := Lib.hid (And.intro hA' hn0); clear hn0)
          | (go_at_call 95; (with_reducible refine Calls.mono (HH1.out _ ?_) ?_); (assumption); rintro e wC ⟨rfl, hbC⟩; have hC' := HTR.out _ _ (by assumption) hbC; obtain ⟨k0, k1, k2, k3⟩ := HCE.out _ hC'; have HBC := Lib.hid hbC; clear hbC)
          | (go_at_call 91; (with_reducible refine Calls.mono (HC1.out _ ?_) ?_); (assumption); rintro e wD ⟨u9, rfl, hn1⟩; have hD' := HTR.out _ _ (by assumption) hn1.2; obtain ⟨k0, k1, k2, k3⟩ := HCE.out _ hD'; obtain ⟨a1, c1, rfl⟩ := hn1.1.argsAt.slice; have HN1 := Lib.hid hn1; clear hn1)
          | (go_at_call 93; (with_reducible refine Calls.mono (pairOf_any _ _ _ _ _ _ _ _ _ _ _ _ _) ?_); rintro e wE ⟨gE, rfl, hg1, hg2, hgh, hbE⟩; have hE' := HTR.out _ _ (by assumption) hbE; obtain ⟨k0, k1, k2, k3⟩ := HCE.out _ hE'; have HP := Lib.hid (newPair HN0.out.1 HN0.out.2 HBC.out HN1.out hg1 hg2 hgh hbE); have HRE := Lib.hid (HRB.out _ hE'); obtain ⟨r0, r1, r2, r3, rf⟩ := box_cells (HRB.out _ hE'); clear hg1 hg2 hgh hbE))
      all_goals (go_wp2_with fail; exact newTm_end' (p := 2) (b := w.heap.size + 1) HK.out HF.out.1 HF.out.2 rfl rfl rfl Try.underlying28 (by kernel_rfl) HRE.out HW.out HRL.out.1 HRL.out.2 (by rw [HXY.out]; exact HP.out))
    · have hd : decide (t.kind = 4) = false := decide_eq_false hk
      rw [hd]
      have HAT := Lib.hid (HG.out.fit.atom hk)
      clear hd hk
      obtain ⟨c0a, c0b, c0c, c0d⟩ := HX.out.cells
      have z0 := HX.out.le
      have HRE := Lib.hid HR.out.now
      obtain ⟨r0, r1, r2, r3, rf⟩ := box_cells HR.out.now
      have hl1 := HR.out.le
      go_wp2
      exact newTm_end (P := Try.prog) (fn := Try.f91) (t := t) (w := w) (W := w1) (p := 2) (b := w.heap.size + 1) rfl rfl rfl Try.underlying28 (by kernel_rfl) HRE.out HW.out (by omega) (by omega) (fit_atom_new HAT.out (Below.refl _ _))
end Go.Proofs.Ytnmdnajbafpfiaa

namespace Go.Proofs.Ytnmdnajbafpfiaa
open Go.RowKit
set_option linter.unusedVariables false
set_option linter.unusedSimpArgs false

mutual
def Tm.put : Tm → Int → Tm → Tm | .mk k i s l, v, b => if k = 1 ∧ i = v then b else .mk k i s (putL l v b)
def putL : List Tm → Int → Tm → List Tm | [], _, _ => [] | t :: l, v, b => t.put v b :: putL l v b
end
theorem put_eq (v : Int) (b t : Tm) : t.put v b = if t.kind = 1 ∧ t.num = v then b else .mk t.kind t.num t.name (putL t.args v b) := by cases t; rw [Tm.put]; rfl
theorem put_var {v : Int} {b t : Tm} (h : t.kind = 1 ∧ t.num = v) : t.put v b = b := by rw [put_eq, if_pos h]
theorem put_atom {v : Int} {b t : Tm} (h : ¬ (t.kind = 1 ∧ t.num = v)) (ha : t.args = []) : t.put v b = t := by
  rw [put_eq, if_neg h, ha, putL]
  have := t.eta
  rw [ha] at this
  exact this
theorem put_pair {v : Int} {b t x y : Tm} (h : ¬ (t.kind = 1 ∧ t.num = v)) (ha : t.args = [x, y]) : t.put v b = .mk t.kind t.num t.name [x.put v b, y.put v b] := by
  rw [put_eq, if_neg h, ha, putL, putL, putL]
theorem good_put {v : Int} {b : Tm} (hb : Good b) {t : Tm} (h : Good t) : Good (t.put v b) := by
  induction h with
  | nil => rw [put_atom (by simp [Tm.kind]) rfl]; exact .nil
  | var i h0 h1 =>
    by_cases hv : i = v
    · rw [put_var (t := .mk 1 i ⟨#[]⟩ []) ⟨rfl, hv⟩]; exact hb
    · rw [put_atom (t := .mk 1 i ⟨#[]⟩ []) (fun h => hv h.2) rfl]; exact .var i h0 h1
  | sym s h => rw [put_atom (by simp [Tm.kind]) rfl]; exact .sym s h
  | int i h0 h1 => rw [put_atom (by simp [Tm.kind]) rfl]; exact .int i h0 h1
  | pair x y hx hy ihx ihy => rw [put_pair (by simp [Tm.kind]) rfl]; exact .pair _ _ ihx ihy
theorem nodes_two (k i : Int) (s : ByteArray) (x y : Tm) : (Tm.mk k i s [x, y]).nodes = 1 + x.nodes + y.nodes := by rw [Tm.nodes, nodesL, nodesL, nodesL]; omega
theorem nodes_put {v : Int} {b t : Tm} (h : Good t) : (t.put v b).nodes + t.occ v = t.nodes + t.occ v * b.nodes := by
  induction h with
  | nil => rw [put_atom (by simp [Tm.kind]) rfl, occ_eq, if_neg (by simp [Tm.kind])]; simp [Tm.args, occL]
  | var i h0 h1 =>
    by_cases hv : i = v
    · rw [put_var (t := .mk 1 i ⟨#[]⟩ []) ⟨rfl, hv⟩, occ_eq v (.mk 1 i ⟨#[]⟩ []), if_pos ⟨rfl, hv⟩, Tm.nodes, nodesL]; omega
    · rw [put_atom (t := .mk 1 i ⟨#[]⟩ []) (fun h => hv h.2) rfl, occ_eq v (.mk 1 i ⟨#[]⟩ []), if_neg (fun h => hv h.2)]; simp [Tm.args, occL]
  | sym s h => rw [put_atom (by simp [Tm.kind]) rfl, occ_eq, if_neg (by simp [Tm.kind])]; simp [Tm.args, occL]
  | int i h0 h1 => rw [put_atom (by simp [Tm.kind]) rfl, occ_eq, if_neg (by simp [Tm.kind])]; simp [Tm.args, occL]
  | pair x y hx hy ihx ihy =>
    rw [put_pair (by simp [Tm.kind]) rfl, nodes_two, nodes_two, occ_eq, if_neg (by simp [Tm.kind])]
    show 1 + (x.put v b).nodes + (y.put v b).nodes + occL v [x, y] = 1 + x.nodes + y.nodes + occL v [x, y] * b.nodes
    rw [occL, occL, occL, Nat.add_zero, Nat.add_mul]
    omega

end Go.Proofs.Ytnmdnajbafpfiaa

namespace Go.Proofs.Ytnmdnajbafpfiaa
open Go.RowKit
set_option linter.unusedVariables false
set_option linter.unusedSimpArgs false

inductive ArgsS (w : World) (S : Nat → Prop) : Value → List Tm → Prop
  | nil (a : Option Addr) (cap : Nat) : ArgsS w S (.slice a 0 cap) []
  | row (g off n cap : Nat) (V : Nat → Value) (l : List Tm) (hn : n = l.length) (hS : S g) (hg : g < w.heap.size)
      (hc : ∀ j t, l[j]? = some t → ∀ i v, (cells4 t (V j))[i]? = some v → w.cell? ⟨g, off + (j * 4 + i), none⟩ = some v)
      (hr : ∀ j t, l[j]? = some t → ArgsS w S (V j) t.args) : ArgsS w S (.slice (some ⟨g, off, none⟩) n cap) l

theorem ArgsS.at {w : World} {S : Nat → Prop} {v : Value} {l : List Tm} (h : ArgsS w S v l) : ArgsAt w v l := by
  induction h with
  | nil a cap => exact .nil a cap
  | row g off n cap V l hn hS hg hc hr ih => exact .row g off n cap V l hn hg hc ih
theorem ArgsS.root {w : World} {S : Nat → Prop} {v : Value} {l : List Tm} (h : ArgsS w S v l) (hne : l ≠ []) : ∃ g off n cap, v = .slice (some ⟨g, off, none⟩) n cap ∧ S g := by
  cases h with
  | nil a cap => exact absurd rfl hne
  | row g off n cap V l hn hS hg hc hr => exact ⟨g, off, n, cap, rfl, hS⟩
theorem ArgsAt.inS {w : World} {v : Value} {l : List Tm} (h : ArgsAt w v l) : ArgsS w (fun k => k < w.heap.size) v l := by
  induction h with
  | nil a cap => exact .nil a cap
  | row g off n cap V l hn hg hc hr ih => exact .row g off n cap V l hn hg hg hc ih
theorem ArgsS.sub {w : World} {S S' : Nat → Prop} {v : Value} {l : List Tm} (h : ArgsS w S v l) (hS : ∀ k, S k → S' k) : ArgsS w S' v l := by
  induction h with
  | nil a cap => exact .nil a cap
  | row g off n cap V l hn hs hg hc hr ih => exact .row g off n cap V l hn (hS g hs) hg hc ih
theorem ArgsS.frame {w w' : World} {S : Nat → Prop} {v : Value} {l : List Tm} (h : ArgsS w S v l) (hs : w.heap.size ≤ w'.heap.size) (hb : ∀ k, S k → k < w.heap.size → w'.heap[k]? = w.heap[k]?) : ArgsS w' S v l := by
  induction h with
  | nil a cap => exact .nil a cap
  | row g off n cap V l hn hS hg hc hr ih =>
    exact .row g off n cap V l hn hS (Nat.lt_of_lt_of_le hg hs) (fun j t hj i v hv => (World.cell?_of_block (a := ⟨g, off + (j * 4 + i), none⟩) (hb g hS hg)).trans (hc j t hj i v hv)) ih
theorem ArgsS.kept {w w' : World} {S : Nat → Prop} {v : Value} {l : List Tm} (h : ArgsS w S v l) (hb : Below w.heap.size w w') : ArgsS w' S v l := h.frame hb.size fun k _ hk => hb.block k hk
theorem ArgsS.elem {w : World} {S : Nat → Prop} {a : Option Addr} {n cap : Nat} {l : List Tm} (h : ArgsS w S (.slice a n cap) l) {k : Nat} {x : Tm} (hx : l[k]? = some x) :
    ∃ g off u1 u2, a = some ⟨g, off, none⟩ ∧ g < w.heap.size ∧ n = l.length ∧
      (∀ W, Below w.heap.size w W → W.cell? ⟨g, off + k * 4, none⟩ = some (.int .i64 x.kind) ∧ W.cell? ⟨g, off + k * 4 + 1, none⟩ = some (.int .i64 x.num) ∧ W.cell? ⟨g, off + k * 4 + 2, none⟩ = some (.string x.name) ∧ W.cell? ⟨g, off + k * 4 + 3, none⟩ = some (.slice u1 x.args.length u2)) ∧
      ArgsS w S (.slice u1 x.args.length u2) x.args := by
  cases h with
  | nil => simp at hx
  | row g off n cap V l hn hS hg hc hr =>
    obtain ⟨u1, u2, hV⟩ := (hr k x hx).at.slice
    have cc : ∀ i v, (cells4 x (V k))[i]? = some v → w.cell? ⟨g, off + k * 4 + i, none⟩ = some v := fun i v hv => by rw [Nat.add_assoc]; exact hc k x hx i v hv
    refine ⟨g, off, u1, u2, rfl, hg, hn, fun W hW => ⟨(hW.cell (p := ⟨g, off + k * 4, none⟩) hg).trans (cc 0 _ rfl), (hW.cell (p := ⟨g, off + k * 4 + 1, none⟩) hg).trans (cc 1 _ rfl), (hW.cell (p := ⟨g, off + k * 4 + 2, none⟩) hg).trans (cc 2 _ rfl), ?_⟩, by have := hr k x hx; rwa [hV] at this⟩
    rw [← hV]
    exact (hW.cell (p := ⟨g, off + k * 4 + 3, none⟩) hg).trans (cc 3 _ rfl)
theorem ArgsS.two {w : World} {S : Nat → Prop} {a : Option Addr} {n cap : Nat} {l : List Tm} {x y : Tm} (h : ArgsS w S (.slice a n cap) l) (hl : l = [x, y]) :
    ∃ g off u1 u2 v1 v2, a = some ⟨g, off, none⟩ ∧ g < w.heap.size ∧ n = 2 ∧
      (∀ W, Below w.heap.size w W → W.cell? ⟨g, off, none⟩ = some (.int .i64 x.kind) ∧ W.cell? ⟨g, off + 1, none⟩ = some (.int .i64 x.num) ∧ W.cell? ⟨g, off + 2, none⟩ = some (.string x.name) ∧ W.cell? ⟨g, off + 3, none⟩ = some (.slice u1 x.args.length u2)) ∧
      (∀ W, Below w.heap.size w W → W.cell? ⟨g, off + 4, none⟩ = some (.int .i64 y.kind) ∧ W.cell? ⟨g, off + 4 + 1, none⟩ = some (.int .i64 y.num) ∧ W.cell? ⟨g, off + 4 + 2, none⟩ = some (.string y.name) ∧ W.cell? ⟨g, off + 4 + 3, none⟩ = some (.slice v1 y.args.length v2)) ∧
      ArgsS w S (.slice u1 x.args.length u2) x.args ∧ ArgsS w S (.slice v1 y.args.length v2) y.args := by
  obtain ⟨g, off, u1, u2, rfl, hg, hn, hc, hx⟩ := h.elem (k := 0) (x := x) (by rw [hl]; rfl)
  obtain ⟨g', off', v1, v2, he, hg', hn', hc', hy⟩ := h.elem (k := 1) (x := y) (by rw [hl]; rfl)
  simp only [Option.some.injEq, Addr.mk.injEq, and_true] at he
  obtain ⟨rfl, rfl⟩ := he
  refine ⟨g, off, u1, u2, v1, v2, rfl, hg, by rw [hn, hl]; rfl, fun W hW => ?_, fun W hW => ?_, hx, hy⟩
  · have := hc W hW
    simpa using this
  · have := hc' W hW
    simpa using this
theorem argsS_pair {w : World} {S : Nat → Prop} {e : TypeId} {g : Nat} {a b : Tm} {Va Vb : Value} (h : w.heap[g]? = some (.cells #[.int .i64 a.kind, .int .i64 a.num, .string a.name, Va, .int .i64 b.kind, .int .i64 b.num, .string b.name, Vb] e)) (hg : g < w.heap.size) (hS : S g)
    (ha : ArgsS w S Va a.args) (hb : ArgsS w S Vb b.args) : ArgsS w S (.slice (some ⟨g, 0, none⟩) 2 2) [a, b] := by
  have hr := row_pair h
  refine .row g 0 2 2 (fun j => if j = 0 then Va else Vb) _ rfl hS hg ?_ ?_
  · intro j t hj i v hv
    match j, hj with
    | 0, hj =>
      simp at hj; subst hj
      simp only [if_pos] at hv
      have hi : i < 4 := by have := (List.getElem?_eq_some_iff.1 hv).1; simpa [cells4] using this
      rw [Nat.zero_add, World.ownsRow.cellAt hr _ (by omega)]
      exact cellsL_at (L := [(a, Va), (b, Vb)]) (j := 0) rfl hv
    | 1, hj =>
      simp at hj; subst hj
      simp only [if_neg (show ¬ (1 : Nat) = 0 from by omega)] at hv
      have hi : i < 4 := by have := (List.getElem?_eq_some_iff.1 hv).1; simpa [cells4] using this
      rw [Nat.zero_add, World.ownsRow.cellAt hr _ (by omega)]
      exact cellsL_at (L := [(a, Va), (b, Vb)]) (j := 1) rfl hv
    | j + 2, hj => simp at hj
  · intro j t hj
    match j, hj with
    | 0, hj => simp at hj; subst hj; simpa using ha
    | 1, hj => simp at hj; subst hj; simpa using hb
    | j + 2, hj => simp at hj

/-- The answer is a term that can be read: what was there before in S, and what is new. -/
def OldS (S : Nat → Prop) (t : Tm) (w : World) (e : Ending) (w' : World) : Prop :=
  ∃ u, e = .returned (.agg #[.int .i64 t.kind, .int .i64 t.num, .string t.name, u]) ∧ ArgsS w' (fun k => S k ∨ (w.heap.size ≤ k ∧ k < w'.heap.size)) u t.args ∧ Below w.heap.size w w'
/-- The same, its new blocks counted from an elder world. -/
theorem OldS.from {S : Nat → Prop} {t : Tm} {w0 w : World} {e : Ending} {w' : World} (h : OldS S t w e w') (hs : w0.heap.size ≤ w.heap.size) :
    ∃ u, e = .returned (.agg #[.int .i64 t.kind, .int .i64 t.num, .string t.name, u]) ∧ ArgsS w' (fun k => S k ∨ (w0.heap.size ≤ k ∧ k < w'.heap.size)) u t.args ∧ Below w.heap.size w w' := by
  obtain ⟨u, he, ha, hb⟩ := h
  exact ⟨u, he, ha.sub fun k hk => hk.imp id fun h => ⟨by omega, h.2⟩, hb⟩
theorem OldS.old {S : Nat → Prop} {t : Tm} {w w' : World} {e : Ending} (h : OldS S t w e w') : OldTm t w e w' := by
  obtain ⟨u, he, ha, hb⟩ := h
  exact ⟨u, he, ha.at, hb⟩

/-- The result's variable written, the term in it reads on: nothing that it reaches is that variable. -/
theorem oldS_end {P : Program} {fn : Func} {t : Tm} {k i : Int} {s : ByteArray} {S : Nat → Prop} {w W wE : World} {a : Act} {p : Tmp} {b : Nat} {x0 x1 x2 x3 u : Value} {fs : Array Field} (h1 : t.kind = k) (h2 : t.num = i) (h3 : t.name = s) (h : fn.results = #[.cell p 28]) (hp : a.tmps.getD p undef = .pointer (some ⟨b, 0, none⟩)) (hd : a.defers = [])
    (hu : P.underlying 28 = some (.struct fs)) (hi : (P.info? 28).map (·.size) = some 4) (hb : wE.heap[b]? = some (Obj.cells #[x0, x1, x2, x3] 28))
    (hS : ∀ k, S k → k < w.heap.size) (hW : Below w.heap.size w W) (hE : Below W.heap.size W wE) (hb1 : w.heap.size ≤ b) (hb2 : b < W.heap.size) (hn : ArgsS wE (fun k => S k ∨ (W.heap.size ≤ k ∧ k < wE.heap.size)) u t.args) :
    bodyPost P fn (OldS S t w) .ret a ((((wE.setCell ⟨b, 0, none⟩ (.int .i64 k)).setCell ⟨b, 1, none⟩ (.int .i64 i)).setCell ⟨b, 2, none⟩ (.string s)).setCell ⟨b, 3, none⟩ u) := by
  subst h1
  subst h2
  subst h3
  refine bodyPost_four h hp hd hu rfl hi hb fun w' hw => ⟨u, rfl, ?_, ?_⟩
  · have s1 := hW.size
    have s2 := hw.size
    refine (hn.frame hw.size fun k hk _ => hw.block k (by
      rcases hk with hk | hk
      · have := hS k hk; omega
      · omega) fun e => ?_).sub fun k hk => ?_
    · rcases hk with hk | hk
      · have := hS k hk; omega
      · omega
    · rcases hk with hk | hk
      · exact .inl hk
      · exact .inr ⟨by omega, by omega⟩
  · have h5 := belowOn hW (Nat.le_refl _) hE
    exact h5.trans (hw.below (fun k hk => by omega) h5.size)

theorem results_cell_row2 {P : Program} {fn : Func} {p q : Tmp} {ty : TypeId} (h : fn.results = #[.cell p ty, .tmp q]) (tmps : Array Value) (w : World) (g : Nat) (t : TypeId) (cs : Array Value) (fr : Nat × Nat) (d : TypeDesc)
    (hp : tmps.getD p undef = .pointer (some ⟨g, 0, none⟩)) (hg : w.heap[g]? = some (.cells cs t fr))
    (hu : P.underlying ty = some d) (hd : (match d with | .struct _ | .array _ _ => true | _ => false) = true) (hi : (P.info? ty).map (·.size) = some cs.size) :
    (results fn tmps).run P w = .ok (.tuple #[.agg cs, tmps.getD q undef]) w := by
  have hp' : tmps[p]?.getD undef = .pointer (some ⟨g, 0, none⟩) := by simpa using hp
  simp [results, h, hp', asAddr, run_loadVar_row w g t ty cs fr d hg hu hd hi]
/-- The return of a struct of four cells that has just been stored into the result's variable, and of a second result. -/
theorem bodyPost_four2 {P : Program} {fn : Func} {R : Ending → World → Prop} {a : Act} {w : World} {p q : Tmp} {ty e : TypeId} {b : Nat} {x0 x1 x2 x3 y0 y1 y2 y3 z : Value} {d : TypeDesc} (h : fn.results = #[.cell p ty, .tmp q]) (hp : a.tmps.getD p undef = .pointer (some ⟨b, 0, none⟩)) (hq : a.tmps.getD q undef = z) (hd : a.defers = [])
    (hu : P.underlying ty = some d) (hdd : (match d with | .struct _ | .array _ _ => true | _ => false) = true) (hi : (P.info? ty).map (·.size) = some 4) (hb : w.heap[b]? = some (Obj.cells #[x0, x1, x2, x3] e))
    (hR : ∀ w', Only (fun k => k = b) w w' → R (.returned (.tuple #[.agg #[y0, y1, y2, y3], z])) w') :
    bodyPost P fn R .ret a ((((w.setCell ⟨b, 0, none⟩ y0).setCell ⟨b, 1, none⟩ y1).setCell ⟨b, 2, none⟩ y2).setCell ⟨b, 3, none⟩ y3) := by
  subst hq
  have h0 := heap_setCell_same w b 0 _ e y0 hb
  have h1 := heap_setCell_same _ b 1 _ e y1 h0
  have h2 := heap_setCell_same _ b 2 _ e y2 h1
  have h3 := heap_setCell_same _ b 3 _ e y3 h2
  refine bodyPost_ret (results_cell_row2 h _ _ b e #[y0, y1, y2, y3] (0, 0) d hp h3 hu hdd hi) hd (hR _ ?_)
  have one : ∀ (W : World) (j : Nat) (u : Value), Only (fun k => k = b) W (W.setCell ⟨b, j, none⟩ u) := fun W j u => ⟨rfl, rfl, rfl, by simp, fun k _ hk => Below.heap_setCell _ _ _ _ hk⟩
  exact (((one _ _ _).trans (one _ _ _)).trans (one _ _ _)).trans (one _ _ _)
/-- The answer: a new term and a yes or no. -/
def NewTm2 (t : Tm) (b : Bool) (w : World) (e : Ending) (w' : World) : Prop := ∃ u, e = .returned (.tuple #[.agg #[.int .i64 t.kind, .int .i64 t.num, .string t.name, u], .bool b]) ∧ NewTree t.args w u w'
theorem newTm2_end {P : Program} {fn : Func} {t : Tm} {k i : Int} {s : ByteArray} {B : Bool} {w W wE : World} {a : Act} {p q : Tmp} {b : Nat} {x0 x1 x2 x3 u : Value} {fs : Array Field} (h1 : t.kind = k) (h2 : t.num = i) (h3 : t.name = s) (h : fn.results = #[.cell p 28, .tmp q]) (hp : a.tmps.getD p undef = .pointer (some ⟨b, 0, none⟩)) (hq : a.tmps.getD q undef = .bool B) (hd : a.defers = [])
    (hu : P.underlying 28 = some (.struct fs)) (hi : (P.info? 28).map (·.size) = some 4) (hb : wE.heap[b]? = some (Obj.cells #[x0, x1, x2, x3] 28))
    (hW : Below w.heap.size w W) (hb1 : w.heap.size ≤ b) (hb2 : b < W.heap.size) (hn : NewTree t.args W u wE) :
    bodyPost P fn (NewTm2 t B w) .ret a ((((wE.setCell ⟨b, 0, none⟩ (.int .i64 k)).setCell ⟨b, 1, none⟩ (.int .i64 i)).setCell ⟨b, 2, none⟩ (.string s)).setCell ⟨b, 3, none⟩ u) := by
  subst h1
  subst h2
  subst h3
  refine bodyPost_four2 h hp hq hd hu rfl hi hb fun w' hw => ⟨_, rfl, NewTree.after hn hW (hw.sub fun k hk => ?_)⟩
  subst hk
  unfold iv
  omega
def zeroTm : Tm := .mk 0 0 ⟨#[]⟩ []
theorem zero_new {w w' : World} (hb : Below w.heap.size w w') : NewTree zeroTm.args w (.slice none 0 0) w' := ⟨.nil _, hb⟩

/-! ### Atoms of the model -/
set_option maxHeartbeats 400000 in
theorem num_any (n : Int) (w : World) : Calls Try.prog 84 #[.int .i64 n] w fun e w' => e = .returned (.agg #[.int .i64 3, .int .i64 n, .string ⟨#[]⟩, .slice none 0 0]) ∧ Below w.heap.size w w' := by
  go_enter Try.func84, Try.ntmps84
  go_wp2
  exact bodyPost_ret (v := .agg #[.int .i64 3, .int .i64 n, .string ⟨#[]⟩, .slice none 0 0]) (by simp [results, Try.results84, go_sem]) rfl ⟨rfl, (Below.refl _ _).alloc (Nat.le_refl _) _⟩
set_option maxHeartbeats 400000 in
theorem var_any (n : Int) (w : World) : Calls Try.prog 67 #[.int .i64 n] w fun e w' => e = .returned (.agg #[.int .i64 1, .int .i64 n, .string ⟨#[]⟩, .slice none 0 0]) ∧ Below w.heap.size w w' := by
  go_enter Try.func67, Try.ntmps67
  go_wp2
  exact bodyPost_ret (v := .agg #[.int .i64 1, .int .i64 n, .string ⟨#[]⟩, .slice none 0 0]) (by simp [results, Try.results67, go_sem]) rfl ⟨rfl, (Below.refl _ _).alloc (Nat.le_refl _) _⟩
set_option maxHeartbeats 400000 in
theorem sym_any (s : ByteArray) (w : World) : Calls Try.prog 85 #[.string s] w fun e w' => e = .returned (.agg #[.int .i64 2, .int .i64 0, .string s, .slice none 0 0]) ∧ Below w.heap.size w w' := by
  go_enter Try.func85, Try.ntmps85
  go_wp2
  exact bodyPost_ret (v := .agg #[.int .i64 2, .int .i64 0, .string s, .slice none 0 0]) (by simp [results, Try.results85, go_sem]) rfl ⟨rfl, (Below.refl _ _).alloc (Nat.le_refl _) _⟩
end Go.Proofs.Ytnmdnajbafpfiaa

