/-
  The program's over and Generalize. (Written by wip/tools/gen_over.py.)
-/
import Derived.Test.YtoihimdfmncdoaaOverA
import Derived.Test.YtoihimdfmncdoaaSpecGenC
namespace Go.Proofs.Ytoihimdfmncdoaa
open Go.RowKit
set_option linter.unusedVariables false
set_option linter.unusedSimpArgs false

theorem gen_lens (n : Nat) : ∀ (l : List Tm) (k : List (List Tm)), (∀ x ∈ k, x.length = l.length) → ∀ x ∈ (genF n l k).2, x.length = l.length := by
  induction n with
  | zero => intro l k h; rw [genF]; exact h
  | succ n ih =>
    intro l k h
    rw [genF]
    split
    · have h1 := ih (l.map headT) k (by rw [List.length_map]; exact h)
      rw [List.length_map] at h1
      have h2 := ih (l.map tailT) (genF n (l.map headT) k).2 (by rw [List.length_map]; exact h1)
      rw [List.length_map] at h2
      exact h2
    · split
      · exact h
      · intro x hx
        have hx' : x ∈ kAdd k l := hx
        unfold kAdd at hx'
        split at hx'
        · exact h x hx'
        · rcases List.mem_append.1 hx' with hx' | hx'
          · exact h x hx'
          · rw [List.mem_singleton.1 hx']
theorem lst_nodes_le (l : List Tm) : (lstT l).nodes = 1 + l.length + nodesL l := by
  have key : ∀ (l : List Tm) (a : Tm), (l.foldl (fun a p => Tm.mk 4 0 ⟨#[]⟩ [p, a]) a).nodes = a.nodes + l.length + nodesL l := by
    intro l
    induction l with
    | nil => intro a; rw [nodesL]; rfl
    | cons x l ih =>
      intro a
      rw [List.foldl_cons, ih, nodesL, List.length_cons, nodes_eq]
      show 1 + nodesL [x, a] + _ + _ = _
      rw [nodesL, nodesL, nodesL]
      omega
  unfold lstT
  rw [key, nodes_eq]
  show 1 + nodesL [] + _ + _ = _
  rw [nodesL]
theorem nodesL_parts (l : List Tm) : (∀ t ∈ l, ∃ y z, t.args = [y, z]) → nodesL (l.map headT) + nodesL (l.map tailT) + l.length ≤ nodesL l := by
  induction l with
  | nil => intro _; rw [List.map_nil, List.map_nil, nodesL]; simp
  | cons t l ih =>
    intro h
    obtain ⟨y, z, hyz⟩ := h t (List.mem_cons_self ..)
    have h1 := ih fun u hu => h u (List.mem_cons_of_mem _ hu)
    obtain ⟨e1, e2⟩ := head_args hyz
    have h2 : t.nodes = 1 + (y.nodes + (z.nodes + 0)) := by rw [nodes_eq, hyz, nodesL, nodesL, nodesL]
    rw [List.map_cons, List.map_cons, nodesL, nodesL, nodesL, e1, e2, List.length_cons]
    omega
/-- What over answers. -/
def OverR (b b2 : Nat) (t : Tm) (k' : List (List Tm)) (N : Nat) (w : World) (e : Ending) (w' : World) : Prop :=
  ∃ (u : Value) (ν' : Tm → Option Nat) (n' : Nat) (F' : Sh → Option Nat) (G' : Int → Option Nat), e = .returned (.agg #[.int .i64 t.kind, .int .i64 t.num, .string t.name, u]) ∧ GenW b b2 ν' n' F' k' G' w' ∧ n' ≤ N ∧ Own w' 25 (iv w.heap.size w'.heap.size) u t.args ∧ Only (fun j => j = b ∨ j = b2) w w'
theorem over_end {P : Program} {fn : Func} {b b2 : Nat} {t : Tm} {k' : List (List Tm)} {N lo : Nat} {k i : Int} {s : ByteArray} {w wE : World} {a : Act} {p : Tmp} {m : Nat} {x0 x1 x2 x3 u : Value} {fs : Array Field} (h1 : t.kind = k) (h2 : t.num = i) (h3 : t.name = s) (h : fn.results = #[.cell p 25]) (hp : a.tmps.getD p undef = .pointer (some ⟨m, 0, none⟩)) (hd : a.defers = [])
    (hu : P.underlying 25 = some (.struct fs)) (hi : (P.info? 25).map (·.size) = some 4) (hb : wE.heap[m]? = some (Obj.cells #[x0, x1, x2, x3] 25))
    (hm : w.heap.size ≤ m) (hlo : m < lo) (hbm : b < w.heap.size ∧ b2 < w.heap.size) (hG : ∃ (ν' : Tm → Option Nat) (n' : Nat) (F' : Sh → Option Nat) (G' : Int → Option Nat), GenW b b2 ν' n' F' k' G' wE ∧ n' ≤ N) (hO : Only (fun j => j = b ∨ j = b2) w wE) (hn : Own wE 25 (iv lo wE.heap.size) u t.args) :
    bodyPost P fn (OverR b b2 t k' N w) .ret a ((((wE.setCell ⟨m, 0, none⟩ (.int .i64 k)).setCell ⟨m, 1, none⟩ (.int .i64 i)).setCell ⟨m, 2, none⟩ (.string s)).setCell ⟨m, 3, none⟩ u) := by
  subst h1
  subst h2
  subst h3
  obtain ⟨ν', n', F', G', g1, g2⟩ := hG
  refine bodyPost_four h hp hd hu rfl hi hb fun w' hw => ⟨u, ν', n', F', G', rfl, g1.off hw (by omega) (by omega), g2, ?_, ?_⟩
  · refine (hn.frame fun j hj hjs => hw.block j hjs (by have := hj.1; omega)).sub fun j hj => ?_
    have := hw.size
    unfold iv at hj ⊢
    omega
  · exact ⟨hw.os.trans hO.os, hw.tape.trans hO.tape, hw.output.trans hO.output, Nat.le_trans hO.size hw.size, fun j hj hn => (hw.block j (Nat.lt_of_lt_of_le hj hO.size) (by omega)).trans (hO.block j hj hn)⟩
/-- over's boxes: the generalizer's, the result's. -/
structure BxO (b b2 m : Nat) (W : World) : Prop where
  fg : W.heap[m]? = some (.cells #[.map (some b), .map (some b2)] 63)
  fr : W.heap[m + 1]? = some (.cells #[.int .i64 0, .int .i64 0, .string ⟨#[]⟩, .slice none 0 0] 25)
theorem BxO.kept {b b2 m : Nat} {W W' : World} (H : BxO b b2 m W) (hb : Below W.heap.size W W') : BxO b b2 m W' :=
  ⟨(hb.block _ (Array.getElem?_eq_some_iff.1 H.fg).1).trans H.fg, (hb.block _ (Array.getElem?_eq_some_iff.1 H.fr).1).trans H.fr⟩
theorem BxO.maps {b b2 m : Nat} {W W' : World} {T : Nat → Prop} (H : BxO b b2 m W) (ho : Only T W W') (hT : ∀ k, T k → k < W.heap.size → isMp W.heap[k]?) : BxO b b2 m W' := ⟨box_maps H.fg ho hT, box_maps H.fr ho hT⟩

set_option maxRecDepth 100000 in
set_option maxHeartbeats 8000000 in
theorem over_any (b b2 : Nat) (hbb : ¬ b = b2) (fuel : Nat) : ∀ (l : List Tm) (V : Value) (ν : Tm → Option Nat) (n : Nat) (F : Sh → Option Nat) (k : List (List Tm)) (G : Int → Option Nat) (f : Tm) (w : World), GenW b b2 ν n F k G w → ArgsAt w V l → l[0]? = some f → (∀ t ∈ l, Good t) → (∀ t ∈ l, t.nodes ≤ 5000) → l.length ≤ 1048576 → (∀ x ∈ k, x.length = l.length) → k.length + f.nodes ≤ 1000000 → f.nodes ≤ fuel → n + nodesL l + f.nodes * (l.length + 1) ≤ 1000000000 →
    Calls Try.prog 46 #[.agg #[.map (some b), .map (some b2)], V] w (OverR b b2 (genF fuel l k).1 (genF fuel l k).2 (n + nodesL l + f.nodes * (l.length + 1)) w) := by
  induction fuel with
  | zero => intro l V ν n F k G f w _ _ _ _ _ _ _ _ h; have := nodes_pos f; omega
  | succ fuel ih =>
    intro l V ν n F k G f w hW hA hf hg h5 hL hk hkn hfn hn
    obtain ⟨aa, ac, rfl⟩ := hA.slice
    have HI := Lib.hid ih
    have HFE := Lib.hid hf
    have HG := Lib.hid (And.intro hg h5)
    have HK := Lib.hid hk
    have HN := Lib.hid (And.intro hkn (And.intro hfn (And.intro hn hL)))
    have HLT := Lib.hid hW.lt
    have hl0 : 0 < l.length := (List.getElem?_eq_some_iff.1 hf).1
    have hb1 : Below w.heap.size w ((w.alloc (.cells #[.map (some b), .map (some b2)] 63)).alloc (.cells #[.int .i64 0, .int .i64 0, .string ⟨#[]⟩, .slice none 0 0] 25)) := belowAlloc (belowAlloc (Below.refl _ _) _) _
    have HB := Lib.hid hb1
    have HS := Lib.hid (hW.kept hb1)
    have HA := Lib.hid (hA.kept hb1)
    have HBX : Hid (BxO b b2 w.heap.size ((w.alloc (.cells #[.map (some b), .map (some b2)] 63)).alloc (.cells #[.int .i64 0, .int .i64 0, .string ⟨#[]⟩, .slice none 0 0] 25))) := Lib.hid ⟨(Below.heap_alloc _ _ _ (by simp)).trans (heap_new w _), by
      have := heap_new (w.alloc (.cells #[.map (some b), .map (some b2)] 63)) (.cells #[.int .i64 0, .int .i64 0, .string ⟨#[]⟩, .slice none 0 0] 25)
      rwa [World.size_alloc] at this⟩
    clear ih hf hg h5 hk hkn hfn hn hW hA hb1
    go_enter Try.func46, Try.ntmps46
    go_upto_region 1 with (fail)
    generalize hw1 : (w.alloc (.cells #[.map (some b), .map (some b2)] 63)).alloc (.cells #[.int .i64 0, .int .i64 0, .string ⟨#[]⟩, .slice none 0 0] 25) = w1 at HB HS HA HBX ⊢
    clear hw1
    have HC := Lib.hid (containsP_any (fun x => !decide (x.kind = 4)) l _ w1 HA.out (by have := HN.out.2.2.2; omega) (fun j x hx U W hW hU => notPair_any x U W hU))
    obtain ⟨q, hq⟩ : ∃ q, (l.any fun x => !decide (x.kind = 4)) = q := ⟨_, rfl⟩
    rw [hq] at HC
    have HQ := Lib.hid hq
    clear hq
    go_wp2_with fail
    refine HC.out.mono ?_
    rintro e w2 ⟨rfl, hb⟩
    replace HB := Lib.hid (belowOn HB.out (Nat.le_refl _) hb)
    replace HS := Lib.hid (HS.out.kept hb)
    replace HA := Lib.hid (HA.out.kept hb)
    replace HBX := Lib.hid (HBX.out.kept hb)
    clear hb HC
    have HZ := Lib.hid (And.intro (Array.getElem?_eq_some_iff.1 HBX.out.fg).1 (Array.getElem?_eq_some_iff.1 HBX.out.fr).1)
    cases q with
    | false =>
      have HP : Hid (AllPair l) := Lib.hid fun t ht => by
        have := List.any_eq_false.1 HQ.out t ht
        simpa using this
      go_upto_region 2 with (fail)
      have HPT : Hid (∀ t ∈ l, ∃ y z, t.args = [y, z] ∧ headT t = y ∧ tailT t = z ∧ Good y ∧ Good z ∧ t.nodes = 1 + (y.nodes + z.nodes)) := Lib.hid fun t ht => by
        obtain ⟨y, z, rfl, hy, hz⟩ := good_pair (HG.out.1 t ht) (HP.out t ht)
        refine ⟨y, z, rfl, rfl, rfl, hy, hz, ?_⟩
        rw [nodes_eq]
        show 1 + nodesL [y, z] = _
        rw [nodesL, nodesL, nodesL]
        omega
      obtain ⟨y, z, hyz, hhy, htz, hgy, hgz, hnyz⟩ := HPT.out f (List.mem_of_getElem? HFE.out)
      have HFN := Lib.hid hnyz
      have HH : Hid ((l.map headT)[0]? = some y ∧ (∀ t ∈ l.map headT, Good t) ∧ (∀ t ∈ l.map headT, t.nodes ≤ 5000) ∧ (l.map headT).length = l.length) := Lib.hid ⟨by rw [List.getElem?_map, HFE.out, Option.map_some, hhy], fun t ht => by obtain ⟨u, hu, rfl⟩ := List.mem_map.1 ht; obtain ⟨_, _, _, h1, _, h2, _⟩ := HPT.out u hu; rw [h1]; exact h2, fun t ht => by obtain ⟨u, hu, rfl⟩ := List.mem_map.1 ht; obtain ⟨_, _, _, h1, _, _, _, h2⟩ := HPT.out u hu; have := HG.out.2 u hu; rw [h1]; omega, by rw [List.length_map]⟩
      have HTL : Hid ((l.map tailT)[0]? = some z ∧ (∀ t ∈ l.map tailT, Good t) ∧ (∀ t ∈ l.map tailT, t.nodes ≤ 5000) ∧ (l.map tailT).length = l.length) := Lib.hid ⟨by rw [List.getElem?_map, HFE.out, Option.map_some, htz], fun t ht => by obtain ⟨u, hu, rfl⟩ := List.mem_map.1 ht; obtain ⟨_, _, _, _, h1, _, h2, _⟩ := HPT.out u hu; rw [h1]; exact h2, fun t ht => by obtain ⟨u, hu, rfl⟩ := List.mem_map.1 ht; obtain ⟨_, _, _, _, h1, _, _, h2⟩ := HPT.out u hu; have := HG.out.2 u hu; rw [h1]; omega, by rw [List.length_map]⟩
      have HSUM : Hid (nodesL (l.map headT) + nodesL (l.map tailT) + l.length ≤ nodesL l) := Lib.hid (nodesL_parts l fun t ht => by obtain ⟨y, z, h, _⟩ := HPT.out t ht; exact ⟨y, z, h⟩)
      have HMUL : Hid (f.nodes * (l.length + 1) = (l.length + 1) + (y.nodes * (l.length + 1) + z.nodes * (l.length + 1))) := Lib.hid (by rw [HFN.out, Nat.add_mul, Nat.add_mul, Nat.one_mul])
      have HGF : Hid ((genF (fuel + 1) l k).1 = .mk 4 0 ⟨#[]⟩ [(genF fuel (l.map headT) k).1, (genF fuel (l.map tailT) (genF fuel (l.map headT) k).2).1] ∧ (genF (fuel + 1) l k).2 = (genF fuel (l.map tailT) (genF fuel (l.map headT) k).2).2) := Lib.hid (by rw [genF_pair HP.out]; exact ⟨rfl, rfl⟩)
      have HLN : Hid ((genF fuel (l.map headT) k).2.length ≤ k.length + y.nodes ∧ ∀ x ∈ (genF fuel (l.map headT) k).2, x.length = l.length) := Lib.hid ⟨gen_len fuel (l.map headT) k y HH.out.1 HH.out.2.1, by have := gen_lens fuel (l.map headT) k (by rw [List.length_map]; exact HK.out); rw [List.length_map] at this; exact this⟩
      obtain ⟨T0, hT0⟩ : ∃ t, (genF fuel (l.map headT) k).1 = t := ⟨_, rfl⟩
      obtain ⟨K1, hK1⟩ : ∃ t, (genF fuel (l.map headT) k).2 = t := ⟨_, rfl⟩
      have HT0 := Lib.hid hT0
      have HK1 := Lib.hid hK1
      rw [hT0, hK1] at HGF
      rw [hK1] at HLN
      have hself : Below w2.heap.size w2 w2 := Below.refl _ _
      have hdrew : Below w2.heap.size w2 w2.drew := hself.drew
      have HE1 : Hid (∀ W, Below w2.heap.size w2 W → Calls Try.prog 74 #[.slice aa l.length ac, .func (.func 93) #[] #[]] W fun e wm => ∃ (hu : Value), e = .returned hu ∧ (wm.cell? ⟨w.heap.size, 0, none⟩ = some (.map (some b)) ∧ wm.cell? ⟨w.heap.size, 1, none⟩ = some (.map (some b2))) ∧ Hid (Below W.heap.size W wm) ∧ Hid (∀ W2, Below wm.heap.size wm W2 → Calls Try.prog 46 #[.agg #[.map (some b), .map (some b2)], hu] W2 fun e wn => ∃ (a0 : Option Addr) (c0 : Nat), e = .returned (.agg #[.int .i64 T0.kind, .int .i64 T0.num, .string T0.name, .slice a0 T0.args.length c0]) ∧ (wn.cell? ⟨w.heap.size, 0, none⟩ = some (.map (some b)) ∧ wn.cell? ⟨w.heap.size, 1, none⟩ = some (.map (some b2))) ∧
          Hid (BxO b b2 w.heap.size wn ∧ ArgsS wn (fun j => j < w2.heap.size) (.slice aa l.length ac) l ∧ Own wn 25 (iv W2.heap.size wn.heap.size) (.slice a0 T0.args.length c0) T0.args ∧ Only (fun j => j = b ∨ j = b2) w wn ∧ w2.heap.size ≤ W2.heap.size ∧ W2.heap.size ≤ wn.heap.size ∧ ∀ (b0 : Nat) (cs : Array Value) (t : TypeId) (fr : Nat × Nat), W2.heap[b0]? = some (.cells cs t fr) → wn.heap[b0]? = some (.cells cs t fr)) ∧ Hid (∃ (ν1 : Tm → Option Nat) (n1 : Nat) (F1 : Sh → Option Nat) (G1 : Int → Option Nat), GenW b b2 ν1 n1 F1 K1 G1 wn ∧ n1 ≤ n + nodesL (l.map headT) + y.nodes * (l.length + 1)))) := Lib.hid fun W hW => by
        refine (eachHead_any l _ W (HA.out.kept hW) HP.out HG.out.1 HN.out.2.2.2).mono ?_
        rintro e wm ⟨hu, rfl, hua, hb⟩
        have hWm := belowOn hW (Nat.le_refl _) hb
        have hBm := HBX.out.kept hWm
        refine ⟨hu, rfl, cells2_of hBm.fg, Lib.hid hb, Lib.hid fun W2 hW2 => ?_⟩
        have hW2m := belowOn hWm (Nat.le_refl _) hW2
        have hc := HI.out (l.map headT) hu ν n F k G y W2 (HS.out.kept hW2m) (hua.kept hW2) HH.out.1 HH.out.2.1 HH.out.2.2.1 (by rw [HH.out.2.2.2]; exact HN.out.2.2.2) (by rw [HH.out.2.2.2]; exact HK.out) (by have := HN.out.1; have := HFN.out; omega) (by have := HN.out.2.1; have := HFN.out; have := nodes_pos z; omega) (by rw [HH.out.2.2.2]; have := HN.out.2.2.1; have := HMUL.out; have := HSUM.out; omega)
        rw [HH.out.2.2.2, HT0.out, HK1.out] at hc
        refine hc.mono ?_
        rintro e wn ⟨u, ν1, n1, F1, G1, rfl, g1, g2, g3, g4⟩
        obtain ⟨a0, c0, rfl⟩ := g3.argsAt.slice
        have hmp := (HS.out.kept hW2m).maps
        have hBn := (hBm.kept hW2).maps g4 hmp
        exact ⟨a0, c0, rfl, cells2_of hBn.fg, Lib.hid ⟨hBn, (HA.out.inS.kept hW2m).maps g4 hmp, g3, ((Only.of_below HB.out).trans (Only.of_below hW2m)).trans g4, hW2m.size, g4.size, fun b0 cs t fr h => box_maps h g4 hmp⟩, Lib.hid ⟨ν1, n1, F1, G1, g1, g2⟩⟩
      obtain ⟨k0, k1⟩ := cells2_of HBX.out.fg
      have y1 := HZ.out.1
      clear hT0 hK1 hyz hhy htz hgy hgz hnyz
      have HWL := Lib.hid (HB.out.size)
      go_cut [5] from 10 to 13 (fun v wx => ∃ (n5 : Nat) (a0 : Option Addr) (c0 : Nat), v = .pointer (some ⟨n5, 0, none⟩) ∧ Hid (BxO b b2 w.heap.size wx ∧ ArgsAt wx (.slice aa l.length ac) l ∧ Only (fun j => j = b ∨ j = b2) w wx ∧ (w2.heap.size ≤ wx.heap.size ∧ w2.heap.size ≤ n5) ∧ wx.heap[n5]? = some (.cells #[.int .i64 T0.kind, .int .i64 T0.num, .string T0.name, .slice a0 T0.args.length c0] 25) ∧ (∃ lo hi, w2.heap.size ≤ lo ∧ hi ≤ wx.heap.size ∧ Own wx 25 (iv lo hi) (.slice a0 T0.args.length c0) T0.args) ∧ ∃ (ν1 : Tm → Option Nat) (n1 : Nat) (F1 : Sh → Option Nat) (G1 : Int → Option Nat), GenW b b2 ν1 n1 F1 K1 G1 wx ∧ n1 ≤ n + nodesL (l.map headT) + y.nodes * (l.length + 1)))
      case first =>
        have FIN : Hid (∀ (wn wx : World) (n5 : Nat) (lo : Nat) (a0 : Option Addr) (c0 : Nat), (BxO b b2 w.heap.size wn ∧ ArgsS wn (fun j => j < w2.heap.size) (.slice aa l.length ac) l ∧ Own wn 25 (iv lo wn.heap.size) (.slice a0 T0.args.length c0) T0.args ∧ Only (fun j => j = b ∨ j = b2) w wn ∧ w2.heap.size ≤ lo ∧ lo ≤ wn.heap.size) → (∃ (ν1 : Tm → Option Nat) (n1 : Nat) (F1 : Sh → Option Nat) (G1 : Int → Option Nat), GenW b b2 ν1 n1 F1 K1 G1 wn ∧ n1 ≤ n + nodesL (l.map headT) + y.nodes * (l.length + 1)) → w2.heap.size ≤ n5 → (n5 < lo ∨ wn.heap.size ≤ n5) → (wx.heap[n5]? = some (.cells #[.int .i64 T0.kind, .int .i64 T0.num, .string T0.name, .slice a0 T0.args.length c0] 25) ∧ Only (fun k => k = n5) wn wx) →
            Hid (BxO b b2 w.heap.size wx ∧ ArgsAt wx (.slice aa l.length ac) l ∧ Only (fun j => j = b ∨ j = b2) w wx ∧ (w2.heap.size ≤ wx.heap.size ∧ w2.heap.size ≤ n5) ∧ wx.heap[n5]? = some (.cells #[.int .i64 T0.kind, .int .i64 T0.num, .string T0.name, .slice a0 T0.args.length c0] 25) ∧ (∃ lo hi, w2.heap.size ≤ lo ∧ hi ≤ wx.heap.size ∧ Own wx 25 (iv lo hi) (.slice a0 T0.args.length c0) T0.args) ∧ ∃ (ν1 : Tm → Option Nat) (n1 : Nat) (F1 : Sh → Option Nat) (G1 : Int → Option Nat), GenW b b2 ν1 n1 F1 K1 G1 wx ∧ n1 ≤ n + nodesL (l.map headT) + y.nodes * (l.length + 1))) := Lib.hid (by
          rintro wn wx n5 lo a0 c0 ⟨h1, h2, h3, h4, h5, h6⟩ ⟨ν1, n1, F1, G1, g1, g2⟩ hn5 hlo ⟨hx5, hst⟩
          have hmz := HZ.out
          have hbl := HLT.out
          have hwl := HWL.out
          refine Lib.hid ⟨⟨(hst.block _ (Array.getElem?_eq_some_iff.1 h1.fg).1 (by omega)).trans h1.fg, (hst.block _ (Array.getElem?_eq_some_iff.1 h1.fr).1 (by omega)).trans h1.fr⟩, ?_, ?_, ?_, hx5, ⟨lo, wn.heap.size, h5, hst.size, ?_⟩, ν1, n1, F1, G1, g1.off hst (by omega) (by omega), g2⟩
          · exact (h2.frame hst.size fun j hj hjs => hst.block j hjs (by have h : j < w2.heap.size := hj; omega)).at
          · exact ⟨hst.os.trans h4.os, hst.tape.trans h4.tape, hst.output.trans h4.output, Nat.le_trans h4.size hst.size, fun j hj hn => (hst.block j (by have := h4.size; omega) (by omega)).trans (h4.block j hj hn)⟩
          · exact ⟨by have := hst.size; omega, hn5⟩
          · exact h3.frame fun j hj hjs => hst.block j hjs (by have := hj.1; have := hj.2; omega))
        refine wp_region_held_drew (S := (fun w' => w'.cell? ⟨w.heap.size, 0, none⟩ = some (.map (some b)) ∧ w'.cell? ⟨w.heap.size, 1, none⟩ = some (.map (some b2)))) (by kernel_rfl) (by (try dsimp only); go_keep) (fun hHeld => ?_)
        (refine wpAnyH_take (i := 0) (oi := ⟨_, _, _, _, _, _⟩) (v := ?_) rfl (by kernel_rfl) (by kernel_rfl) (by kernel_rfl) (fun _ _ _ h => h) (Or.inl ⟨by rfl, ?_⟩) (by assumption) ?_; rotate_left; focus ((intro w' hSw; (try dsimp only at hSw); go_simp; (try with_reducible rfl)))); (try simp only [Act.put, List.setIfInBounds_toArray, List.set_cons_zero, List.set_cons_succ])
        (refine wpAnyH_take (i := 1) (oi := ⟨_, _, _, _, _, _⟩) (v := ?_) rfl (by kernel_rfl) (by kernel_rfl) (by kernel_rfl) (fun _ _ _ h => h) (Or.inl ⟨by rfl, ?_⟩) (by assumption) ?_; rotate_left; focus ((intro w' hSw; (try dsimp only at hSw); go_simp; (try with_reducible rfl)))); (try simp only [Act.put, List.setIfInBounds_toArray, List.set_cons_zero, List.set_cons_succ])
        refine wpAnyH_ready (rs := [2, 4]) (by kernel_rfl) (by simp) ?_
        refine AllReadyH.cons (o := ⟨_, _, _, _, _, _⟩) rfl (fun K hK => ?_) (AllReadyH.cons (o := ⟨_, _, _, _, _, _⟩) rfl (fun K hK => ?_) AllReadyH.nil)
        · go_simp
          (go_at_call 74; (with_reducible refine Calls.mono (HE1.out _ ?_) ?_); (assumption); rintro e wm ⟨hu, rfl, ⟨k0, k1⟩, HBM, HC2⟩; have hm0 := Below.refl wm.heap.size wm)
          (try go_wp2_with fail)
          refine hK.out _ _ (by (try dsimp only); (first | go_keep | (refine ⟨by assumption, ?_⟩; go_keep))) (fun hHeld => ?_)
          clear hK K
          (try simp only [Act.put, List.setIfInBounds_toArray, List.set_cons_zero, List.set_cons_succ])
          refine wpAnyH_ready (rs := [3, 4]) (by kernel_rfl) (by simp) ?_
          refine AllReadyH.cons (o := ⟨_, _, _, _, _, _⟩) rfl (fun K hK => ?_) (AllReadyH.cons (o := ⟨_, _, _, _, _, _⟩) rfl (fun K hK => ?_) AllReadyH.nil)
          · go_simp
            (go_at_call 46; (with_reducible refine Calls.mono (HC2.out _ ?_) ?_); (assumption); rintro e wn ⟨a0, c0, rfl, ⟨k0, k1⟩, HBN, HFIN⟩; have y5 := (Array.getElem?_eq_some_iff.1 HBN.out.1.fg).1)
            (try go_wp2_with fail)
            refine hK.out _ _ (by (try dsimp only); (first | go_keep | (refine ⟨by assumption, ?_⟩; go_keep))) (fun hHeld => ?_)
            clear hK K
            (try simp only [Act.put, List.setIfInBounds_toArray, List.set_cons_zero, List.set_cons_succ])
            refine wpAnyH_ready (rs := [4]) (by kernel_rfl) (by simp) ?_
            refine AllReadyH.cons (o := ⟨_, _, _, _, _, _⟩) rfl (fun K hK => ?_) AllReadyH.nil
            · go_simp
              have HZ5 := Lib.hid (heap_new wn (.cells #[.int .i64 0, .int .i64 0, .string ⟨#[]⟩, .slice none 0 0] 25))
              have HBL5 := Lib.hid (belowAlloc (Below.refl wn.heap.size wn) (.cells #[.int .i64 0, .int .i64 0, .string ⟨#[]⟩, .slice none 0 0] 25))
              (try go_wp2_with fail)
              refine hK.out _ _ (by (try dsimp only); (first | go_keep | (refine ⟨by assumption, ?_⟩; go_keep))) (fun hHeld => ?_)
              clear hK K
              (try simp only [Act.put, List.setIfInBounds_toArray, List.set_cons_zero, List.set_cons_succ])
              refine wpAnyH_ready (rs := [5]) (by kernel_rfl) (by simp) ?_
              refine AllReadyH.cons (o := ⟨_, _, _, _, _, _⟩) rfl (fun K hK => ?_) AllReadyH.nil
              · have hz := HZ5.out
                have hs1 := HBM.out.size; have hs2 := HBN.out.2.2.2.2.2.1
                have hs3 := HBN.out.2.2.2.2.1
                have hs4 := HBN.out.2.2.2.2.2.1
                have hs5 := HZ.out.1
                have hs6 : w2.drew.heap.size = w2.heap.size := rfl
                have ne1 : ¬ wn.heap.size = w.heap.size := by omega
                have ne2 : ¬ w.heap.size = wn.heap.size := by omega
                have HCUT := FIN.out wn _ (wn.heap.size) _ a0 c0 ⟨HBN.out.1, HBN.out.2.1, HBN.out.2.2.1, HBN.out.2.2.2.1, HBN.out.2.2.2.2.1, HBN.out.2.2.2.2.2.1⟩ HFIN.out (by omega) (by omega) (⟨heap_new wn _, Only.of_below (belowAlloc (Below.refl _ _) _)⟩)
                obtain ⟨s0, s1, s2, s3, sf⟩ := box_cells hz
                have y6 := (Array.getElem?_eq_some_iff.1 hz).1
                clear hs1 hs2 hs3 hs4 hs5 hs6
                go_simp
                (try go_wp2_with fail)
                refine hK.out _ _ (by (try dsimp only); (first | go_keep | (refine ⟨by assumption, ?_⟩; go_keep))) (fun hHeld => ?_)
                clear hK K
                (try simp only [Act.put, List.setIfInBounds_toArray, List.set_cons_zero, List.set_cons_succ])
                refine wpAnyH_done (by kernel_rfl) ?_ _
                go_wp2_with fail
                go_meet
                exact ⟨_, a0, c0, rfl, HCUT⟩
          · go_simp
            have HZ5 := Lib.hid (heap_new wm (.cells #[.int .i64 0, .int .i64 0, .string ⟨#[]⟩, .slice none 0 0] 25))
            have HBL5 := Lib.hid (belowAlloc (Below.refl wm.heap.size wm) (.cells #[.int .i64 0, .int .i64 0, .string ⟨#[]⟩, .slice none 0 0] 25))
            have hW5 : Below wm.heap.size wm (wm.alloc (.cells #[.int .i64 0, .int .i64 0, .string ⟨#[]⟩, .slice none 0 0] 25)) := HBL5.out
            (try go_wp2_with fail)
            refine hK.out _ _ (by (try dsimp only); (first | go_keep | (refine ⟨by assumption, ?_⟩; go_keep))) (fun hHeld => ?_)
            clear hK K
            (try simp only [Act.put, List.setIfInBounds_toArray, List.set_cons_zero, List.set_cons_succ])
            refine wpAnyH_ready (rs := [3]) (by kernel_rfl) (by simp) ?_
            refine AllReadyH.cons (o := ⟨_, _, _, _, _, _⟩) rfl (fun K hK => ?_) AllReadyH.nil
            · go_simp
              (go_at_call 46; (with_reducible refine Calls.mono (HC2.out _ ?_) ?_); (assumption); rintro e wn ⟨a0, c0, rfl, ⟨k0, k1⟩, HBN, HFIN⟩; have y5 := (Array.getElem?_eq_some_iff.1 HBN.out.1.fg).1)
              (try go_wp2_with fail)
              refine hK.out _ _ (by (try dsimp only); (first | go_keep | (refine ⟨by assumption, ?_⟩; go_keep))) (fun hHeld => ?_)
              clear hK K
              (try simp only [Act.put, List.setIfInBounds_toArray, List.set_cons_zero, List.set_cons_succ])
              refine wpAnyH_ready (rs := [5]) (by kernel_rfl) (by simp) ?_
              refine AllReadyH.cons (o := ⟨_, _, _, _, _, _⟩) rfl (fun K hK => ?_) AllReadyH.nil
              · have hz := HBN.out.2.2.2.2.2.2 wm.heap.size _ _ _ HZ5.out
                have hs1 := HBM.out.size; have hs2 : (wm.alloc (.cells #[.int .i64 0, .int .i64 0, .string ⟨#[]⟩, .slice none 0 0] 25)).heap.size = wm.heap.size + 1 := World.size_alloc _ _
                have hs3 := HBN.out.2.2.2.2.1
                have hs4 := HBN.out.2.2.2.2.2.1
                have hs5 := HZ.out.1
                have hs6 : w2.drew.heap.size = w2.heap.size := rfl
                have ne1 : ¬ wm.heap.size = w.heap.size := by omega
                have ne2 : ¬ w.heap.size = wm.heap.size := by omega
                have HCUT := FIN.out wn _ (wm.heap.size) _ a0 c0 ⟨HBN.out.1, HBN.out.2.1, HBN.out.2.2.1, HBN.out.2.2.2.1, HBN.out.2.2.2.2.1, HBN.out.2.2.2.2.2.1⟩ HFIN.out (by omega) (by omega) (storeT hz (.int .i64 T0.kind) (.int .i64 T0.num) (.string T0.name) (.slice a0 T0.args.length c0))
                obtain ⟨s0, s1, s2, s3, sf⟩ := box_cells hz
                have y6 := (Array.getElem?_eq_some_iff.1 hz).1
                clear hs1 hs2 hs3 hs4 hs5 hs6
                go_simp
                (try go_wp2_with fail)
                refine hK.out _ _ (by (try dsimp only); (first | go_keep | (refine ⟨by assumption, ?_⟩; go_keep))) (fun hHeld => ?_)
                clear hK K
                (try simp only [Act.put, List.setIfInBounds_toArray, List.set_cons_zero, List.set_cons_succ])
                refine wpAnyH_done (by kernel_rfl) ?_ _
                go_wp2_with fail
                go_meet
                exact ⟨_, a0, c0, rfl, HCUT⟩
        · go_simp
          have HZ5 := Lib.hid (heap_new w2.drew (.cells #[.int .i64 0, .int .i64 0, .string ⟨#[]⟩, .slice none 0 0] 25))
          have HBL5 := Lib.hid (belowAlloc (Below.refl w2.drew.heap.size w2.drew) (.cells #[.int .i64 0, .int .i64 0, .string ⟨#[]⟩, .slice none 0 0] 25))
          have hW5 : Below w2.heap.size w2 (w2.drew.alloc (.cells #[.int .i64 0, .int .i64 0, .string ⟨#[]⟩, .slice none 0 0] 25)) := belowOn hdrew (Nat.le_refl _) HBL5.out
          (try go_wp2_with fail)
          refine hK.out _ _ (by (try dsimp only); (first | go_keep | (refine ⟨by assumption, ?_⟩; go_keep))) (fun hHeld => ?_)
          clear hK K
          (try simp only [Act.put, List.setIfInBounds_toArray, List.set_cons_zero, List.set_cons_succ])
          refine wpAnyH_ready (rs := [2]) (by kernel_rfl) (by simp) ?_
          refine AllReadyH.cons (o := ⟨_, _, _, _, _, _⟩) rfl (fun K hK => ?_) AllReadyH.nil
          · go_simp
            (go_at_call 74; (with_reducible refine Calls.mono (HE1.out _ ?_) ?_); (assumption); rintro e wm ⟨hu, rfl, ⟨k0, k1⟩, HBM, HC2⟩; have hm0 := Below.refl wm.heap.size wm)
            (try go_wp2_with fail)
            refine hK.out _ _ (by (try dsimp only); (first | go_keep | (refine ⟨by assumption, ?_⟩; go_keep))) (fun hHeld => ?_)
            clear hK K
            (try simp only [Act.put, List.setIfInBounds_toArray, List.set_cons_zero, List.set_cons_succ])
            refine wpAnyH_ready (rs := [3]) (by kernel_rfl) (by simp) ?_
            refine AllReadyH.cons (o := ⟨_, _, _, _, _, _⟩) rfl (fun K hK => ?_) AllReadyH.nil
            · go_simp
              (go_at_call 46; (with_reducible refine Calls.mono (HC2.out _ ?_) ?_); (assumption); rintro e wn ⟨a0, c0, rfl, ⟨k0, k1⟩, HBN, HFIN⟩; have y5 := (Array.getElem?_eq_some_iff.1 HBN.out.1.fg).1)
              (try go_wp2_with fail)
              refine hK.out _ _ (by (try dsimp only); (first | go_keep | (refine ⟨by assumption, ?_⟩; go_keep))) (fun hHeld => ?_)
              clear hK K
              (try simp only [Act.put, List.setIfInBounds_toArray, List.set_cons_zero, List.set_cons_succ])
              refine wpAnyH_ready (rs := [5]) (by kernel_rfl) (by simp) ?_
              refine AllReadyH.cons (o := ⟨_, _, _, _, _, _⟩) rfl (fun K hK => ?_) AllReadyH.nil
              · have hz := HBN.out.2.2.2.2.2.2 w2.heap.size _ _ _ ((HBM.out.block w2.heap.size (by show _ < (w2.heap.push _).size; simp)).trans HZ5.out)
                have hs1 : (w2.alloc (.cells #[.int .i64 0, .int .i64 0, .string ⟨#[]⟩, .slice none 0 0] 25)).drew.heap.size ≤ wm.heap.size := HBM.out.size; have hs2 : (w2.alloc (.cells #[.int .i64 0, .int .i64 0, .string ⟨#[]⟩, .slice none 0 0] 25)).drew.heap.size = w2.heap.size + 1 := World.size_alloc _ _
                have hs3 := HBN.out.2.2.2.2.1
                have hs4 := HBN.out.2.2.2.2.2.1
                have hs5 := HZ.out.1
                have hs6 : w2.drew.heap.size = w2.heap.size := rfl
                have ne1 : ¬ w2.heap.size = w.heap.size := by omega
                have ne2 : ¬ w.heap.size = w2.heap.size := by omega
                have HCUT := FIN.out wn _ (w2.heap.size) _ a0 c0 ⟨HBN.out.1, HBN.out.2.1, HBN.out.2.2.1, HBN.out.2.2.2.1, HBN.out.2.2.2.2.1, HBN.out.2.2.2.2.2.1⟩ HFIN.out (by omega) (by omega) (storeT hz (.int .i64 T0.kind) (.int .i64 T0.num) (.string T0.name) (.slice a0 T0.args.length c0))
                obtain ⟨s0, s1, s2, s3, sf⟩ := box_cells hz
                have y6 := (Array.getElem?_eq_some_iff.1 hz).1
                clear hs1 hs2 hs3 hs4 hs5 hs6
                go_simp
                (try go_wp2_with fail)
                refine hK.out _ _ (by (try dsimp only); (first | go_keep | (refine ⟨by assumption, ?_⟩; go_keep))) (fun hHeld => ?_)
                clear hK K
                (try simp only [Act.put, List.setIfInBounds_toArray, List.set_cons_zero, List.set_cons_succ])
                refine wpAnyH_done (by kernel_rfl) ?_ _
                go_wp2_with fail
                go_meet
                exact ⟨_, a0, c0, rfl, HCUT⟩
      case rest =>
        obtain ⟨n5, a0, c0, rfl, HX5⟩ := hcut
        obtain ⟨w3, rfl⟩ : ∃ x : World, x = wc := ⟨_, rfl⟩
        obtain ⟨ν1, n1, F1, G1, hg1, hg2⟩ := HX5.out.2.2.2.2.2.2
        obtain ⟨lo, hi, hlo, hhi, hown⟩ := HX5.out.2.2.2.2.2.1
        have HG1 := Lib.hid (And.intro hg1 hg2)
        have HOW := Lib.hid (And.intro hlo (And.intro hhi hown))
        clear hg1 hg2 hlo hhi hown k0 k1 y1 hself hdrew HE1
        obtain ⟨T1, hT1⟩ : ∃ t, (genF fuel (l.map tailT) K1).1 = t := ⟨_, rfl⟩
        obtain ⟨K2, hK2⟩ : ∃ t, (genF fuel (l.map tailT) K1).2 = t := ⟨_, rfl⟩
        have HT1 := Lib.hid hT1
        have HK2 := Lib.hid hK2
        rw [hT1, hK2] at HGF
        clear hT1 hK2
        have hself : Below w3.heap.size w3 w3 := Below.refl _ _
        have hdrew : Below w3.heap.size w3 w3.drew := hself.drew
        have HCL : Hid (∀ W : World, W.heap[w.heap.size]? = some (.cells #[.map (some b), .map (some b2)] 63) → W.heap[n5]? = some (.cells #[.int .i64 T0.kind, .int .i64 T0.num, .string T0.name, .slice a0 T0.args.length c0] 25) → W.cell? ⟨w.heap.size, 0, none⟩ = some (.map (some b)) ∧ W.cell? ⟨w.heap.size, 1, none⟩ = some (.map (some b2)) ∧ W.cell? ⟨n5, 0, none⟩ = some (.int .i64 T0.kind) ∧ W.cell? ⟨n5, 1, none⟩ = some (.int .i64 T0.num) ∧ W.cell? ⟨n5, 2, none⟩ = some (.string T0.name) ∧ W.cell? ⟨n5, 3, none⟩ = some (.slice a0 T0.args.length c0)) := Lib.hid fun W h1 h2 => by
          obtain ⟨a1, a2⟩ := cells2_of h1
          obtain ⟨e1, e2, e3, e4, _⟩ := box_cells h2
          exact ⟨a1, a2, e1, e2, e3, e4⟩
        have HE1 : Hid (∀ W, Below w3.heap.size w3 W → Calls Try.prog 74 #[.slice aa l.length ac, .func (.func 95) #[] #[]] W fun e wm => ∃ (hu : Value), e = .returned hu ∧ (wm.cell? ⟨w.heap.size, 0, none⟩ = some (.map (some b)) ∧ wm.cell? ⟨w.heap.size, 1, none⟩ = some (.map (some b2)) ∧ wm.cell? ⟨n5, 0, none⟩ = some (.int .i64 T0.kind) ∧ wm.cell? ⟨n5, 1, none⟩ = some (.int .i64 T0.num) ∧ wm.cell? ⟨n5, 2, none⟩ = some (.string T0.name) ∧ wm.cell? ⟨n5, 3, none⟩ = some (.slice a0 T0.args.length c0)) ∧ Hid (∀ W2, Below wm.heap.size wm W2 → Calls Try.prog 46 #[.agg #[.map (some b), .map (some b2)], hu] W2 fun e wn => ∃ (a1 : Option Addr) (c1 : Nat), e = .returned (.agg #[.int .i64 T1.kind, .int .i64 T1.num, .string T1.name, .slice a1 T1.args.length c1]) ∧ (wn.cell? ⟨w.heap.size, 0, none⟩ = some (.map (some b)) ∧ wn.cell? ⟨w.heap.size, 1, none⟩ = some (.map (some b2)) ∧ wn.cell? ⟨n5, 0, none⟩ = some (.int .i64 T0.kind) ∧ wn.cell? ⟨n5, 1, none⟩ = some (.int .i64 T0.num) ∧ wn.cell? ⟨n5, 2, none⟩ = some (.string T0.name) ∧ wn.cell? ⟨n5, 3, none⟩ = some (.slice a0 T0.args.length c0)) ∧
          Hid (∀ W, Below wn.heap.size wn W → W.cell? ⟨w.heap.size, 0, none⟩ = some (.map (some b)) ∧ W.cell? ⟨w.heap.size, 1, none⟩ = some (.map (some b2)) ∧ W.cell? ⟨n5, 0, none⟩ = some (.int .i64 T0.kind) ∧ W.cell? ⟨n5, 1, none⟩ = some (.int .i64 T0.num) ∧ W.cell? ⟨n5, 2, none⟩ = some (.string T0.name) ∧ W.cell? ⟨n5, 3, none⟩ = some (.slice a0 T0.args.length c0)) ∧ Hid (BxO b b2 w.heap.size wn ∧ Own wn 25 (iv lo hi) (.slice a0 T0.args.length c0) T0.args ∧ Own wn 25 (iv W2.heap.size wn.heap.size) (.slice a1 T1.args.length c1) T1.args ∧ Only (fun j => j = b ∨ j = b2) w wn ∧ w3.heap.size ≤ W2.heap.size ∧ W2.heap.size ≤ wn.heap.size) ∧ Hid (∃ (ν2 : Tm → Option Nat) (n2 : Nat) (F2 : Sh → Option Nat) (G2 : Int → Option Nat), GenW b b2 ν2 n2 F2 K2 G2 wn ∧ n2 ≤ n + nodesL l + f.nodes * (l.length + 1)))) := Lib.hid fun W hW => by
          refine (eachTail_any l _ W (HX5.out.2.1.kept hW) HP.out HG.out.1 HN.out.2.2.2).mono ?_
          rintro e wm ⟨hu, rfl, hua, hb⟩
          have hWm := belowOn hW (Nat.le_refl _) hb
          have hBm := HX5.out.1.kept hWm
          have hnm := (hWm.block _ (Array.getElem?_eq_some_iff.1 HX5.out.2.2.2.2.1).1).trans HX5.out.2.2.2.2.1
          refine ⟨hu, rfl, HCL.out wm hBm.fg hnm, Lib.hid fun W2 hW2 => ?_⟩
          have hW2m := belowOn hWm (Nat.le_refl _) hW2
          have hc := HI.out (l.map tailT) hu ν1 n1 F1 K1 G1 z W2 (HG1.out.1.kept hW2m) (hua.kept hW2) HTL.out.1 HTL.out.2.1 HTL.out.2.2.1 (by rw [HTL.out.2.2.2]; exact HN.out.2.2.2) (by rw [HTL.out.2.2.2]; exact HLN.out.2) (by have := HN.out.1; have := HFN.out; have := HLN.out.1; have := nodes_pos y; omega) (by have := HN.out.2.1; have := HFN.out; have := nodes_pos y; omega) (by rw [HTL.out.2.2.2]; have := HN.out.2.2.1; have := HMUL.out; have := HSUM.out; have := HG1.out.2; omega)
          rw [HTL.out.2.2.2, HT1.out, HK2.out] at hc
          refine hc.mono ?_
          rintro e wn ⟨u, ν2, n2, F2, G2, rfl, g1, g2, g3, g4⟩
          obtain ⟨a1, c1, rfl⟩ := g3.argsAt.slice
          have hmp := (HG1.out.1.kept hW2m).maps
          have hBn := (hBm.kept hW2).maps g4 hmp
          have hn2 := box_maps ((hW2.block _ (Array.getElem?_eq_some_iff.1 hnm).1).trans hnm) g4 hmp
          have hbl := HLT.out
          have hwl := HB.out.size
          have hl0 := HOW.out.1
          exact ⟨a1, c1, rfl, HCL.out wn hBn.fg hn2, Lib.hid fun W hW => HCL.out W (hBn.kept hW).fg ((hW.block _ (Array.getElem?_eq_some_iff.1 hn2).1).trans hn2), Lib.hid ⟨hBn, (HOW.out.2.2.kept hW2m).frame fun j hj hjs => g4.block j hjs (by have := hj.1; omega), g3, (HX5.out.2.2.1.trans (Only.of_below hW2m)).trans g4, hW2m.size, g4.size⟩, Lib.hid ⟨ν2, n2, F2, G2, g1, by have := HMUL.out; have := HSUM.out; have := HG1.out.2; omega⟩⟩
        go_upto_region 3 with (fail)
        obtain ⟨k0, k1, k2, k3, k4, k5⟩ := HCL.out w3 HX5.out.1.fg HX5.out.2.2.2.2.1
        have y1 := (Array.getElem?_eq_some_iff.1 HX5.out.1.fg).1
        have y2 := (Array.getElem?_eq_some_iff.1 HX5.out.2.2.2.2.1).1
        have ne1 : ¬ n5 = w.heap.size + 1 := by have h1 := HX5.out.2.2.2.1.2; have h2 := HZ.out.2; omega
        have ne2 : ¬ w.heap.size + 1 = n5 := fun e => ne1 e.symm
        have HPO : Hid (∀ (W : World) (a1 : Option Addr) (c1 : Nat), Calls Try.prog 94 #[.agg #[.int .i64 T0.kind, .int .i64 T0.num, .string T0.name, .slice a0 T0.args.length c0], .agg #[.int .i64 T1.kind, .int .i64 T1.num, .string T1.name, .slice a1 T1.args.length c1]] W fun e wp => ∃ gp, e = .returned (.agg #[.int .i64 4, .int .i64 0, .string ⟨#[]⟩, .slice (some ⟨gp, 0, none⟩) 2 2]) ∧ W.heap.size ≤ gp ∧ gp < wp.heap.size ∧ wp.heap[gp]? = some (.cells #[.int .i64 T0.kind, .int .i64 T0.num, .string T0.name, .slice a0 T0.args.length c0, .int .i64 T1.kind, .int .i64 T1.num, .string T1.name, .slice a1 T1.args.length c1] 25) ∧ Below W.heap.size W wp) := Lib.hid fun W a1 c1 => pairOf_any _ _ _ _ _ _ _ _ _ _ _ _ W
        refine wp_region_held_drew (S := (fun w' => w'.cell? ⟨w.heap.size, 0, none⟩ = some (.map (some b)) ∧ w'.cell? ⟨w.heap.size, 1, none⟩ = some (.map (some b2)) ∧ w'.cell? ⟨n5, 0, none⟩ = some (.int .i64 T0.kind) ∧ w'.cell? ⟨n5, 1, none⟩ = some (.int .i64 T0.num) ∧ w'.cell? ⟨n5, 2, none⟩ = some (.string T0.name) ∧ w'.cell? ⟨n5, 3, none⟩ = some (.slice a0 T0.args.length c0))) (by kernel_rfl) (by (try dsimp only); go_keep) (fun hHeld => ?_)
        (refine wpAnyH_take (i := 0) (oi := ⟨_, _, _, _, _, _⟩) (v := ?_) rfl (by kernel_rfl) (by kernel_rfl) (by kernel_rfl) (fun _ _ _ h => h) (Or.inl ⟨by rfl, ?_⟩) (by assumption) ?_; rotate_left; focus ((intro w' hSw; (try dsimp only at hSw); go_simp; (try with_reducible rfl)))); (try simp only [Act.put, List.setIfInBounds_toArray, List.set_cons_zero, List.set_cons_succ])
        (refine wpAnyH_take (i := 1) (oi := ⟨_, _, _, _, _, _⟩) (v := ?_) rfl (by kernel_rfl) (by kernel_rfl) (by kernel_rfl) (fun _ _ _ h => h) (Or.inl ⟨by rfl, ?_⟩) (by assumption) ?_; rotate_left; focus ((intro w' hSw; (try dsimp only at hSw); go_simp; (try with_reducible rfl)))); (try simp only [Act.put, List.setIfInBounds_toArray, List.set_cons_zero, List.set_cons_succ])
        (refine wpAnyH_take (i := 2) (oi := ⟨_, _, _, _, _, _⟩) (v := ?_) rfl (by kernel_rfl) (by kernel_rfl) (by kernel_rfl) (fun _ _ _ h => h) (Or.inl ⟨by rfl, ?_⟩) (by assumption) ?_; rotate_left; focus ((intro w' hSw; (try dsimp only at hSw); go_simp; (try with_reducible rfl)))); (try simp only [Act.put, List.setIfInBounds_toArray, List.set_cons_zero, List.set_cons_succ])
        refine wpAnyH_ready (rs := [3]) (by kernel_rfl) (by simp) ?_
        refine AllReadyH.cons (o := ⟨_, _, _, _, _, _⟩) rfl (fun K hK => ?_) AllReadyH.nil
        go_simp
        (go_at_call 74; (with_reducible refine Calls.mono (HE1.out _ ?_) ?_); (assumption); rintro e wm ⟨hu, rfl, ⟨k0, k1, k2, k3, k4, k5⟩, HC2⟩; have hm0 := Below.refl wm.heap.size wm)
        (try go_wp2_with fail)
        refine hK.out _ _ (by (try dsimp only); (first | go_keep | (refine ⟨by assumption, ?_⟩; go_keep))) (fun hHeld => ?_)
        clear hK K
        (try simp only [Act.put, List.setIfInBounds_toArray, List.set_cons_zero, List.set_cons_succ])
        refine wpAnyH_ready (rs := [4]) (by kernel_rfl) (by simp) ?_
        refine AllReadyH.cons (o := ⟨_, _, _, _, _, _⟩) rfl (fun K hK => ?_) AllReadyH.nil
        go_simp
        (go_at_call 46; (with_reducible refine Calls.mono (HC2.out _ ?_) ?_); (assumption); rintro e wn ⟨a1, c1, rfl, ⟨k0, k1, k2, k3, k4, k5⟩, HCN, HBN, HFIN⟩)
        (try go_wp2_with fail)
        refine hK.out _ _ (by (try dsimp only); (first | go_keep | (refine ⟨by assumption, ?_⟩; go_keep))) (fun hHeld => ?_)
        clear hK K
        (try simp only [Act.put, List.setIfInBounds_toArray, List.set_cons_zero, List.set_cons_succ])
        refine wpAnyH_ready (rs := [5]) (by kernel_rfl) (by simp) ?_
        refine AllReadyH.cons (o := ⟨_, _, _, _, _, _⟩) rfl (fun K hK => ?_) AllReadyH.nil
        go_simp
        (go_at_call 94; (with_reducible refine Calls.mono (HPO.out _ _ _) ?_); rintro e wp ⟨gp, rfl, hp1, hp2, hp3, hb⟩; obtain ⟨k0, k1, k2, k3, k4, k5⟩ := HCN.out _ hb; have HPP := Lib.hid (And.intro hp1 (And.intro hp2 (And.intro hp3 hb))); have HBP := Lib.hid (HBN.out.1.kept hb); clear hp1 hp2 hp3 hb; obtain ⟨s0, s1, s2, s3, sf⟩ := box_cells HBP.out.fr; have y6 := (Array.getElem?_eq_some_iff.1 HBP.out.fr).1)
        (try go_wp2_with fail)
        refine hK.out _ _ (by (try dsimp only); (first | go_keep | (refine ⟨by assumption, ?_⟩; go_keep))) (fun hHeld => ?_)
        clear hK K
        (try simp only [Act.put, List.setIfInBounds_toArray, List.set_cons_zero, List.set_cons_succ])
        refine wpAnyH_ready (rs := [6]) (by kernel_rfl) (by simp) ?_
        refine AllReadyH.cons (o := ⟨_, _, _, _, _, _⟩) rfl (fun K hK => ?_) AllReadyH.nil
        go_simp
        skip
        (try go_wp2_with fail)
        refine hK.out _ _ (by (try dsimp only); (first | go_keep | (refine ⟨by assumption, ?_⟩; go_keep))) (fun hHeld => ?_)
        clear hK K
        (try simp only [Act.put, List.setIfInBounds_toArray, List.set_cons_zero, List.set_cons_succ])
        refine wpAnyH_done (by kernel_rfl) ?_ _
        clear s0 s1 s2 s3 sf y6 hHeld k0 k1 k2 k3 k4 k5
        go_wp2
        have hwl := HB.out.size
        have hx3 := HX5.out.2.2.2.1
        have hz2 := HZ.out.2
        have hs1 := HBN.out.2.2.2.2.1
        have hs2 := HBN.out.2.2.2.2.2
        have hs3 := HPP.out.2.2.2.size
        have hs4 := HPP.out.1
        have hs5 := HPP.out.2.1
        have ho1 := HOW.out.1
        have ho2 := HOW.out.2.1
        exact over_end (p := 4) (m := w.heap.size + 1) (lo := w2.heap.size) (by rw [HGF.out.1]; rfl) (by rw [HGF.out.1]; rfl) (by rw [HGF.out.1]; rfl) rfl rfl rfl Try.underlying25 (by kernel_rfl) HBP.out.fr (by omega) hz2 HLT.out (by
          obtain ⟨ν2, n2, F2, G2, g1, g2⟩ := HFIN.out
          exact ⟨ν2, n2, F2, G2, by rw [HGF.out.2]; exact g1.kept HPP.out.2.2.2, g2⟩) (HBN.out.2.2.2.1.trans (Only.of_below HPP.out.2.2.2)) (by
          rw [HGF.out.1]
          exact own_pair (Sa := iv lo hi) HPP.out.2.2.1 (by unfold iv; omega) (HBN.out.2.1.kept HPP.out.2.2.2) (HBN.out.2.2.1.kept HPP.out.2.2.2) (fun j hj => by unfold iv at hj ⊢; omega) (fun j hj => by unfold iv at hj ⊢; omega) (fun j hj hj2 => by unfold iv at hj hj2; omega))
    | true =>
      have HNP : Hid (¬ AllPair l) := Lib.hid fun h => by
        have h1 := HQ.out
        rw [List.any_eq_true] at h1
        obtain ⟨x, hx, h2⟩ := h1
        rw [h x hx] at h2
        cases h2
      obtain ⟨g, off, u1, u2, rfl, hgw, _, hc, hu⟩ := HA.out.elem HFE.out
      have hi0 : (0 : Int) < (l.length : Int) := by omega
      obtain ⟨d0, d1, d2, d3⟩ := hc w2 (Below.refl _ _)
      simp only [Nat.zero_mul, Nat.add_zero] at d0 d1 d2 d3
      have HU := Lib.hid hu
      clear hc hu
      go_upto_region 5 with (fail)
      have hal : Below w2.heap.size w2 (w2.alloc (.cells #[.int .i64 f.kind, .int .i64 f.num, .string f.name, .slice u1 f.args.length u2] 25)) := belowAlloc (Below.refl _ _) _
      have HX6 := Lib.hid (heap_new w2 (.cells #[.int .i64 f.kind, .int .i64 f.num, .string f.name, .slice u1 f.args.length u2] 25))
      replace HB := Lib.hid (belowOn HB.out (Nat.le_refl _) hal)
      replace HS := Lib.hid (HS.out.kept hal)
      replace HA := Lib.hid (HA.out.kept hal)
      replace HBX := Lib.hid (HBX.out.kept hal)
      replace HU := Lib.hid (HU.out.kept hal)
      clear hal d0 d1 d2 d3 hgw
      generalize hw3 : w2.alloc (.cells #[.int .i64 f.kind, .int .i64 f.num, .string f.name, .slice u1 f.args.length u2] 25) = w3 at HX6 HB HS HA HBX HU ⊢
      clear hw3
      generalize w2.heap.size = n6 at HX6 ⊢
      have hfm := List.mem_of_getElem? HFE.out
      have HFG := Lib.hid (And.intro (HG.out.1 f hfm) (HG.out.2 f hfm))
      have hzf : f.sz ≤ 1048576 := by have h1 := good_sz HFG.out.1; have h2 := HFG.out.2; omega
      have HMN : Hid (l.length + 1 ≤ f.nodes * (l.length + 1)) := Lib.hid (Nat.le_mul_of_pos_left _ (nodes_pos f))
      have HVAR : Hid (∀ W, Below w3.heap.size w3 W → Calls Try.prog 97 #[.agg #[.map (some b), .map (some b2)], .slice (some ⟨g, off, none⟩) l.length ac] W (VarR b b2 l n k W)) := Lib.hid fun W hW => variableFor_any b b2 l _ ν n F k G W (HS.out.kept hW) (HA.out.kept hW) HG.out.1 HN.out.2.2.2 HK.out (by have := HN.out.1; omega) hbb (by rw [lst_nodes_le]; have := HN.out.2.2.1; have := HMN.out; omega)
      have HVE : Hid (¬ OneAtom l → genF (fuel + 1) l k = (.mk 1 (idxL k l) ⟨#[]⟩ [], kAdd k l)) := Lib.hid fun h => by rw [genF, if_neg HNP.out, if_neg h]
      obtain ⟨d0, d1, d2, d3, _⟩ := box_cells HX6.out
      have z6 := (Array.getElem?_eq_some_iff.1 HX6.out).1
      by_cases hk1 : f.kind = 1
      · have q1 : (f.kind != 1) = false := by simp [hk1]
        have HGV := Lib.hid (HVE.out fun ⟨g, h1, h2, _⟩ => by rw [List.head?_eq_getElem?, HFE.out] at h1; cases h1; exact h2 hk1)
        clear hk1 HVE
        obtain ⟨w4, hw4⟩ : ∃ x, w3 = x := ⟨_, rfl⟩
        have HW4 : Hid (Below w3.heap.size w3 w4) := Lib.hid (by rw [← hw4]; exact Below.refl _ _)
        obtain ⟨g0, g1⟩ := cells2_of HBX.out.fg
        have zg := (Array.getElem?_eq_some_iff.1 HBX.out.fg).1
        have HCV := Lib.hid (HVAR.out w3 (Below.refl _ _))
        clear hw4 HW4
        go_wp2_with fail
        refine HCV.out.mono ?_
        rintro e w5 ⟨ν', n', F', G', rfl, hg1, hg2, ho⟩
        have HG5 := Lib.hid (And.intro hg1 hg2)
        have HO5 := Lib.hid ho
        have hm4 := (Array.getElem?_eq_some_iff.1 HBX.out.fr).1
        have HR5 := Lib.hid (HBX.out.maps ho HS.out.maps).fr
        have HM4 := Lib.hid hm4
        clear hg1 hg2 ho HCV g0 g1 zg hm4
        obtain ⟨r0, r1, r2, r3, rf⟩ := box_cells HR5.out
        go_wp2
        exact over_end (p := 4) (m := w.heap.size + 1) (lo := w3.heap.size) (by rw [HGV.out]; rfl) (by rw [HGV.out]; rfl) (by rw [HGV.out]; rfl) rfl rfl rfl Try.underlying25 (by kernel_rfl) HR5.out (by omega) HM4.out HLT.out ⟨ν', n', F', G', by rw [HGV.out]; exact HG5.out.1, by have := HG5.out.2; rw [lst_nodes_le] at this; have := HMN.out; omega⟩ ((Only.of_below HB.out).trans HO5.out) (by rw [HGV.out]; exact .nil _)
      · have q1 : (f.kind != 1) = true := by simp [hk1]
        have hmf : ∀ (fn : Fn) (first cap : Array Value) (w : World), (Instr.makeFunc fn first cap).run Try.prog w = .ok (.func fn first cap) w := fun _ _ _ _ => rfl
        have HC := Lib.hid (containsQ_any n6 (fun x => x.cmp f != 0) l (.slice (some ⟨g, off, none⟩) l.length ac) w3 HA.out (by have := HN.out.2.2.2; omega) (fun j x hx U W hW hU => notFirst_any n6 f _ x U W hU (HU.out.kept hW) ((hW.block _ (Array.getElem?_eq_some_iff.1 HX6.out).1).trans HX6.out) (HG.out.1 x (List.mem_of_getElem? hx)) HFG.out.1 (by have h1 := good_sz (HG.out.1 x (List.mem_of_getElem? hx)); have h2 := HG.out.2 x (List.mem_of_getElem? hx); omega) hzf))
        obtain ⟨q, hq⟩ : ∃ q, (l.any fun x => x.cmp f != 0) = q := ⟨_, rfl⟩
        rw [hq] at HC
        have HQ2 := Lib.hid hq
        have HK1 := Lib.hid hk1
        clear hq hk1
        go_wp2_with fail
        refine HC.out.mono ?_
        rintro e w4 ⟨rfl, hb⟩
        have HB4 := Lib.hid hb
        clear hb HC d0 d1 d2 d3 z6
        replace HB := Lib.hid (belowOn HB.out (Nat.le_refl _) HB4.out)
        replace HS := Lib.hid (HS.out.kept HB4.out)
        replace HBX := Lib.hid (HBX.out.kept HB4.out)
        replace HU := Lib.hid (HU.out.kept HB4.out)
        replace HX6 := Lib.hid ((HB4.out.block _ (Array.getElem?_eq_some_iff.1 HX6.out).1).trans HX6.out)
        have HCV := Lib.hid (HVAR.out w4 HB4.out)
        cases q with
        | true =>
          have HGV := Lib.hid (HVE.out fun ⟨g, h1, h2, h3⟩ => by
            rw [List.head?_eq_getElem?, HFE.out] at h1
            cases h1
            have h4 := HQ2.out
            rw [List.any_eq_true] at h4
            obtain ⟨x, hx, h5⟩ := h4
            rw [h3 x hx, cmp_self] at h5
            cases h5)
          clear HVE
          obtain ⟨g0, g1⟩ := cells2_of HBX.out.fg
          have zg := (Array.getElem?_eq_some_iff.1 HBX.out.fg).1
          go_wp2_with fail
          refine HCV.out.mono ?_
          rintro e w5 ⟨ν', n', F', G', rfl, hg1, hg2, ho⟩
          have HG5 := Lib.hid (And.intro hg1 hg2)
          have HO5 := Lib.hid ho
          have hm4 := (Array.getElem?_eq_some_iff.1 HBX.out.fr).1
          have HR5 := Lib.hid (HBX.out.maps ho HS.out.maps).fr
          have HM4 := Lib.hid hm4
          clear hg1 hg2 ho HCV g0 g1 zg hm4
          obtain ⟨r0, r1, r2, r3, rf⟩ := box_cells HR5.out
          go_wp2
          exact over_end (p := 4) (m := w.heap.size + 1) (lo := w4.heap.size) (by rw [HGV.out]; rfl) (by rw [HGV.out]; rfl) (by rw [HGV.out]; rfl) rfl rfl rfl Try.underlying25 (by kernel_rfl) HR5.out (by omega) HM4.out HLT.out ⟨ν', n', F', G', by rw [HGV.out]; exact HG5.out.1, by have := HG5.out.2; rw [lst_nodes_le] at this; have := HMN.out; omega⟩ ((Only.of_below HB.out).trans HO5.out) (by rw [HGV.out]; exact .nil _)
        | false =>
          have HGA : Hid (genF (fuel + 1) l k = (f, k)) := Lib.hid (by
            have hone : OneAtom l := ⟨f, by rw [List.head?_eq_getElem?]; exact HFE.out, HK1.out, fun t ht => by
              have h4 := List.any_eq_false.1 HQ2.out t ht
              have h5 : t.cmp f = 0 := by simpa using h4
              exact cmp_zero _ t f (Nat.le_refl _) (HG.out.1 t ht) HFG.out.1 h5⟩
            rw [genF, if_neg HNP.out, if_pos hone, List.headD_eq_head?_getD, List.head?_eq_getElem?, HFE.out]
            rfl)
          clear HVE
          have HC := Lib.hid (copied_any (f.nodes + 1) f _ w4 (Nat.lt_succ_self _) HU.out hzf HFG.out.1)
          obtain ⟨d0, d1, d2, d3, _⟩ := box_cells HX6.out
          have z6 := (Array.getElem?_eq_some_iff.1 HX6.out).1
          go_wp2_with fail
          refine HC.out.mono ?_
          rintro e w5 ⟨u, rfl, hu, hb⟩
          obtain ⟨ua, uc, rfl⟩ := hu.argsAt.slice
          have HU5 := Lib.hid hu
          have HB5 := Lib.hid hb
          have HR5 := Lib.hid (HBX.out.kept hb).fr
          clear hu hb HC d0 d1 d2 d3 z6
          obtain ⟨r0, r1, r2, r3, rf⟩ := box_cells HR5.out
          have hm4 := (Array.getElem?_eq_some_iff.1 HBX.out.fr).1
          go_wp2
          exact over_end (p := 4) (m := w.heap.size + 1) (lo := w4.heap.size) (by rw [HGA.out]) (by rw [HGA.out]) (by rw [HGA.out]) rfl rfl rfl Try.underlying25 (by kernel_rfl) HR5.out (by omega) hm4 HLT.out ⟨ν, n, F, G, by rw [HGA.out]; exact HS.out.kept HB5.out, by omega⟩ ((Only.of_below HB.out).trans (Only.of_below HB5.out)) (by rw [HGA.out]; exact HU5.out)
end Go.Proofs.Ytoihimdfmncdoaa

