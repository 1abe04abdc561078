/-
  The program's numbering of variables (a closure over a map), and terms whose variables are given new numbers by a function. (Written by wip/tools/gen_naming.py.)
-/
import Derived.Test.YtoihimdfmncdoaaNameP
import Derived.Test.YtoihimdfmncdoaaImplGen
import Derived.Test.YtoihimdfmncdoaaNews
import Derived.Deep.RegionHeld3
namespace Go.Proofs.Ytoihimdfmncdoaa
open Go.RowKit
set_option linter.unusedVariables false
set_option linter.unusedSimpArgs false

/-! ### The numbering -/
theorem num_step {k vs K : List Int} {f f' : Int → Option Nat} {v : Int} {i n' : Nat} (ho : OrdF k f) (hk : ordL k (v :: vs) = K) (hi : NumIn f k.length v i f' n') : i = idxI K v ∧ ∃ k', k'.length = n' ∧ OrdF k' f' ∧ ordL k' vs = K := by
  rcases hi with ⟨hf, rfl, rfl⟩ | ⟨hf, rfl, rfl, rfl⟩
  · obtain ⟨h1, h2⟩ := ho.in_ hf
    refine ⟨by rw [← hk, idxI_first, h2], k, rfl, ho, ?_⟩
    rw [← hk, ordL_cons, ordAdd_in h1]
  · have hv := ho.out hf
    refine ⟨by rw [← hk, idxI_first, idxI_out hv], k ++ [v], by simp, ⟨?_, fun x j => ?_⟩, ?_⟩
    · rw [← ordAdd_out hv]; exact ordAdd_nodup ho.1
    · unfold updNm
      by_cases e : x = v
      · subst e
        rw [if_pos rfl]
        constructor
        · intro h; cases h; simp
        · intro h
          by_cases hj : j < k.length
          · rw [List.getElem?_append_left hj] at h
            exact absurd (List.mem_of_getElem? h) hv
          · have := (List.getElem?_eq_some_iff.1 h).1
            simp at this
            have : j = k.length := by omega
            rw [this]
      · rw [if_neg e, ho.2]
        constructor
        · intro h; rw [List.getElem?_append_left (List.getElem?_eq_some_iff.1 h).1]; exact h
        · intro h
          by_cases hj : j < k.length
          · rwa [List.getElem?_append_left hj] at h
          · rw [List.getElem?_append_right (by omega)] at h
            have := (List.getElem?_eq_some_iff.1 h).1
            simp at this
            have hz : j - k.length = 0 := by omega
            rw [hz] at h
            simp at h
            exact absurd h.symm e
    · rw [← hk, ordL_cons, ordAdd_out hv]
/-- numbering's variable at nb, its map at b: the variables vs are still to come, K is what the order will be. -/
def NumW (nb b : Nat) (K vs : List Int) (w : World) : Prop :=
  ∃ (k : List Int) (f : Int → Option Nat), w.heap[nb]? = some (.cells #[.map (some b)] 61) ∧ MapN 3 (Value.int .i64) wfI w b k.length f ∧ OrdF k f ∧ ordL k vs = K
theorem NumW.off {nb b : Nat} {K vs : List Int} {w w' : World} {S : Nat → Prop} (h : NumW nb b K vs w) (ho : Only S w w') (h1 : ¬ S nb) (h2 : ¬ S b) : NumW nb b K vs w' := by
  obtain ⟨k, f, hb, hm, hr⟩ := h
  exact ⟨k, f, (ho.block _ (Array.getElem?_eq_some_iff.1 hb).1 h1).trans hb, hm.frame (ho.block _ hm.lt h2), hr⟩
theorem NumW.kept {nb b : Nat} {K vs : List Int} {w w' : World} (h : NumW nb b K vs w) (hb : Below w.heap.size w w') : NumW nb b K vs w' := h.off (S := fun _ => False) (Only.of_below hb) id id
theorem NumW.lt {nb b : Nat} {K vs : List Int} {w : World} (h : NumW nb b K vs w) : nb < w.heap.size ∧ b < w.heap.size := by
  obtain ⟨k, f, hb, hm, hr⟩ := h
  exact ⟨(Array.getElem?_eq_some_iff.1 hb).1, hm.lt⟩
theorem NumW.isMp {nb b : Nat} {K vs : List Int} {w : World} (h : NumW nb b K vs w) : isMp w.heap[b]? := by
  obtain ⟨k, f, hb, hm, hr⟩ := h
  exact hm.isMp

set_option maxRecDepth 100000 in
set_option maxHeartbeats 1000000 in
theorem number_any (nb b : Nat) (K vs : List Int) (v : Int) (w : World) (h : NumW nb b K (v :: vs) w) (hv : wfI v) (hK : K.length ≤ 1048576) :
    Calls Try.prog 105 #[.int .i64 v, .pointer (some ⟨nb, 0, none⟩)] w fun e w' => e = .returned (.int .i64 ((idxI K v : Nat) : Int)) ∧ NumW nb b K vs w' ∧ Only (fun j => j = b) w w' := by
  obtain ⟨k, f, hb, hm, ho, hk⟩ := h
  have hkl : k.length ≤ K.length := by
    obtain ⟨m, hm'⟩ := ordL_pre (v :: vs) k
    rw [hk] at hm'
    rw [hm', List.length_append]
    omega
  have HE := Lib.hid (fun i f' n' => num_step (i := i) (f' := f') (n' := n') ho hk)
  have HC := Lib.hid (numberI_any b k.length f v w hm hv (by omega))
  have hc : w.cell? ⟨nb, 0, none⟩ = some (.map (some b)) := cell_of_row w nb 0 _ _ _ hb
  have hz : nb < w.heap.size := (Array.getElem?_eq_some_iff.1 hb).1
  have HBX := Lib.hid hb
  have HMP := Lib.hid hm.isMp
  clear hb hm ho hk
  go_enter Try.func105, Try.ntmps105
  go_wp2_with fail
  refine HC.out.mono ?_
  rintro e w1 ⟨i, f', n', rfl, hm1, hi, ho1⟩
  have HR : Hid (i = idxI K v ∧ NumW nb b K vs w1 ∧ Only (fun j => j = b) w w1) := Lib.hid (by
    obtain ⟨h1, k', h2, h3, h4⟩ := HE.out i f' n' hi
    subst h2
    exact ⟨h1, ⟨k', f', box_maps HBX.out ho1 (fun j hj _ => by rw [hj]; exact HMP.out), hm1, h3, h4⟩, ho1⟩)
  clear hm1 hi ho1 HC HE hc hz
  go_wp2
  go_ret
  exact ⟨by rw [HR.out.1]; rfl, HR.out.2⟩

set_option maxRecDepth 100000 in
set_option maxHeartbeats 1000000 in
theorem numbering_any (vs : List Int) (w : World) :
    Calls Try.prog 49 #[] w fun e w' => ∃ nb b : Nat, e = .returned (.func (.func 105) #[] #[.pointer (some ⟨nb, 0, none⟩)]) ∧ NumW nb b (ordL [] vs) vs w' ∧ (w.heap.size ≤ nb ∧ w.heap.size ≤ b) ∧ Below w.heap.size w w' := by
  have hmm := @run_makeMap Try.prog
  have hmf : ∀ (fn : Fn) (first cap : Array Value) (w : World), (Instr.makeFunc fn first cap).run Try.prog w = .ok (.func fn first cap) w := fun _ _ _ _ => rfl
  have hb : Below w.heap.size w ((w.alloc (.map #[] 0)).alloc (.cells #[.map (some w.heap.size)] 61)) := belowAlloc (belowAlloc (Below.refl _ _) _) _
  have HN : Hid (NumW (w.heap.size + 1) w.heap.size (ordL [] vs) vs ((w.alloc (.map #[] 0)).alloc (.cells #[.map (some w.heap.size)] 61))) := Lib.hid ⟨[], _, by
    have := heap_new (w.alloc (.map #[] 0)) (.cells #[.map (some w.heap.size)] 61)
    rwa [World.size_alloc] at this, (mapN_made w).kept (belowAlloc (Below.refl _ _) _), ordF_nil, rfl⟩
  have HB := Lib.hid hb
  clear hb
  go_enter Try.func49, Try.ntmps49
  go_wp2
  go_ret
  exact ⟨w.heap.size + 1, w.heap.size, rfl, HN.out, ⟨by omega, Nat.le_refl _⟩, HB.out⟩

/-! ### Renamed terms -/
/-- A function that gives numbers to variables: what its answers are; what it writes. -/
structure Namer (g : Nat) (X : Value) (val : Int → Int) (T : Nat → Prop) (lo : Nat) (I : List Int → World → Prop) : Prop where
  call : ∀ v vs w, I (v :: vs) w → wfI v → Calls Try.prog g #[.int .i64 v, X] w fun e w' => e = .returned (.int .i64 (val v)) ∧ I vs w' ∧ Only T w w'
  off : ∀ vs w w' (S : Nat → Prop), I vs w → Only S w w' → (∀ j, S j → lo ≤ j) → I vs w'
  low : ∀ vs w, I vs w → lo ≤ w.heap.size
  maps : ∀ vs w, I vs w → ∀ j, T j → j < w.heap.size → isMp w.heap[j]?
  tlo : ∀ j, T j → j < lo
theorem Namer.kept {g : Nat} {X : Value} {val : Int → Int} {T : Nat → Prop} {lo : Nat} {I : List Int → World → Prop} (H : Namer g X val T lo I) {vs : List Int} {w w' : World} (h : I vs w) (hb : Below w.heap.size w w') : I vs w' := H.off vs w w' (fun _ => False) h (Only.of_below hb) fun j h => h.elim
def RenR (val : Int → Int) (T : Nat → Prop) (I : List Int → World → Prop) (vs : List Int) (t : Tm) (w : World) (e : Ending) (w' : World) : Prop :=
  ∃ u, e = .returned (.agg #[.int .i64 (renT val t).kind, .int .i64 (renT val t).num, .string (renT val t).name, u]) ∧ Own w' 25 (iv w.heap.size w'.heap.size) u (renT val t).args ∧ I vs w' ∧ Only T w w'
theorem ren_end {P : Program} {fn : Func} {g : Nat} {X : Value} {val : Int → Int} {T : Nat → Prop} {lo : Nat} {I : List Int → World → Prop} (H : Namer g X val T lo I) {vs : List Int} {t : Tm} {k i : Int} {s : ByteArray} {w wE : World} {a : Act} {p : Tmp} {m lo2 : Nat} {x0 x1 x2 x3 u : Value} {fs : Array Field} (h1 : (renT val t).kind = k) (h2 : (renT val t).num = i) (h3 : (renT val t).name = s) (h : fn.results = #[.cell p 25]) (hp : a.tmps.getD p undef = .pointer (some ⟨m, 0, none⟩)) (hd : a.defers = [])
    (hu : P.underlying 25 = some (.struct fs)) (hi : (P.info? 25).map (·.size) = some 4) (hb : wE.heap[m]? = some (Obj.cells #[x0, x1, x2, x3] 25))
    (hl : lo ≤ w.heap.size) (hm : w.heap.size ≤ m) (hlo : m < lo2) (hI : I vs wE) (hO : Only T w wE) (hn : Own wE 25 (iv lo2 wE.heap.size) u (renT val t).args) :
    bodyPost P fn (RenR val T I vs t w) .ret a ((((wE.setCell ⟨m, 0, none⟩ (.int .i64 k)).setCell ⟨m, 1, none⟩ (.int .i64 i)).setCell ⟨m, 2, none⟩ (.string s)).setCell ⟨m, 3, none⟩ u) := by
  subst h1
  subst h2
  subst h3
  refine bodyPost_four h hp hd hu rfl hi hb fun w' hw => ⟨u, rfl, ?_, H.off _ _ _ _ hI hw (fun j hj => by rw [hj]; omega), ?_⟩
  · refine (hn.frame fun j hj hjs => hw.block j hjs (by have := hj.1; omega)).sub fun j hj => ?_
    have := hw.size
    unfold iv at hj ⊢
    omega
  · exact ⟨hw.os.trans hO.os, hw.tape.trans hO.tape, hw.output.trans hO.output, Nat.le_trans hO.size hw.size, fun j hj hn => (hw.block j (Nat.lt_of_lt_of_le hj hO.size) (by omega)).trans (hO.block j hj hn)⟩
/-- renamed's boxes: its term's, its result's. -/
structure BxR (m : Nat) (t : Tm) (V : Value) (W : World) : Prop where
  ft : W.heap[m]? = some (.cells #[.int .i64 t.kind, .int .i64 t.num, .string t.name, V] 25)
  fr : W.heap[m + 1]? = some (.cells #[.int .i64 0, .int .i64 0, .string ⟨#[]⟩, .slice none 0 0] 25)
theorem BxR.kept {m : Nat} {t : Tm} {V : Value} {W W' : World} (H : BxR m t V W) (hb : Below W.heap.size W W') : BxR m t V W' :=
  ⟨(hb.block _ (Array.getElem?_eq_some_iff.1 H.ft).1).trans H.ft, (hb.block _ (Array.getElem?_eq_some_iff.1 H.fr).1).trans H.fr⟩
theorem BxR.maps {m : Nat} {t : Tm} {V : Value} {W W' : World} {T : Nat → Prop} (H : BxR m t V W) (ho : Only T W W') (hT : ∀ k, T k → k < W.heap.size → isMp W.heap[k]?) : BxR m t V W' := ⟨box_maps H.ft ho hT, box_maps H.fr ho hT⟩

set_option maxRecDepth 100000 in
set_option maxHeartbeats 4000000 in
theorem renamedN_any {X : Value} {val : Int → Int} {T : Nat → Prop} {lo : Nat} {I : List Int → World → Prop} (H : Namer 105 X val T lo I) (N : Nat) : ∀ (t : Tm) (V : Value) (vs : List Int) (w : World), t.nodes < N → ArgsAt w V t.args → Good t → t.sz ≤ 1048576 → I (t.vl ++ vs) w →
    Calls Try.prog 50 #[.agg #[.int .i64 t.kind, .int .i64 t.num, .string t.name, V], .func (.func 105) #[] #[X]] w (RenR val T I vs t w) := by
  induction N with
  | zero => intro t V vs w hN; omega
  | succ N ih =>
    intro t V vs w hN hA hG hZ hI
    obtain ⟨aa, ac, rfl⟩ := hA.slice
    have HI := Lib.hid ih
    have HG := Lib.hid hG
    have HZ := Lib.hid (And.intro hN hZ)
    have HH := Lib.hid H
    have HLO := Lib.hid (H.low _ _ hI)
    have hb1 : Below w.heap.size w ((w.alloc (.cells #[.int .i64 t.kind, .int .i64 t.num, .string t.name, .slice aa t.args.length ac] 25)).alloc (.cells #[.int .i64 0, .int .i64 0, .string ⟨#[]⟩, .slice none 0 0] 25)) := belowAlloc (belowAlloc (Below.refl _ _) _) _
    have HB := Lib.hid hb1
    have HS := Lib.hid (H.kept hI hb1)
    have HA := Lib.hid (hA.kept hb1)
    have HBX : Hid (BxR w.heap.size t (.slice aa t.args.length ac) ((w.alloc (.cells #[.int .i64 t.kind, .int .i64 t.num, .string t.name, .slice aa t.args.length ac] 25)).alloc (.cells #[.int .i64 0, .int .i64 0, .string ⟨#[]⟩, .slice none 0 0] 25))) := Lib.hid ⟨(Below.heap_alloc _ _ _ (by simp)).trans (heap_new w _), by
      have := heap_new (w.alloc (.cells #[.int .i64 t.kind, .int .i64 t.num, .string t.name, .slice aa t.args.length ac] 25)) (.cells #[.int .i64 0, .int .i64 0, .string ⟨#[]⟩, .slice none 0 0] 25)
      rwa [World.size_alloc] at this⟩
    clear ih hN hA hG hZ hI hb1 H
    go_enter Try.func50, Try.ntmps50
    go_upto_region 1 with (fail)
    generalize hw1 : (w.alloc (.cells #[.int .i64 t.kind, .int .i64 t.num, .string t.name, .slice aa t.args.length ac] 25)).alloc (.cells #[.int .i64 0, .int .i64 0, .string ⟨#[]⟩, .slice none 0 0] 25) = w1 at HB HS HA HBX ⊢
    clear hw1
    obtain ⟨c0, c1, c2, c3, _⟩ := box_cells HBX.out.ft
    have zt := (Array.getElem?_eq_some_iff.1 HBX.out.ft).1
    by_cases hk1 : t.kind = 1
    · have q1 : (t.kind == 1) = true := by simp [hk1]
      have hvl : t.vl = [t.num] := vl_of_var hk1
      have HRN := Lib.hid (ren_var (f := val) HG.out hk1)
      have hwf : wfI t.num := by
        have := good_vrange HG.out t.num (by rw [hvl]; exact List.mem_cons_self ..)
        exact wfI_of (by omega) (by omega)
      have HC := Lib.hid (HH.out.call t.num vs w1 (by have := HS.out; rw [hvl] at this; exact this) hwf)
      clear hvl hwf hk1
      go_wp2_with fail
      refine HC.out.mono ?_
      rintro e w2 ⟨rfl, hi2, ho2⟩
      have HE := Lib.hid (And.intro hi2 ((Only.of_below (S := T) HB.out).trans ho2))
      have HR2 := Lib.hid (HBX.out.maps ho2 (HH.out.maps _ _ HS.out)).fr
      have zr : w.heap.size + 1 < w1.heap.size := (Array.getElem?_eq_some_iff.1 HBX.out.fr).1
      have zs := ho2.size
      have HSZ := Lib.hid (And.intro zr zs)
      clear hi2 ho2 HC c0 c1 c2 c3 zt zr zs
      obtain ⟨r0, r1, r2, r3, rf⟩ := box_cells HR2.out
      go_wp2
      exact ren_end HH.out (p := 4) (m := w.heap.size + 1) (lo2 := w2.heap.size) (by rw [HRN.out]; rfl) (by rw [HRN.out]; rfl) (by rw [HRN.out]; rfl) rfl rfl rfl Try.underlying25 (by kernel_rfl) HR2.out HLO.out (by omega) (by have := HSZ.out; omega) HE.out.1 HE.out.2 (by rw [HRN.out]; exact .nil _)
    · have q1 : (t.kind == 1) = false := by simp [hk1]
      have HC := Lib.hid (isPair_any t.kind t.num t.name (.slice aa t.args.length ac) w1)
      go_wp2_with fail
      refine HC.out.mono ?_
      rintro e w2 ⟨rfl, hb⟩
      replace HB := Lib.hid (belowOn HB.out (Nat.le_refl _) hb)
      replace HS := Lib.hid (HH.out.kept HS.out hb)
      replace HA := Lib.hid (HA.out.kept hb)
      replace HBX := Lib.hid (HBX.out.kept hb)
      clear hb HC c0 c1 c2 c3 zt
      obtain ⟨c0, c1, c2, c3, _⟩ := box_cells HBX.out.ft
      have zt := (Array.getElem?_eq_some_iff.1 HBX.out.ft).1
      by_cases hk4 : t.kind = 4
      · have dk : decide (t.kind = 4) = true := decide_eq_true hk4
        obtain ⟨x, y, hxy⟩ := HG.out.fit.pair hk4
        obtain ⟨hgx, hgy⟩ := (good_two HG.out.fit hxy).1 HG.out
        have HRN : Hid (renT val t = .mk 4 0 ⟨#[]⟩ [renT val x, renT val y] ∧ t.vl = x.vl ++ y.vl) := Lib.hid (by
          obtain ⟨h1, h2⟩ := pair_fields HG.out hk4
          have ht : t = .mk 4 0 ⟨#[]⟩ [x, y] := by rw [← Tm.eta t, hk4, h1, h2, hxy]
          rw [ht]
          exact ⟨ren_pair _ _ _, vl_pair _ _⟩)
        have HXY : Hid (x.nodes < N ∧ y.nodes < N ∧ x.sz ≤ 1048576 ∧ y.sz ≤ 1048576 ∧ Good x ∧ Good y) := Lib.hid (by
          have h1 := nodes_eq t
          have h2 := sz_eq t
          rw [hxy, nodesL, nodesL, nodesL] at h1
          rw [hxy, szL, szL, szL] at h2
          have := HZ.out
          exact ⟨by omega, by omega, by omega, by omega, hgx, hgy⟩)
        obtain ⟨pg, poff, u1, u2, v1, v2, rfl, hpg, hpn, hcx, hcy, hux, huy⟩ := HA.out.two hxy
        rw [hpn] at HA HBX c3 ⊢
        have HUX := Lib.hid hux
        have HUY := Lib.hid huy
        have HCX := Lib.hid hcx
        have HCY := Lib.hid hcy
        have HPG := Lib.hid hpg
        clear hux huy hcx hcy hpg hxy hgx hgy hk1 hk4 hpn
        obtain ⟨d0, d1, d2, d3⟩ := HCX.out w2 (Below.refl _ _)
        have HC := Lib.hid (head_any t.kind t.num t.name pg poff 2 ac x.kind x.num x.name u1 x.args.length u2 w2 HPG.out (by omega) (by omega) d0 d1 d2 d3)
        clear d0 d1 d2 d3
        go_wp2_with fail
        refine HC.out.mono ?_
        rintro e w3 ⟨rfl, hb⟩
        replace HB := Lib.hid (belowOn HB.out (Nat.le_refl _) hb)
        replace HS := Lib.hid (HH.out.kept HS.out hb)
        replace HBX := Lib.hid (HBX.out.kept hb)
        replace HUX := Lib.hid (HUX.out.kept hb)
        replace HUY := Lib.hid (HUY.out.kept hb)
        replace HCY : Hid (∀ W, Below w3.heap.size w3 W → W.cell? ⟨pg, poff + 4, none⟩ = some (.int .i64 y.kind) ∧ W.cell? ⟨pg, poff + 4 + 1, none⟩ = some (.int .i64 y.num) ∧ W.cell? ⟨pg, poff + 4 + 2, none⟩ = some (.string y.name) ∧ W.cell? ⟨pg, poff + 4 + 3, none⟩ = some (.slice v1 y.args.length v2)) := Lib.hid fun W hW => HCY.out W (belowOn hb (Nat.le_refl _) hW)
        replace HPG : Hid (pg < w3.heap.size) := Lib.hid (Nat.lt_of_lt_of_le HPG.out hb.size)
        clear hb HC c0 c1 c2 c3 zt HCX HA
        have HC := Lib.hid (HI.out x (.slice u1 x.args.length u2) (y.vl ++ vs) w3 HXY.out.1 HUX.out HXY.out.2.2.2.2.1 HXY.out.2.2.1 (by have := HS.out; rw [HRN.out.2, List.append_assoc] at this; exact this))
        obtain ⟨T0, hT0⟩ : ∃ T0, renT val x = T0 := ⟨_, rfl⟩
        unfold RenR at HC
        rw [hT0] at HC HRN
        clear hT0
        go_wp2_with fail
        refine HC.out.mono ?_
        rintro e w4 ⟨u, rfl, hown, hi4, ho4⟩
        obtain ⟨a0, c0, rfl⟩ := hown.argsAt.slice
        have hmp := HH.out.maps _ _ HS.out
        have HB4 : Hid (Only T w w4) := Lib.hid ((Only.of_below HB.out).trans ho4)
        have HBX4 := Lib.hid (HBX.out.maps ho4 hmp)
        have HUY4 := Lib.hid (HUY.out.maps ho4 hmp)
        have HCY4 : Hid (∀ W, Below w4.heap.size w4 W → W.cell? ⟨pg, poff + 4, none⟩ = some (.int .i64 y.kind) ∧ W.cell? ⟨pg, poff + 4 + 1, none⟩ = some (.int .i64 y.num) ∧ W.cell? ⟨pg, poff + 4 + 2, none⟩ = some (.string y.name) ∧ W.cell? ⟨pg, poff + 4 + 3, none⟩ = some (.slice v1 y.args.length v2)) := Lib.hid (by
          obtain ⟨d0, d1, d2, d3⟩ := HCY.out w3 (Below.refl _ _)
          have hnT : ¬ T pg := fun h => cell_not_map d0 (hmp pg h HPG.out)
          have hk : ∀ (i : Nat) (z : Value), w3.cell? ⟨pg, i, none⟩ = some z → ∀ W, Below w4.heap.size w4 W → W.cell? ⟨pg, i, none⟩ = some z := fun i z hz W hW =>
            (World.cell?_of_block (a := ⟨pg, i, none⟩) ((hW.block pg (Nat.lt_of_lt_of_le HPG.out ho4.size)).trans (ho4.block pg HPG.out hnT))).trans hz
          exact fun W hW => ⟨hk _ _ d0 W hW, hk _ _ d1 W hW, hk _ _ d2 W hW, hk _ _ d3 W hW⟩)
        have HPG4 : Hid (pg < w4.heap.size) := Lib.hid (Nat.lt_of_lt_of_le HPG.out ho4.size)
        have HI4 := Lib.hid hi4
        have HW3 : Hid (w.heap.size + 1 < w3.heap.size ∧ w3.heap.size ≤ w4.heap.size) := Lib.hid ⟨(Array.getElem?_eq_some_iff.1 HBX.out.fr).1, ho4.size⟩
        have HOW := Lib.hid hown
        clear hown hi4 ho4 HC HB HS HBX HUX HUY HCY HPG hmp
        go_upto_region 5 with (fail)
        have hal : Below w4.heap.size w4 (w4.alloc (.cells #[.int .i64 T0.kind, .int .i64 T0.num, .string T0.name, .slice a0 T0.args.length c0] 25)) := belowAlloc (Below.refl _ _) _
        have HX5 := Lib.hid (heap_new w4 (.cells #[.int .i64 T0.kind, .int .i64 T0.num, .string T0.name, .slice a0 T0.args.length c0] 25))
        have HAL := Lib.hid hal
        replace HB4 := Lib.hid (HB4.out.trans (Only.of_below hal))
        replace HBX4 := Lib.hid (HBX4.out.kept hal)
        replace HUY4 := Lib.hid (HUY4.out.kept hal)
        replace HI4 := Lib.hid (HH.out.kept HI4.out hal)
        replace HOW := Lib.hid (HOW.out.kept hal)
        replace HCY4 : Hid (∀ W, Below (w4.alloc (.cells #[.int .i64 T0.kind, .int .i64 T0.num, .string T0.name, .slice a0 T0.args.length c0] 25)).heap.size (w4.alloc (.cells #[.int .i64 T0.kind, .int .i64 T0.num, .string T0.name, .slice a0 T0.args.length c0] 25)) W → W.cell? ⟨pg, poff + 4, none⟩ = some (.int .i64 y.kind) ∧ W.cell? ⟨pg, poff + 4 + 1, none⟩ = some (.int .i64 y.num) ∧ W.cell? ⟨pg, poff + 4 + 2, none⟩ = some (.string y.name) ∧ W.cell? ⟨pg, poff + 4 + 3, none⟩ = some (.slice v1 y.args.length v2)) := Lib.hid fun W hW => HCY4.out W (belowOn hal (Nat.le_refl _) hW)
        replace HPG4 := Lib.hid (Nat.lt_of_lt_of_le HPG4.out hal.size)
        have hs5 := hal.size
        have HS5 : Hid (w4.heap.size < (w4.alloc (.cells #[.int .i64 T0.kind, .int .i64 T0.num, .string T0.name, .slice a0 T0.args.length c0] 25)).heap.size) := Lib.hid (by rw [World.size_alloc]; omega)
        clear hal hs5 HAL
        generalize hw5 : w4.alloc (.cells #[.int .i64 T0.kind, .int .i64 T0.num, .string T0.name, .slice a0 T0.args.length c0] 25) = w5 at HX5 HB4 HBX4 HUY4 HI4 HOW HCY4 HPG4 HS5 ⊢
        clear hw5
        obtain ⟨n5, hn5⟩ : ∃ n5, w4.heap.size = n5 := ⟨_, rfl⟩
        rw [hn5] at HX5 HOW HW3 HS5 ⊢
        clear hn5
        obtain ⟨T1, hT1⟩ : ∃ T1, renT val y = T1 := ⟨_, rfl⟩
        have HT1 := Lib.hid hT1
        rw [hT1] at HRN
        clear hT1
        have hself : Below w5.heap.size w5 w5 := Below.refl _ _
        have hdrew : Below w5.heap.size w5 w5.drew := hself.drew
        have HCL : Hid (∀ W : World, BxR w.heap.size t (.slice (some ⟨pg, poff, none⟩) 2 ac) W → W.heap[n5]? = some (.cells #[.int .i64 T0.kind, .int .i64 T0.num, .string T0.name, .slice a0 T0.args.length c0] 25) → W.cell? ⟨w.heap.size, 0, none⟩ = some (.int .i64 t.kind) ∧ W.cell? ⟨w.heap.size, 1, none⟩ = some (.int .i64 t.num) ∧ W.cell? ⟨w.heap.size, 2, none⟩ = some (.string t.name) ∧ W.cell? ⟨w.heap.size, 3, none⟩ = some (.slice (some ⟨pg, poff, none⟩) 2 ac) ∧ W.cell? ⟨n5, 0, none⟩ = some (.int .i64 T0.kind) ∧ W.cell? ⟨n5, 1, none⟩ = some (.int .i64 T0.num) ∧ W.cell? ⟨n5, 2, none⟩ = some (.string T0.name) ∧ W.cell? ⟨n5, 3, none⟩ = some (.slice a0 T0.args.length c0)) := Lib.hid fun W h1 h2 => by
          obtain ⟨a1, a2, a3, a4, _⟩ := box_cells h1.ft
          obtain ⟨e1, e2, e3, e4, _⟩ := box_cells h2
          exact ⟨a1, a2, a3, a4, e1, e2, e3, e4⟩
        have HE1 : Hid (∀ W, Below w5.heap.size w5 W → Calls Try.prog 95 #[.agg #[.int .i64 t.kind, .int .i64 t.num, .string t.name, .slice (some ⟨pg, poff, none⟩) 2 ac]] W fun e wm => e = .returned (.agg #[.int .i64 y.kind, .int .i64 y.num, .string y.name, .slice v1 y.args.length v2]) ∧ (wm.cell? ⟨w.heap.size, 0, none⟩ = some (.int .i64 t.kind) ∧ wm.cell? ⟨w.heap.size, 1, none⟩ = some (.int .i64 t.num) ∧ wm.cell? ⟨w.heap.size, 2, none⟩ = some (.string t.name) ∧ wm.cell? ⟨w.heap.size, 3, none⟩ = some (.slice (some ⟨pg, poff, none⟩) 2 ac) ∧ wm.cell? ⟨n5, 0, none⟩ = some (.int .i64 T0.kind) ∧ wm.cell? ⟨n5, 1, none⟩ = some (.int .i64 T0.num) ∧ wm.cell? ⟨n5, 2, none⟩ = some (.string T0.name) ∧ wm.cell? ⟨n5, 3, none⟩ = some (.slice a0 T0.args.length c0)) ∧ Hid (∀ W2, Below wm.heap.size wm W2 → Calls Try.prog 50 #[.agg #[.int .i64 y.kind, .int .i64 y.num, .string y.name, .slice v1 y.args.length v2], .func (.func 105) #[] #[X]] W2 fun e wn => ∃ (a1 : Option Addr) (c1 : Nat), e = .returned (.agg #[.int .i64 T1.kind, .int .i64 T1.num, .string T1.name, .slice a1 T1.args.length c1]) ∧ (wn.cell? ⟨w.heap.size, 0, none⟩ = some (.int .i64 t.kind) ∧ wn.cell? ⟨w.heap.size, 1, none⟩ = some (.int .i64 t.num) ∧ wn.cell? ⟨w.heap.size, 2, none⟩ = some (.string t.name) ∧ wn.cell? ⟨w.heap.size, 3, none⟩ = some (.slice (some ⟨pg, poff, none⟩) 2 ac) ∧ wn.cell? ⟨n5, 0, none⟩ = some (.int .i64 T0.kind) ∧ wn.cell? ⟨n5, 1, none⟩ = some (.int .i64 T0.num) ∧ wn.cell? ⟨n5, 2, none⟩ = some (.string T0.name) ∧ wn.cell? ⟨n5, 3, none⟩ = some (.slice a0 T0.args.length c0)) ∧
          Hid (∀ W, Below wn.heap.size wn W → W.cell? ⟨w.heap.size, 0, none⟩ = some (.int .i64 t.kind) ∧ W.cell? ⟨w.heap.size, 1, none⟩ = some (.int .i64 t.num) ∧ W.cell? ⟨w.heap.size, 2, none⟩ = some (.string t.name) ∧ W.cell? ⟨w.heap.size, 3, none⟩ = some (.slice (some ⟨pg, poff, none⟩) 2 ac) ∧ W.cell? ⟨n5, 0, none⟩ = some (.int .i64 T0.kind) ∧ W.cell? ⟨n5, 1, none⟩ = some (.int .i64 T0.num) ∧ W.cell? ⟨n5, 2, none⟩ = some (.string T0.name) ∧ W.cell? ⟨n5, 3, none⟩ = some (.slice a0 T0.args.length c0)) ∧ Hid (BxR w.heap.size t (.slice (some ⟨pg, poff, none⟩) 2 ac) wn ∧ Own wn 25 (iv w3.heap.size n5) (.slice a0 T0.args.length c0) T0.args ∧ Own wn 25 (iv W2.heap.size wn.heap.size) (.slice a1 T1.args.length c1) T1.args ∧ Only T w wn ∧ I vs wn ∧ w5.heap.size ≤ W2.heap.size ∧ W2.heap.size ≤ wn.heap.size))) := Lib.hid fun W hW => by
          obtain ⟨d0, d1, d2, d3⟩ := HCY4.out W hW
          refine (tail_any t.kind t.num t.name pg poff 2 ac y.kind y.num y.name v1 y.args.length v2 W (Nat.lt_of_lt_of_le HPG4.out hW.size) (by omega) (by omega) d0 d1 d2 d3).mono ?_
          rintro e wm ⟨rfl, hb⟩
          have hWm := belowOn hW (Nat.le_refl _) hb
          have hBm := HBX4.out.kept hWm
          have hnm := (hWm.block _ (Array.getElem?_eq_some_iff.1 HX5.out).1).trans HX5.out
          refine ⟨rfl, HCL.out wm hBm hnm, Lib.hid fun W2 hW2 => ?_⟩
          have hW2m := belowOn hWm (Nat.le_refl _) hW2
          have hI2 := HH.out.kept HI4.out hW2m
          have hc := HI.out y (.slice v1 y.args.length v2) vs W2 HXY.out.2.1 (HUY4.out.kept hW2m) HXY.out.2.2.2.2.2 HXY.out.2.2.2.1 hI2
          unfold RenR at hc
          rw [HT1.out] at hc
          refine hc.mono ?_
          rintro e wn ⟨u, rfl, g1, g2, g3⟩
          obtain ⟨a1, c1, rfl⟩ := g1.argsAt.slice
          have hmp := HH.out.maps _ _ hI2
          have hBn := (hBm.kept hW2).maps g3 hmp
          have hn2 := box_maps ((hW2.block _ (Array.getElem?_eq_some_iff.1 hnm).1).trans hnm) g3 hmp
          have hlo := HLO.out
          have hw3 := HW3.out
          exact ⟨a1, c1, rfl, HCL.out wn hBn hn2, Lib.hid fun W hW => HCL.out W (hBn.kept hW) ((hW.block _ (Array.getElem?_eq_some_iff.1 hn2).1).trans hn2), Lib.hid ⟨hBn, (HOW.out.kept hW2m).frame fun j hj hjs => g3.block j hjs (fun hT => by have h1 := HH.out.tlo j hT; have h2 := hj.1; omega), g1, (HB4.out.trans (Only.of_below hW2m)).trans g3, g2, hW2m.size, g3.size⟩⟩
        have HPO : Hid (∀ (W : World) (a1 : Option Addr) (c1 : Nat), Calls Try.prog 94 #[.agg #[.int .i64 T0.kind, .int .i64 T0.num, .string T0.name, .slice a0 T0.args.length c0], .agg #[.int .i64 T1.kind, .int .i64 T1.num, .string T1.name, .slice a1 T1.args.length c1]] W fun e wp => ∃ gp, e = .returned (.agg #[.int .i64 4, .int .i64 0, .string ⟨#[]⟩, .slice (some ⟨gp, 0, none⟩) 2 2]) ∧ W.heap.size ≤ gp ∧ gp < wp.heap.size ∧ wp.heap[gp]? = some (.cells #[.int .i64 T0.kind, .int .i64 T0.num, .string T0.name, .slice a0 T0.args.length c0, .int .i64 T1.kind, .int .i64 T1.num, .string T1.name, .slice a1 T1.args.length c1] 25) ∧ Below W.heap.size W wp) := Lib.hid fun W a1 c1 => pairOf_any _ _ _ _ _ _ _ _ _ _ _ _ W
        obtain ⟨k0, k1, k2, k3, k4, k5, k6, k7⟩ := HCL.out w5 HBX4.out HX5.out
        have y1 := (Array.getElem?_eq_some_iff.1 HBX4.out.ft).1
        have y2 := (Array.getElem?_eq_some_iff.1 HX5.out).1
        have ne1 : ¬ n5 = w.heap.size + 1 := by have h1 := HW3.out; omega
        have ne2 : ¬ w.heap.size + 1 = n5 := fun e => ne1 e.symm
        refine wp_region_held_drew (S := (fun w' => w'.cell? ⟨w.heap.size, 0, none⟩ = some (.int .i64 t.kind) ∧ w'.cell? ⟨w.heap.size, 1, none⟩ = some (.int .i64 t.num) ∧ w'.cell? ⟨w.heap.size, 2, none⟩ = some (.string t.name) ∧ w'.cell? ⟨w.heap.size, 3, none⟩ = some (.slice (some ⟨pg, poff, none⟩) 2 ac) ∧ w'.cell? ⟨n5, 0, none⟩ = some (.int .i64 T0.kind) ∧ w'.cell? ⟨n5, 1, none⟩ = some (.int .i64 T0.num) ∧ w'.cell? ⟨n5, 2, none⟩ = some (.string T0.name) ∧ w'.cell? ⟨n5, 3, none⟩ = some (.slice a0 T0.args.length c0))) (by kernel_rfl) (by (try dsimp only); go_keep) (fun hHeld => ?_)
        (refine wpAnyH_take (i := 0) (oi := ⟨_, _, _, _, _, _⟩) (v := ?_) rfl (by kernel_rfl) (by kernel_rfl) (by kernel_rfl) (fun _ _ _ h => h) (Or.inl ⟨by rfl, ?_⟩) (by assumption) ?_; rotate_left; focus ((intro w' hSw; (try dsimp only at hSw); go_simp; (try with_reducible rfl)))); (try simp only [Act.put, List.setIfInBounds_toArray, List.set_cons_zero, List.set_cons_succ])
        (refine wpAnyH_take (i := 1) (oi := ⟨_, _, _, _, _, _⟩) (v := ?_) rfl (by kernel_rfl) (by kernel_rfl) (by kernel_rfl) (fun _ _ _ h => h) (Or.inl ⟨by rfl, ?_⟩) (by assumption) ?_; rotate_left; focus ((intro w' hSw; (try dsimp only at hSw); go_simp; (try with_reducible rfl)))); (try simp only [Act.put, List.setIfInBounds_toArray, List.set_cons_zero, List.set_cons_succ])
        (refine wpAnyH_take (i := 3) (oi := ⟨_, _, _, _, _, _⟩) (v := ?_) rfl (by kernel_rfl) (by kernel_rfl) (by kernel_rfl) (fun _ _ _ h => h) (Or.inl ⟨by rfl, ?_⟩) (by assumption) ?_; rotate_left; focus ((intro w' hSw; (try dsimp only at hSw); go_simp; (try with_reducible rfl)))); (try simp only [Act.put, List.setIfInBounds_toArray, List.set_cons_zero, List.set_cons_succ])
        refine wpAnyH_ready (rs := [2]) (by kernel_rfl) (by simp) ?_
        refine AllReadyH.cons (o := ⟨_, _, _, _, _, _⟩) rfl (fun K hK => ?_) AllReadyH.nil
        go_simp
        (go_at_call 95; (with_reducible refine Calls.mono (HE1.out _ ?_) ?_); (assumption); rintro e wm ⟨rfl, ⟨k0, k1, k2, k3, k4, k5, k6, k7⟩, HC2⟩; have hm0 := Below.refl wm.heap.size wm)
        (try go_wp2_with fail)
        refine hK.out _ _ (by (try dsimp only); (first | go_keep | (refine ⟨by assumption, ?_⟩; go_keep))) (fun hHeld => ?_)
        clear hK K
        (try simp only [Act.put, List.setIfInBounds_toArray, List.set_cons_zero, List.set_cons_succ])
        refine wpAnyH_ready (rs := [4]) (by kernel_rfl) (by simp) ?_
        refine AllReadyH.cons (o := ⟨_, _, _, _, _, _⟩) rfl (fun K hK => ?_) AllReadyH.nil
        go_simp
        (go_at_call 50; (with_reducible refine Calls.mono (HC2.out _ ?_) ?_); (assumption); rintro e wn ⟨a1, c1, rfl, ⟨k0, k1, k2, k3, k4, k5, k6, k7⟩, HCN, HBN⟩)
        (try go_wp2_with fail)
        refine hK.out _ _ (by (try dsimp only); (first | go_keep | (refine ⟨by assumption, ?_⟩; go_keep))) (fun hHeld => ?_)
        clear hK K
        (try simp only [Act.put, List.setIfInBounds_toArray, List.set_cons_zero, List.set_cons_succ])
        refine wpAnyH_ready (rs := [5]) (by kernel_rfl) (by simp) ?_
        refine AllReadyH.cons (o := ⟨_, _, _, _, _, _⟩) rfl (fun K hK => ?_) AllReadyH.nil
        go_simp
        (go_at_call 94; (with_reducible refine Calls.mono (HPO.out _ _ _) ?_); rintro e wp ⟨gp, rfl, hp1, hp2, hp3, hb⟩; obtain ⟨k0, k1, k2, k3, k4, k5, k6, k7⟩ := HCN.out _ hb; have HPP := Lib.hid (And.intro hp1 (And.intro hp2 (And.intro hp3 hb))); have HBP := Lib.hid (HBN.out.1.kept hb); clear hp1 hp2 hp3 hb; obtain ⟨s0, s1, s2, s3, sf⟩ := box_cells HBP.out.fr; have y6 := (Array.getElem?_eq_some_iff.1 HBP.out.fr).1)
        (try go_wp2_with fail)
        refine hK.out _ _ (by (try dsimp only); (first | go_keep | (refine ⟨by assumption, ?_⟩; go_keep))) (fun hHeld => ?_)
        clear hK K
        (try simp only [Act.put, List.setIfInBounds_toArray, List.set_cons_zero, List.set_cons_succ])
        refine wpAnyH_ready (rs := [6]) (by kernel_rfl) (by simp) ?_
        refine AllReadyH.cons (o := ⟨_, _, _, _, _, _⟩) rfl (fun K hK => ?_) AllReadyH.nil
        go_simp
        skip
        (try go_wp2_with fail)
        refine hK.out _ _ (by (try dsimp only); (first | go_keep | (refine ⟨by assumption, ?_⟩; go_keep))) (fun hHeld => ?_)
        clear hK K
        (try simp only [Act.put, List.setIfInBounds_toArray, List.set_cons_zero, List.set_cons_succ])
        refine wpAnyH_done (by kernel_rfl) ?_ _
        clear s0 s1 s2 s3 sf y6 hHeld k0 k1 k2 k3 k4 k5 k6 k7
        go_wp2
        have hw3 := HW3.out
        have hs5 := HS5.out
        have hs1 := HBN.out.2.2.2.2.2.1
        have hs2 := HBN.out.2.2.2.2.2.2
        have hs3 := HPP.out.2.2.2.size
        have hs4 := HPP.out.1
        have hs6 := HPP.out.2.1
        exact ren_end HH.out (p := 4) (m := w.heap.size + 1) (lo2 := w3.heap.size) (by rw [HRN.out.1]; rfl) (by rw [HRN.out.1]; rfl) (by rw [HRN.out.1]; rfl) rfl rfl rfl Try.underlying25 (by kernel_rfl) HBP.out.fr HLO.out (by omega) hw3.1 (HH.out.kept HBN.out.2.2.2.2.1 HPP.out.2.2.2) (HBN.out.2.2.2.1.trans (Only.of_below HPP.out.2.2.2)) (by
          rw [HRN.out.1]
          exact own_pair (Sa := iv w3.heap.size n5) HPP.out.2.2.1 (by unfold iv; omega) (HBN.out.2.1.kept HPP.out.2.2.2) (HBN.out.2.2.1.kept HPP.out.2.2.2) (fun j hj => by unfold iv at hj ⊢; omega) (fun j hj => by unfold iv at hj ⊢; omega) (fun j hj hj2 => by unfold iv at hj hj2; omega))
      · have dk : decide (t.kind = 4) = false := decide_eq_false hk4
        have HRN := Lib.hid (ren_atom (f := val) HG.out hk1 hk4)
        have HVL : Hid (t.vl = []) := Lib.hid (by rw [vl_eq, if_neg hk1, HG.out.fit.atom hk4]; rfl)
        have HC := Lib.hid (copied_any (t.nodes + 1) t _ w2 (Nat.lt_succ_self _) HA.out HZ.out.2 HG.out)
        clear hk1 hk4
        go_wp2_with fail
        refine HC.out.mono ?_
        rintro e w3 ⟨u, rfl, hu, hb⟩
        obtain ⟨ua, uc, rfl⟩ := hu.argsAt.slice
        have HU5 := Lib.hid hu
        have HB5 := Lib.hid hb
        have HR5 := Lib.hid (HBX.out.kept hb).fr
        have HM5 : Hid (w.heap.size + 1 < w2.heap.size) := Lib.hid (Array.getElem?_eq_some_iff.1 HBX.out.fr).1
        clear hu hb HC c0 c1 c2 c3 zt
        obtain ⟨r0, r1, r2, r3, rf⟩ := box_cells HR5.out
        go_wp2
        exact ren_end HH.out (p := 4) (m := w.heap.size + 1) (lo2 := w2.heap.size) (by rw [HRN.out]) (by rw [HRN.out]) (by rw [HRN.out]) rfl rfl rfl Try.underlying25 (by kernel_rfl) HR5.out HLO.out (by omega) HM5.out (by have := HH.out.kept HS.out HB5.out; rw [HVL.out] at this; exact this) ((Only.of_below HB.out).trans (Only.of_below HB5.out)) (by rw [HRN.out]; exact HU5.out)
end Go.Proofs.Ytoihimdfmncdoaa

