/-
  The program's numbering of variables (a closure over a map), and terms whose variables are given new numbers by a function. (Written by wip/tools/gen_naming.py.)
-/
import Derived.Test.YtjpkkhhcpcokaaaNameP
import Derived.Test.YtjpkkhhcpcokaaaImplGen
import Derived.Test.YtjpkkhhcpcokaaaNews
import Derived.Deep.RegionHeld3
namespace Go.Proofs.Ytjpkkhhcpcokaaa
open Go.RowKit
set_option linter.unusedVariables false
set_option linter.unusedSimpArgs false

/-! ### The numbering -/
theorem num_step {k vs K : List Int} {f f' : Int → Option Nat} {v : Int} {i n' : Nat} (ho : OrdF k f) (hk : ordL k (v :: vs) = K) (hi : NumIn f k.length v i f' n') : i = idxI K v ∧ ∃ k', k'.length = n' ∧ OrdF k' f' ∧ ordL k' vs = K := by
  rcases hi with ⟨hf, rfl, rfl⟩ | ⟨hf, rfl, rfl, rfl⟩
  · obtain ⟨h1, h2⟩ := ho.in_ hf
    refine ⟨by rw [← hk, idxI_first, h2], k, rfl, ho, ?_⟩
    rw [← hk, ordL_cons, ordAdd_in h1]
  · have hv := ho.out hf
    refine ⟨by rw [← hk, idxI_first, idxI_out hv], k ++ [v], by simp, ⟨?_, fun x j => ?_⟩, ?_⟩
    · rw [← ordAdd_out hv]; exact ordAdd_nodup ho.1
    · unfold updNm
      by_cases e : x = v
      · subst e
        rw [if_pos rfl]
        constructor
        · intro h; cases h; simp
        · intro h
          by_cases hj : j < k.length
          · rw [List.getElem?_append_left hj] at h
            exact absurd (List.mem_of_getElem? h) hv
          · have := (List.getElem?_eq_some_iff.1 h).1
            simp at this
            have : j = k.length := by omega
            rw [this]
      · rw [if_neg e, ho.2]
        constructor
        · intro h; rw [List.getElem?_append_left (List.getElem?_eq_some_iff.1 h).1]; exact h
        · intro h
          by_cases hj : j < k.length
          · rwa [List.getElem?_append_left hj] at h
          · rw [List.getElem?_append_right (by omega)] at h
            have := (List.getElem?_eq_some_iff.1 h).1
            simp at this
            have hz : j - k.length = 0 := by omega
            rw [hz] at h
            simp at h
            exact absurd h.symm e
    · rw [← hk, ordL_cons, ordAdd_out hv]
/-- numbering's variable at nb, its map at b: the variables vs are still to come, K is what the order will be. -/
def NumW (nb b : Nat) (K vs : List Int) (w : World) : Prop :=
  ∃ (k : List Int) (f : Int → Option Nat), w.heap[nb]? = some (.cells #[.map (some b)] 82) ∧ MapN 3 (Value.int .i64) wfI w b k.length f ∧ OrdF k f ∧ ordL k vs = K
theorem NumW.off {nb b : Nat} {K vs : List Int} {w w' : World} {S : Nat → Prop} (h : NumW nb b K vs w) (ho : Only S w w') (h1 : ¬ S nb) (h2 : ¬ S b) : NumW nb b K vs w' := by
  obtain ⟨k, f, hb, hm, hr⟩ := h
  exact ⟨k, f, (ho.block _ (Array.getElem?_eq_some_iff.1 hb).1 h1).trans hb, hm.frame (ho.block _ hm.lt h2), hr⟩
theorem NumW.kept {nb b : Nat} {K vs : List Int} {w w' : World} (h : NumW nb b K vs w) (hb : Below w.heap.size w w') : NumW nb b K vs w' := h.off (S := fun _ => False) (Only.of_below hb) id id
theorem NumW.lt {nb b : Nat} {K vs : List Int} {w : World} (h : NumW nb b K vs w) : nb < w.heap.size ∧ b < w.heap.size := by
  obtain ⟨k, f, hb, hm, hr⟩ := h
  exact ⟨(Array.getElem?_eq_some_iff.1 hb).1, hm.lt⟩
theorem NumW.isMp {nb b : Nat} {K vs : List Int} {w : World} (h : NumW nb b K vs w) : isMp w.heap[b]? := by
  obtain ⟨k, f, hb, hm, hr⟩ := h
  exact hm.isMp

set_option maxRecDepth 100000 in
set_option maxHeartbeats 1000000 in
theorem number_any (nb b : Nat) (K vs : List Int) (v : Int) (w : World) (h : NumW nb b K (v :: vs) w) (hv : wfI v) (hK : K.length ≤ 1048576) :
    Calls Try.prog 158 #[.int .i64 v, .pointer (some ⟨nb, 0, none⟩)] w fun e w' => e = .returned (.int .i64 ((idxI K v : Nat) : Int)) ∧ NumW nb b K vs w' ∧ Only (fun j => j = b) w w' := by
  obtain ⟨k, f, hb, hm, ho, hk⟩ := h
  have hkl : k.length ≤ K.length := by
    obtain ⟨m, hm'⟩ := ordL_pre (v :: vs) k
    rw [hk] at hm'
    rw [hm', List.length_append]
    omega
  have HE := Lib.hid (fun i f' n' => num_step (i := i) (f' := f') (n' := n') ho hk)
  have HC := Lib.hid (numberI_any b k.length f v w hm hv (by omega))
  have hc : w.cell? ⟨nb, 0, none⟩ = some (.map (some b)) := cell_of_row w nb 0 _ _ _ hb
  have hz : nb < w.heap.size := (Array.getElem?_eq_some_iff.1 hb).1
  have HBX := Lib.hid hb
  have HMP := Lib.hid hm.isMp
  clear hb hm ho hk
  go_enter Try.func158, Try.ntmps158
  go_wp2_with fail
  refine HC.out.mono ?_
  rintro e w1 ⟨i, f', n', rfl, hm1, hi, ho1⟩
  have HR : Hid (i = idxI K v ∧ NumW nb b K vs w1 ∧ Only (fun j => j = b) w w1) := Lib.hid (by
    obtain ⟨h1, k', h2, h3, h4⟩ := HE.out i f' n' hi
    subst h2
    exact ⟨h1, ⟨k', f', box_maps HBX.out ho1 (fun j hj _ => by rw [hj]; exact HMP.out), hm1, h3, h4⟩, ho1⟩)
  clear hm1 hi ho1 HC HE hc hz
  go_wp2
  go_ret
  exact ⟨by rw [HR.out.1]; rfl, HR.out.2⟩

set_option maxRecDepth 100000 in
set_option maxHeartbeats 1000000 in
theorem numbering_any (vs : List Int) (w : World) :
    Calls Try.prog 133 #[] w fun e w' => ∃ nb b : Nat, e = .returned (.func (.func 158) #[] #[.pointer (some ⟨nb, 0, none⟩)]) ∧ NumW nb b (ordL [] vs) vs w' ∧ (w.heap.size ≤ nb ∧ w.heap.size ≤ b) ∧ Below w.heap.size w w' := by
  have hmm := @run_makeMap Try.prog
  have hmf : ∀ (fn : Fn) (first cap : Array Value) (w : World), (Instr.makeFunc fn first cap).run Try.prog w = .ok (.func fn first cap) w := fun _ _ _ _ => rfl
  have hb : Below w.heap.size w ((w.alloc (.map #[] 0)).alloc (.cells #[.map (some w.heap.size)] 82)) := belowAlloc (belowAlloc (Below.refl _ _) _) _
  have HN : Hid (NumW (w.heap.size + 1) w.heap.size (ordL [] vs) vs ((w.alloc (.map #[] 0)).alloc (.cells #[.map (some w.heap.size)] 82))) := Lib.hid ⟨[], _, by
    have := heap_new (w.alloc (.map #[] 0)) (.cells #[.map (some w.heap.size)] 82)
    rwa [World.size_alloc] at this, (mapN_made w).kept (belowAlloc (Below.refl _ _) _), ordF_nil, rfl⟩
  have HB := Lib.hid hb
  clear hb
  go_enter Try.func133, Try.ntmps133
  go_wp2
  go_ret
  exact ⟨w.heap.size + 1, w.heap.size, rfl, HN.out, ⟨by omega, Nat.le_refl _⟩, HB.out⟩

/-! ### Renamed terms -/
/-- A function that gives numbers to variables: what its answers are; what it writes. -/
structure Namer (g : Nat) (X : Value) (val : Int → Int) (T : Nat → Prop) (lo : Nat) (I : List Int → World → Prop) : Prop where
  call : ∀ v vs w, I (v :: vs) w → wfI v → Calls Try.prog g #[.int .i64 v, X] w fun e w' => e = .returned (.int .i64 (val v)) ∧ I vs w' ∧ Only T w w'
  off : ∀ vs w w' (S : Nat → Prop), I vs w → Only S w w' → (∀ j, S j → lo ≤ j) → I vs w'
  low : ∀ vs w, I vs w → lo ≤ w.heap.size
  maps : ∀ vs w, I vs w → ∀ j, T j → j < w.heap.size → isMp w.heap[j]?
  tlo : ∀ j, T j → j < lo
theorem Namer.kept {g : Nat} {X : Value} {val : Int → Int} {T : Nat → Prop} {lo : Nat} {I : List Int → World → Prop} (H : Namer g X val T lo I) {vs : List Int} {w w' : World} (h : I vs w) (hb : Below w.heap.size w w') : I vs w' := H.off vs w w' (fun _ => False) h (Only.of_below hb) fun j h => h.elim
def RenR (val : Int → Int) (T : Nat → Prop) (I : List Int → World → Prop) (vs : List Int) (t : Tm) (w : World) (e : Ending) (w' : World) : Prop :=
  ∃ u, e = .returned (.agg #[.int .i64 (renT val t).kind, .int .i64 (renT val t).num, .string (renT val t).name, u]) ∧ Own w' 46 (iv w.heap.size w'.heap.size) u (renT val t).args ∧ I vs w' ∧ Only T w w'
theorem ren_end {P : Program} {fn : Func} {g : Nat} {X : Value} {val : Int → Int} {T : Nat → Prop} {lo : Nat} {I : List Int → World → Prop} (H : Namer g X val T lo I) {vs : List Int} {t : Tm} {k i : Int} {s : ByteArray} {w wE : World} {a : Act} {p : Tmp} {m lo2 : Nat} {x0 x1 x2 x3 u : Value} {fs : Array Field} (h1 : (renT val t).kind = k) (h2 : (renT val t).num = i) (h3 : (renT val t).name = s) (h : fn.results = #[.cell p 46]) (hp : a.tmps.getD p undef = .pointer (some ⟨m, 0, none⟩)) (hd : a.defers = [])
    (hu : P.underlying 46 = some (.struct fs)) (hi : (P.info? 46).map (·.size) = some 4) (hb : wE.heap[m]? = some (Obj.cells #[x0, x1, x2, x3] 46))
    (hl : lo ≤ w.heap.size) (hm : w.heap.size ≤ m) (hlo : m < lo2) (hI : I vs wE) (hO : Only T w wE) (hn : Own wE 46 (iv lo2 wE.heap.size) u (renT val t).args) :
    bodyPost P fn (RenR val T I vs t w) .ret a ((((wE.setCell ⟨m, 0, none⟩ (.int .i64 k)).setCell ⟨m, 1, none⟩ (.int .i64 i)).setCell ⟨m, 2, none⟩ (.string s)).setCell ⟨m, 3, none⟩ u) := by
  subst h1
  subst h2
  subst h3
  refine bodyPost_four h hp hd hu rfl hi hb fun w' hw => ⟨u, rfl, ?_, H.off _ _ _ _ hI hw (fun j hj => by rw [hj]; omega), ?_⟩
  · refine (hn.frame fun j hj hjs => hw.block j hjs (by have := hj.1; omega)).sub fun j hj => ?_
    have := hw.size
    unfold iv at hj ⊢
    omega
  · exact ⟨hw.os.trans hO.os, hw.tape.trans hO.tape, hw.output.trans hO.output, Nat.le_trans hO.size hw.size, fun j hj hn => (hw.block j (Nat.lt_of_lt_of_le hj hO.size) (by omega)).trans (hO.block j hj hn)⟩
/-- renamed's boxes: its term's, its result's. -/
structure BxR (m : Nat) (t : Tm) (V : Value) (W : World) : Prop where
  ft : W.heap[m]? = some (.cells #[.int .i64 t.kind, .int .i64 t.num, .string t.name, V] 46)
  fr : W.heap[m + 1]? = some (.cells #[.int .i64 0, .int .i64 0, .string ⟨#[]⟩, .slice none 0 0] 46)
theorem BxR.kept {m : Nat} {t : Tm} {V : Value} {W W' : World} (H : BxR m t V W) (hb : Below W.heap.size W W') : BxR m t V W' :=
  ⟨(hb.block _ (Array.getElem?_eq_some_iff.1 H.ft).1).trans H.ft, (hb.block _ (Array.getElem?_eq_some_iff.1 H.fr).1).trans H.fr⟩
theorem BxR.maps {m : Nat} {t : Tm} {V : Value} {W W' : World} {T : Nat → Prop} (H : BxR m t V W) (ho : Only T W W') (hT : ∀ k, T k → k < W.heap.size → isMp W.heap[k]?) : BxR m t V W' := ⟨box_maps H.ft ho hT, box_maps H.fr ho hT⟩

end Go.Proofs.Ytjpkkhhcpcokaaa

