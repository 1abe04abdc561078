/-
  The program's generalizer: numberIn.
-/
import Derived.Test.YtjpkkhhcpcokaaaMapN
import Derived.Test.YtjpkkhhcpcokaaaCmps
namespace Go.Proofs.Ytjpkkhhcpcokaaa
open Go.RowKit
set_option linter.unusedVariables false
set_option linter.unusedSimpArgs false

/-- What numberIn does to what a map holds. -/
def NumIn {κ : Type} (f : κ → Option Nat) (n : Nat) (x : κ) (i : Nat) (f' : κ → Option Nat) (n' : Nat) : Prop :=
  (f x = some i ∧ f' = f ∧ n' = n) ∨ (f x = none ∧ i = n ∧ n' = n + 1 ∧ f' = updNm f x n)
def NumR {κ : Type} (kt : TypeId) (val : κ → Value) (ok : κ → Prop) (b : Nat) (f : κ → Option Nat) (n : Nat) (x : κ) (w : World) (e : Ending) (w' : World) : Prop :=
  ∃ (i : Nat) (f' : κ → Option Nat) (n' : Nat), e = .returned (.int .i64 (i : Int)) ∧ MapN kt val ok w' b n' f' ∧ NumIn f n x i f' n' ∧ Only (fun k => k = b) w w'

set_option maxRecDepth 100000 in
set_option maxHeartbeats 2000000 in
theorem numberI_any (b n : Nat) (f : Int → Option Nat) (x : Int) (w : World) (hM : MapN 3 (Value.int .i64) wfI w b n f) (hx : wfI x) (hn : n ≤ 1099511627776) :
    Calls Try.prog 159 #[.map (some b), .int .i64 x] w (NumR 3 (Value.int .i64) wfI b f n x w) := by
  have HM := Lib.hid hM
  have HX := Lib.hid hx
  have hlen := hM.len keyI
  rcases hM.look keyI hx with ⟨hf, hrun⟩ | ⟨i, hf, hrun⟩
  · have HF := Lib.hid hf
    clear hM hx hf
    go_enter Try.func159, Try.ntmps159
    go_wp2_with (at_mapUpdate; refine wpList_putN keyI _ rfl _ _ _ rfl b n f rfl HM.out hn x rfl HX.out HF.out rfl ?_; intro w2 hm2 hg2; have HG := Lib.hid (And.intro hm2 hg2); clear hm2 hg2)
    go_ret
    exact ⟨n, _, _, rfl, HG.out.1, .inr ⟨HF.out, rfl, rfl, rfl⟩, Only.of_grown HG.out.2 rfl⟩
  · have HF := Lib.hid hf
    clear hM hx hf
    go_enter Try.func159, Try.ntmps159
    go_wp2
    go_ret
    exact ⟨i, _, _, rfl, HM.out, .inl ⟨HF.out, rfl, rfl⟩, Only.refl _ _⟩

theorem box_cellsS {w : World} {b : Nat} {e : TypeId} {x0 x1 x2 x3 x4 : Value} (h : w.heap[b]? = some (Obj.cells #[x0, x1, x2, x3, x4] e)) :
    w.cell? ⟨b, 0, none⟩ = some x0 ∧ w.cell? ⟨b, 1, none⟩ = some x1 ∧ w.cell? ⟨b, 2, none⟩ = some x2 ∧ w.cell? ⟨b, 3, none⟩ = some x3 ∧ w.cell? ⟨b, 4, none⟩ = some x4 ∧ ∀ j, w.frozen? ⟨b, j, none⟩ = false :=
  ⟨cell_of_row w b 0 _ _ _ h, cell_of_row w b 1 _ _ _ h, cell_of_row w b 2 _ _ _ h, cell_of_row w b 3 _ _ _ h, cell_of_row w b 4 _ _ _ h, fun j => frozen_of_row w b j _ _ h⟩

set_option maxRecDepth 100000 in
set_option maxHeartbeats 2000000 in
theorem numberS_any (b n : Nat) (f : Sh → Option Nat) (x : Sh) (w : World) (hM : MapN 101 shV shOk w b n f) (hx : shOk x) (hn : n ≤ 1099511627776) :
    Calls Try.prog 120 #[.map (some b), .agg #[.int .i64 x.k, .int .i64 x.i, .string x.s, .int .i64 x.h, .int .i64 x.t]] w (NumR 101 shV shOk b f n x w) := by
  have hal : Below w.heap.size w (w.alloc (.cells #[.int .i64 x.k, .int .i64 x.i, .string x.s, .int .i64 x.h, .int .i64 x.t] 101)) := belowAlloc (Below.refl _ _) _
  have HM := Lib.hid (hM.kept hal)
  have HW := Lib.hid hal
  have HX := Lib.hid hx
  have HB := Lib.hid (heap_new w (.cells #[.int .i64 x.k, .int .i64 x.i, .string x.s, .int .i64 x.h, .int .i64 x.t] 101))
  clear hM hal
  go_enter Try.func120, Try.ntmps120
  go_upto_region 1 with (fail)
  generalize hw0 : w.alloc (.cells #[.int .i64 x.k, .int .i64 x.i, .string x.s, .int .i64 x.h, .int .i64 x.t] 101) = w0 at HM HW HB ⊢
  clear hw0
  obtain ⟨c0, c1, c2, c3, c4, _⟩ := box_cellsS HB.out
  have z0 : w.heap.size < w0.heap.size := (Array.getElem?_eq_some_iff.1 HB.out).1
  have hlen := HM.out.len keyS
  rcases HM.out.look keyS hx with ⟨hf, hrun⟩ | ⟨i, hf, hrun⟩
  · have HF := Lib.hid hf
    unfold shV at hrun
    clear hx hf
    go_wp2_with (at_mapUpdate; refine wpList_putN keyS _ rfl _ _ _ rfl b n f rfl HM.out hn x rfl HX.out HF.out rfl ?_; intro w2 hm2 hg2; have HG := Lib.hid (And.intro hm2 hg2); clear hm2 hg2)
    go_ret
    exact ⟨n, _, _, rfl, HG.out.1, .inr ⟨HF.out, rfl, rfl, rfl⟩, (Only.of_below HW.out).trans (Only.of_grown HG.out.2 rfl)⟩
  · have HF := Lib.hid hf
    unfold shV at hrun
    clear hx hf
    go_wp2
    go_ret
    exact ⟨i, _, _, rfl, HM.out, .inl ⟨HF.out, rfl, rfl⟩, Only.of_below HW.out⟩

/-! ### A map's block holds no cells -/
def isMp (o : Option Obj) : Prop := ∃ es c, o = some (.map es c)
theorem MapN.isMp {κ : Type} {kt : TypeId} {val : κ → Value} {ok : κ → Prop} {w : World} {b n : Nat} {f : κ → Option Nat} (h : MapN kt val ok w b n f) : isMp w.heap[b]? := by
  obtain ⟨D, ⟨es, c, h1, _⟩, _⟩ := h
  exact ⟨es, c, h1⟩
theorem cell_not_map {w : World} {a : Addr} {v : Value} (h : w.cell? a = some v) : ¬ isMp w.heap[a.block]? := by
  rintro ⟨es, c, e⟩
  unfold World.cell? at h
  rw [e] at h
  simp at h
theorem cells_not_map {cs : Array Value} {t : TypeId} {fr : Nat × Nat} : ¬ isMp (some (.cells cs t fr)) := by
  rintro ⟨es, c, e⟩
  simp at e
theorem ArgsS.maps {w w' : World} {S T : Nat → Prop} {v : Value} {l : List Tm} (h : ArgsS w S v l) (ho : Only T w w') (hT : ∀ k, T k → k < w.heap.size → isMp w.heap[k]?) : ArgsS w' S v l := by
  induction h with
  | nil a cap => exact .nil a cap
  | row g off n cap V l hn hS hg hc hr ih =>
    refine .row g off n cap V l hn hS (Nat.lt_of_lt_of_le hg ho.size) (fun j t hj i v hv => ?_) ih
    have h1 := hc j t hj i v hv
    exact (World.cell?_of_block (a := ⟨g, off + (j * 4 + i), none⟩) (ho.block g hg fun e => cell_not_map h1 (hT g e hg))).trans h1
theorem ArgsAt.maps {w w' : World} {T : Nat → Prop} {v : Value} {l : List Tm} (h : ArgsAt w v l) (ho : Only T w w') (hT : ∀ k, T k → k < w.heap.size → isMp w.heap[k]?) : ArgsAt w' v l := (h.inS.maps ho hT).at
theorem box_maps {w w' : World} {T : Nat → Prop} {b : Nat} {cs : Array Value} {t : TypeId} {fr : Nat × Nat} (h : w.heap[b]? = some (.cells cs t fr)) (ho : Only T w w') (hT : ∀ k, T k → k < w.heap.size → isMp w.heap[k]?) : w'.heap[b]? = some (.cells cs t fr) := by
  have hl : b < w.heap.size := (Array.getElem?_eq_some_iff.1 h).1
  exact (ho.block b hl fun e => by have := hT b e hl; rw [h] at this; exact cells_not_map this).trans h
end Go.Proofs.Ytjpkkhhcpcokaaa

