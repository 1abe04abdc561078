/-
  The text of a term, plain.
  The text of a term: the model's l03Format and FormatTerm.
  strings.Builder's WriteString at this program: what a builder of the call's own holds behind it.
  The contracts of spec.Join and impl.Join.
  strings.Builder's WriteByte; the text of a term written: leafText, writeText, FormatTerm of the program.
  The text of a term written into a builder (writeText); FormatTerm of the program.
  The text of a term written into a builder (writeText); FormatTerm of the program.
  FormatTerm of the program.
  FormatTerms of the model and of the program.
-/
import Derived.Test.YtnbnepeikdieaaaGreatDoorItems
import Derived.Test.YtnbnepeikdieaaaGreatDoorNums
import Derived.Test.YtnbnepeikdieaaaGreatDoorFits
import Derived.Test.YtnbnepeikdieaaaGreatDoorShelf
import Derived.Test.YtnbnepeikdieaaaGreatDoorBase
import Derived.Lib.Builder
import Derived.Lib.AppendStr
import Derived.Lib.UnsafeStr
import Derived.Lib.Walk
import Derived.Laws.Externs
import Derived.ProofKit
import Derived.WalkLawsBesides
import Derived.Deep.QuietTactic
import Derived.BigQuiet
import Derived.Test.YtnbnepeikdieaaaGreatDoorListOk
namespace Go.Proofs.YtnbnepeikdieaaaGreatDoor
open Go.RowKit
set_option linter.unusedVariables false
set_option linter.unusedSimpArgs false

def leafT (t : Tm) : ByteArray := if t.kind = 1 then ⟨#[63]⟩ ++ fmt t.num else if t.kind = 2 then t.name else if t.kind = 3 then fmt t.num else ⟨#[40, 41]⟩
mutual
def fmtN : Nat → Tm → ByteArray
  | 0, _ => ⟨#[]⟩
  | n + 1, t => match t.args with | [a, b] => (⟨#[40]⟩ ++ fmtN n a) ++ restN n b | _ => leafT t
def restN : Nat → Tm → ByteArray
  | 0, _ => ⟨#[]⟩
  | n + 1, t => match t.args with | [a, b] => (⟨#[32]⟩ ++ fmtN n a) ++ restN n b | _ => if t.kind = 0 then ⟨#[41]⟩ else (⟨#[32, 46, 32]⟩ ++ leafT t) ++ ⟨#[41]⟩
end
theorem fmtN_stable : ∀ (n m : Nat) (t : Tm), t.nodes ≤ n → t.nodes ≤ m → fmtN n t = fmtN m t ∧ restN n t = restN m t
  | 0, m, t, h, _ => by have := nodes_pos t; omega
  | n + 1, 0, t, _, h => by have := nodes_pos t; omega
  | n + 1, m + 1, t, h1, h2 => by
    rw [fmtN, fmtN, restN, restN]
    split
    · rename_i x y hxy
      have hn := nodes_args2 hxy
      have hx := nodes_pos x
      have hy := nodes_pos y
      have e1 := fmtN_stable n m x (by omega) (by omega)
      have e2 := fmtN_stable n m y (by omega) (by omega)
      rw [e1.1, e2.2]
      exact ⟨rfl, rfl⟩
    · exact ⟨rfl, rfl⟩
def Tm.text (t : Tm) : ByteArray := fmtN t.nodes t
def Tm.rest (t : Tm) : ByteArray := restN t.nodes t
theorem nodes_succ (t : Tm) : ∃ n, t.nodes = n + 1 := ⟨t.nodes - 1, by have := nodes_pos t; omega⟩
theorem text_pair {t x y : Tm} (h : t.args = [x, y]) : t.text = (⟨#[40]⟩ ++ x.text) ++ y.rest := by
  have hn := nodes_args2 h
  obtain ⟨n, hn'⟩ := nodes_succ t
  have hx := nodes_pos x
  have hy := nodes_pos y
  rw [Tm.text, hn', fmtN, h]
  show (⟨#[40]⟩ ++ fmtN n x) ++ restN n y = _
  rw [(fmtN_stable n x.nodes x (by omega) (Nat.le_refl _)).1, (fmtN_stable n y.nodes y (by omega) (Nat.le_refl _)).2]
  rfl
theorem rest_pair {t x y : Tm} (h : t.args = [x, y]) : t.rest = (⟨#[32]⟩ ++ x.text) ++ y.rest := by
  have hn := nodes_args2 h
  obtain ⟨n, hn'⟩ := nodes_succ t
  have hx := nodes_pos x
  have hy := nodes_pos y
  rw [Tm.rest, hn', restN, h]
  show (⟨#[32]⟩ ++ fmtN n x) ++ restN n y = _
  rw [(fmtN_stable n x.nodes x (by omega) (Nat.le_refl _)).1, (fmtN_stable n y.nodes y (by omega) (Nat.le_refl _)).2]
  rfl
theorem text_leaf {t : Tm} (h : t.args = []) : t.text = leafT t := by
  obtain ⟨n, hn'⟩ := nodes_succ t
  rw [Tm.text, hn', fmtN, h]
theorem rest_leaf {t : Tm} (h : t.args = []) : t.rest = if t.kind = 0 then ⟨#[41]⟩ else (⟨#[32, 46, 32]⟩ ++ leafT t) ++ ⟨#[41]⟩ := by
  obtain ⟨n, hn'⟩ := nodes_succ t
  rw [Tm.rest, hn', restN, h]
theorem leaf_size {t : Tm} (h : Good t) (hk : ¬ t.kind = 4) : (leafT t).size ≤ 22 := by
  have hf : -1000000000 ≤ t.num ∧ t.num ≤ 1000000000 := by
    rcases h.fit with ⟨_, h, _⟩ | ⟨_, h, _⟩ | ⟨_, h, _⟩ | ⟨_, h, _⟩ | ⟨h, _⟩ <;> omega
  have h1 := fmt_len t.num (by omega) (by omega)
  have h2 := h.fit.name_size
  unfold leafT
  split
  · rw [ByteArray.size_append]; show 1 + _ ≤ 22; omega
  · split
    · omega
    · split
      · omega
      · show 2 ≤ 22; omega
theorem text_size (n : Nat) : ∀ t : Tm, t.nodes ≤ n → Good t → t.text.size + 10 ≤ 40 * t.nodes ∧ t.rest.size + 10 ≤ 40 * t.nodes := by
  induction n with
  | zero => intro t h; have := nodes_pos t; omega
  | succ n ih =>
    intro t hn hg
    by_cases hk : t.kind = 4
    · obtain ⟨x, y, hxy⟩ := hg.fit.pair hk
      have hn2 := nodes_args2 hxy
      have hx := nodes_pos x
      have hy := nodes_pos y
      obtain ⟨gx, gy⟩ := (good_two hg.fit hxy).1 hg
      have h1 := ih x (by omega) gx
      have h2 := ih y (by omega) gy
      rw [text_pair hxy, rest_pair hxy, ByteArray.size_append, ByteArray.size_append, ByteArray.size_append, ByteArray.size_append]
      have e1 : (⟨#[40]⟩ : ByteArray).size = 1 := rfl
      have e2 : (⟨#[32]⟩ : ByteArray).size = 1 := rfl
      omega
    · have hl := hg.fit.atom hk
      have h1 := leaf_size hg hk
      have hp := nodes_pos t
      rw [text_leaf hl, rest_leaf hl]
      refine ⟨by omega, ?_⟩
      split
      · show 1 + 10 ≤ _; omega
      · rw [ByteArray.size_append, ByteArray.size_append]
        have e1 : (⟨#[32, 46, 32]⟩ : ByteArray).size = 3 := rfl
        have e2 : (⟨#[41]⟩ : ByteArray).size = 1 := rfl
        omega
theorem good_num {t : Tm} (h : Good t) : -9223372036854775808 ≤ t.num ∧ t.num ≤ 9223372036854775807 := by
  rcases h.fit with ⟨_, h, _⟩ | ⟨_, h, _⟩ | ⟨_, h, _⟩ | ⟨_, h, _⟩ | ⟨_, h, _⟩ <;> omega
theorem good_kinds {t : Tm} (h : Good t) : t.kind = 0 ∨ t.kind = 1 ∨ t.kind = 2 ∨ t.kind = 3 ∨ t.kind = 4 := by
  rcases h.fit with ⟨h, _⟩ | ⟨h, _⟩ | ⟨h, _⟩ | ⟨h, _⟩ | ⟨h, _⟩ <;> omega
theorem bytes_assoc (a b c : ByteArray) : (a ++ b) ++ c = a ++ (b ++ c) := by
  rw [ByteArray.ext_iff]
  simp only [ByteArray.data_append, Array.append_assoc]
theorem leafT0 {t : Tm} (h : t.kind = 0) : leafT t = ⟨#[40, 41]⟩ := by rw [leafT, if_neg (by omega), if_neg (by omega), if_neg (by omega)]
theorem leafT1 {t : Tm} (h : t.kind = 1) : leafT t = ⟨#[63]⟩ ++ fmt t.num := by rw [leafT, if_pos h]
theorem leafT2 {t : Tm} (h : t.kind = 2) : leafT t = t.name := by rw [leafT, if_neg (by omega), if_pos h]
theorem leafT3 {t : Tm} (h : t.kind = 3) : leafT t = fmt t.num := by rw [leafT, if_neg (by omega), if_neg (by omega), if_pos h]


open Classical in
noncomputable def txt (t : Tm) : ByteArray := if Ok t then t.text else ⟨#[]⟩
theorem txt_yes {t : Tm} (h : Ok t) : txt t = t.text := by rw [txt, if_pos h]
theorem txt_no {t : Tm} (h : ¬ Ok t) : txt t = ⟨#[]⟩ := by rw [txt, if_neg h]
theorem txt_size (t : Tm) : (txt t).size ≤ 200000 := by
  by_cases h : Ok t
  · rw [txt_yes h]
    have := (text_size t.nodes t (Nat.le_refl _) h.2).1
    have := h.1
    omega
  · rw [txt_no h]; exact Nat.zero_le _
end Go.Proofs.YtnbnepeikdieaaaGreatDoor

namespace Go.Proofs.YtnbnepeikdieaaaGreatDoor
open Go.RowKit
set_option linter.unusedVariables false
set_option linter.unusedSimpArgs false

theorem kind_bools {t : Tm} {k : Int} (h : t.kind = k) (j : Int) : (t.kind == j) = decide (k = j) := by subst h; rfl
theorem text_step {S X Y R T : ByteArray} (h : S ++ R = T) (hr : R = (⟨#[32]⟩ ++ X) ++ Y) : ((S ++ ⟨#[32]⟩) ++ X) ++ Y = T := by
  rw [← h, hr, bytes_assoc, bytes_assoc, bytes_assoc]
theorem text_end0 {S R T : ByteArray} (h : S ++ R = T) (hr : R = ⟨#[41]⟩) : T = S ++ ⟨#[41]⟩ := by rw [← h, hr]
theorem text_end1 {S R L T : ByteArray} (h : S ++ R = T) (hr : R = (⟨#[32, 46, 32]⟩ ++ L) ++ ⟨#[41]⟩) : T = ((S ++ ⟨#[32, 46, 32]⟩) ++ L) ++ ⟨#[41]⟩ := by
  rw [← h, hr, bytes_assoc, bytes_assoc, bytes_assoc]

end Go.Proofs.YtnbnepeikdieaaaGreatDoor

namespace Go.Proofs.YtnbnepeikdieaaaGreatDoor
open Go.RowKit

theorem sizeBuilder : (Tryz.prog.info? 85).map (·.size) = some 2 := by kernel_rfl
theorem liesBuilder : liesAt Tryz.prog Tryz.prog.depth 85 (2 / Tryz.prog.cellsOf 85) 0 85 1 = true := by kernel_rfl

set_option maxHeartbeats 1000000 in
set_option maxRecDepth 100000 in
theorem copyCheck_used (b : Nat) (w : World) (h0 : w.cell? ⟨b, 0, none⟩ = some (.pointer (some ⟨b, 0, none⟩))) :
    Calls Tryz.prog 82 #[.pointer (some ⟨b, 0, none⟩)] w fun e w' => e = .returned (.tuple #[]) ∧ w' = w := by
  obtain ⟨j, hj, _⟩ := Option.map_eq_some_iff.1 sizeBuilder
  go_enter Tryz.func82, Tryz.ntmps82
  go_wp2
  rw [Lib.run_neq_ptr_same w _ Tryz.underlying83 hj]
  go_wp2
  go_end0
  exact ⟨rfl, rfl⟩

set_option maxHeartbeats 1000000 in
set_option maxRecDepth 100000 in
theorem copyCheck_fresh (b : Nat) (w : World) (h0 : w.cell? ⟨b, 0, none⟩ = some (.pointer none)) (hsh : w.shape? b = some (85, 2)) (hfz : w.frozen? ⟨b, 0, none⟩ = false) :
    Calls Tryz.prog 82 #[.pointer (some ⟨b, 0, none⟩)] w fun e w' => e = .returned (.tuple #[]) ∧ w' = w.setCell ⟨b, 0, none⟩ (.pointer (some ⟨b, 0, none⟩)) := by
  obtain ⟨j, hj, hjs⟩ := Option.map_eq_some_iff.1 sizeBuilder
  go_enter Tryz.func82, Tryz.ntmps82
  go_wp2
  rw [Lib.run_to_unsafe w ⟨b, 0, none⟩ Tryz.underlying83 Tryz.underlying124 hj (by rw [hjs]; decide) hsh (Nat.zero_lt_succ 1)]
  simp only [Result.andThen]
  rw [Oper.upon_value]
  go_wp2
  rw [run_callFunc_extern Tryz.func95 (by kernel_rfl) (by kernel_rfl) (by kernel_rfl) (e := Extern.AbiNoEscape.same) (by kernel_rfl)]
  rw [Lib.run_noEscape]
  simp only [Result.andThen]
  rw [Oper.upon_value]
  go_wp2
  rw [Lib.run_from_unsafe w ⟨b, 0, none⟩ Tryz.underlying124 Tryz.underlying83 hj hsh liesBuilder]
  simp only [Result.andThen]
  rw [Oper.upon_value]
  go_wp2
  go_end0
  exact ⟨rfl, rfl⟩

theorem copyCheck_any (B b : Nat) (bs : List Value) (w : World) (h : Lib.IsBuilder 85 5 B b bs w) :
    Calls Tryz.prog 82 #[.pointer (some ⟨b, 0, none⟩)] w fun e w' => e = .returned (.tuple #[]) ∧ (Lib.BuilderAt 85 5 B b (.pointer (some ⟨b, 0, none⟩)) bs w' ∧ Below B w w') := by
  rcases h with h | h
  · refine (copyCheck_fresh b w h.cell0 h.shape h.frozen0).mono ?_
    rintro e w' ⟨rfl, rfl⟩
    exact ⟨rfl, h.used _, (Below.refl B w).setCell (p := ⟨b, 0, none⟩) h.1 _⟩
  · refine (copyCheck_used b w h.cell0).mono ?_
    rintro e w' ⟨rfl, rfl⟩
    exact ⟨rfl, h, Below.refl B _⟩

set_option maxHeartbeats 2000000 in
set_option maxRecDepth 100000 in
theorem writeString_any (B b : Nat) (bs : List Value) (s : ByteArray) (w : World) (h : Lib.IsBuilder 85 5 B b bs w) (hlen : bs.length + s.size ≤ 140737488355328) (hBw : B ≤ w.heap.size) :
    Calls Tryz.prog 56 #[.pointer (some ⟨b, 0, none⟩), .string s] w fun e w' => e = .returned (.tuple #[.int .i64 s.size, .nilIface]) ∧
      (Lib.IsBuilder 85 5 B b (bs ++ Lib.strCells s) w' ∧ Below B w w') := by
  obtain ⟨i0, hi, hz0, hz1, hz2⟩ := info_parts infoByte
  have H := Lib.hid (copyCheck_any B b bs w h)
  go_enter Tryz.func56, Tryz.ntmps56
  go_wp2_with fail
  refine H.out.mono ?_
  rintro e w1 ⟨rfl, h1, hb1⟩
  obtain ⟨hB, v, hbk, hown, hne⟩ := h1
  have c0 : w1.cell? ⟨b, 0, none⟩ = some (.pointer (some ⟨b, 0, none⟩)) := by rw [Lib.cell_of_heap hbk]; rfl
  have c1 : w1.cell? ⟨b, 1, none⟩ = some v := by rw [Lib.cell_of_heap hbk]; rfl
  go_wp2_with (at_builtin; refine Lib.wpList_append_own_string _ rfl _ _ 22 9 rfl B 5 i0 Tryz.underlying22 Tryz.underlying9 hi hz0 hz1 hz2 _ _ _ rfl hown s rfl ?c3 ?c4 ?c5 ?_)
  case c3 => unfold maxLen; omega
  case c4 => omega
  case c5 => have := hb1.size; omega
  intro v' w2 hown' hgrow _
  have hlt : b < w1.heap.size := by
    rcases Nat.lt_or_ge b w1.heap.size with h' | h'
    · exact h'
    · simp [Array.getElem?_eq_none h'] at hbk
  have hb2 : w2.heap[b]? = some (.cells #[.pointer (some ⟨b, 0, none⟩), v] 85 (0, 0)) := by
    rw [hgrow.block b hlt (fun e => hne e.symm)]
    exact hbk
  have d0 : w2.cell? ⟨b, 0, none⟩ = some (.pointer (some ⟨b, 0, none⟩)) := by rw [Lib.cell_of_heap hb2]; rfl
  have d1 : w2.cell? ⟨b, 1, none⟩ = some v := by rw [Lib.cell_of_heap hb2]; rfl
  have f1 : w2.frozen? ⟨b, 1, none⟩ = false := Lib.frozen_of_heap hb2 1
  obtain ⟨ao, n', cap, rfl⟩ : ∃ ao n' cap, v' = .slice ao n' cap := by
    rcases hown'.2 with ⟨hv, _⟩ | ⟨g, cap, cur, hv, _⟩
    · exact ⟨_, _, _, hv⟩
    · exact ⟨_, _, _, hv⟩
  have HOB := Lib.hid hown'
  have HG := Lib.hid hgrow
  have HB2 := Lib.hid hb2
  clear hown' hgrow hb2
  go_wp2
  go_ret2
  refine ⟨rfl, .inr ?_, ?_⟩
  · exact Lib.BuilderAt.put (T := 85) (e := 5) hB HB2.out (bs' := bs ++ Lib.strCells s) (by simpa [Lib.strCells_length] using HOB.out) (by decide)
  · exact (hb1.grown HG.out (by have := hb1.size; omega) (fun k hk => (hown.lt k hk).1)).setCell (p := ⟨b, 1, none⟩) hB _
end Go.Proofs.YtnbnepeikdieaaaGreatDoor

namespace Go.Proofs.YtnbnepeikdieaaaGreatDoor
open Go.RowKit

/-- The bytes of the first k strings of a list, each with one more. -/
def sumTo (L : List ByteArray) : Nat → Nat
  | 0 => 0
  | k + 1 => sumTo L k + (L.getD k ⟨#[]⟩).size
theorem sumTo_mono (L : List ByteArray) {a b : Nat} (h : a ≤ b) : sumTo L a ≤ sumTo L b := by
  induction b with
  | zero => obtain rfl : a = 0 := by omega
            exact Nat.le_refl _
  | succ b ih =>
    by_cases e : a = b + 1
    · subst e; exact Nat.le_refl _
    · exact Nat.le_trans (ih (by omega)) (by rw [sumTo]; omega)
/-- The strings up to k, joined. -/
def joinTo (L : List ByteArray) (sep : ByteArray) : Nat → ByteArray
  | 0 => ⟨#[]⟩
  | k + 1 => (if k = 0 then joinTo L sep k else joinTo L sep k ++ sep) ++ L.getD k ⟨#[]⟩
theorem joinTo_size (L : List ByteArray) (sep : ByteArray) (k : Nat) : (joinTo L sep k).size ≤ sumTo L k + k * sep.size := by
  induction k with
  | zero => exact Nat.zero_le _
  | succ k ih =>
    rw [joinTo, sumTo, ByteArray.size_append, Nat.succ_mul]
    split
    · omega
    · rw [ByteArray.size_append]; omega

theorem strCells_append (a b : ByteArray) : Lib.strCells (a ++ b) = Lib.strCells a ++ Lib.strCells b := by
  unfold Lib.strCells
  rw [ByteArray.data_append, Array.toList_append, List.map_append]
/-- The steps of joining, and how long it gets. -/
theorem join_facts (L : List ByteArray) (sep : ByteArray) (hs : sumTo L L.length ≤ 1073741824) (hp : sep.size ≤ 1048576) :
    ∃ J : Nat → ByteArray, J = joinTo L sep ∧ J 0 = ⟨#[]⟩ ∧ (∀ k x, L[k]? = some x → J (k + 1) = (if k = 0 then J k else J k ++ sep) ++ x) ∧ ∀ k, k ≤ L.length → (J k).size ≤ 1073741824 + k * 1048576 := by
  refine ⟨_, rfl, rfl, fun k x hx => ?_, fun k hk => ?_⟩
  · rw [joinTo, List.getD_eq_getElem?_getD, hx]; rfl
  · have h1 := joinTo_size L sep k
    have h2 := sumTo_mono L hk
    have h3 : k * sep.size ≤ k * 1048576 := Nat.mul_le_mul_left _ hp
    omega

set_option maxHeartbeats 400000 in
theorem joined_any (v : Value) (L : List ByteArray) (sep : ByteArray) (w : World) (h : Vals w v (L.map .string)) (hn : L.length ≤ 1048576) (hs : sumTo L L.length ≤ 1073741824) (hp : sep.size ≤ 1048576) :
    Calls Tryz.prog 33 #[.string sep, v] w fun e w' => e = .returned (.string (joinTo L sep L.length)) ∧ Below w.heap.size w w' := by
  obtain ⟨J, hJ, h0, hstep, hsize⟩ := join_facts L sep hs hp
  obtain ⟨a, cap, rfl, hv⟩ := h
  rw [List.length_map, ← hJ]
  have HV := Lib.hid hv
  have H0 := Lib.hid h0
  have HT := Lib.hid hstep
  have HZ := Lib.hid hsize
  clear hv h0 hstep hsize hJ
  go_enter Tryz.func33, Tryz.ntmps33
  go_wp2
  go_loopw [10] (fun i wr => ∃ k : Nat, k ≤ L.length ∧ i = .int .i64 k ∧ Lib.IsBuilder 85 5 w.heap.size w.heap.size (Lib.strCells (J k)) wr ∧ Below w.heap.size w wr) (fun i _ => L.length - (intOf i).toNat)
  case atStart => exact ⟨0, Nat.zero_le _, rfl, by rw [H0.out]; exact Lib.fresh_isBuilder _ _ w, (Below.refl _ _).alloc (Nat.le_refl _) _⟩
  case round =>
    obtain ⟨k, hk, rfl, hbld, hb⟩ := hrel
    have HO := Lib.hid hbld
    have HB := Lib.hid hb
    have hB := hb.size
    clear hbld hb
    by_cases hlt : k < L.length
    · obtain ⟨g, off, rfl, hg, hc⟩ : ∃ g off, a = some ⟨g, off, none⟩ ∧ g < w.heap.size ∧ ∀ j x, (L.map Value.string)[j]? = some x → w.cell? ⟨g, off + j, none⟩ = some x := by
        rcases HV.out with h | h
        · simp at h; subst h; exact absurd hlt (Nat.not_lt_zero _)
        · exact h
      have c1 := (HB.out.cell (p := ⟨g, off + k, none⟩) hg).trans (hc k (.string L[k]) (by simp [hlt]))
      have e1 := HT.out k L[k] (by simp)
      have z1 := HZ.out (k + 1) (by omega)
      rw [e1] at z1
      have HE := Lib.hid e1
      clear hc e1
      generalize L[k] = x at c1 HE z1
      generalize J k = y at HE z1 HO
      by_cases hk0 : k = 0
      · rw [if_pos hk0, ByteArray.size_append] at z1
        have HE' : Hid (J (k + 1) = y ++ x) := Lib.hid (by rw [HE.out, if_pos hk0])
        have hk1 : ¬ (0 < (k : Int)) := by omega
        clear hk0 HE
        go_wp2_with fail
        refine (writeString_any _ _ _ x _ HO.out (by rw [Lib.strCells_length]; omega) (by omega)).mono ?_
        rintro e w2 ⟨rfl, h2, b2⟩
        have H2 := Lib.hid h2
        have B2 := Lib.hid (HB.out.trans b2)
        clear h2 b2
        go_wp2
        go_roundw
        case rel => exact ⟨k + 1, by omega, by go_num, by rw [HE'.out, strCells_append]; exact H2.out, B2.out⟩
        case measure => simp [intOf]; omega
      · rw [if_neg hk0, ByteArray.size_append, ByteArray.size_append] at z1
        have HE' : Hid (J (k + 1) = y ++ sep ++ x) := Lib.hid (by rw [HE.out, if_neg hk0])
        have hk1 : 0 < (k : Int) := by omega
        clear hk0 HE
        go_wp2_with fail
        refine (writeString_any _ _ _ sep _ HO.out (by rw [Lib.strCells_length]; omega) (by omega)).mono ?_
        rintro e w2 ⟨rfl, h2, b2⟩
        have H2 := Lib.hid h2
        have B2 := Lib.hid (HB.out.trans b2)
        have hB2 := B2.out.size
        clear h2 b2
        go_wp2_with fail
        refine (writeString_any _ _ _ x _ H2.out (by rw [List.length_append, Lib.strCells_length, Lib.strCells_length]; omega) (by omega)).mono ?_
        rintro e w3 ⟨rfl, h3, b3⟩
        have H3 := Lib.hid h3
        have B3 := Lib.hid (B2.out.trans b3)
        clear h3 b3
        go_wp2
        go_roundw
        case rel => exact ⟨k + 1, by omega, by go_num, by rw [HE'.out, strCells_append, strCells_append]; exact H3.out, B3.out⟩
        case measure => simp [intOf]; omega
    · obtain rfl : k = L.length := by omega
      have HS := Lib.hid (Tryz.Builder_String_any w.heap.size w.heap.size (J L.length).data.toList wr HO.out hB)
      rw [Lib.mk_data] at HS
      go_wp2_with fail
      refine HS.out.mono ?_
      rintro e w2 ⟨rfl, b2⟩
      have B2 := Lib.hid (HB.out.trans b2)
      clear b2
      go_wp2
      go_ret
      exact ⟨rfl, B2.out⟩

end Go.Proofs.YtnbnepeikdieaaaGreatDoor

namespace Go.Proofs.YtnbnepeikdieaaaGreatDoor
open Go.RowKit
set_option linter.unusedVariables false
set_option linter.unusedSimpArgs false

set_option maxHeartbeats 2000000 in
set_option maxRecDepth 100000 in
theorem writeByte_any (B b : Nat) (bs : List Value) (c : Int) (w : World) (h : Lib.IsBuilder 85 5 B b bs w) (hlen : bs.length + 1 ≤ 1099511627776) (hBw : B ≤ w.heap.size) :
    Calls Tryz.prog 81 #[.pointer (some ⟨b, 0, none⟩), .int .u8 c] w fun e w' => e = .returned .nilIface ∧
      (Lib.IsBuilder 85 5 B b (bs ++ [.int .u8 c]) w' ∧ Below B w w') := by
  obtain ⟨i0, hi, hz0, hz1, hz2⟩ := info_parts infoByte
  have H := Lib.hid (copyCheck_any B b bs w h)
  go_enter Tryz.func81, Tryz.ntmps81
  go_wp2_with fail
  refine H.out.mono ?_
  rintro e w1 ⟨rfl, h1, hb1⟩
  obtain ⟨hB, v, hbk, hown, hne⟩ := h1
  have c0 : w1.cell? ⟨b, 0, none⟩ = some (.pointer (some ⟨b, 0, none⟩)) := by rw [Lib.cell_of_heap hbk]; rfl
  have c1 : w1.cell? ⟨b, 1, none⟩ = some v := by rw [Lib.cell_of_heap hbk]; rfl
  have hsz := hb1.size
  have hlt : b < w1.heap.size := by
    rcases Nat.lt_or_ge b w1.heap.size with h' | h'
    · exact h'
    · simp [Array.getElem?_eq_none h'] at hbk
  have HOWN := Lib.hid hown
  have HBK := Lib.hid hbk
  have HNE := Lib.hid hne
  have HB1 := Lib.hid hb1
  clear hown hbk hne hb1 H
  go_wp2_with (at_builtin; refine wpList_append_lies _ rfl _ _ 22 rfl B 5 i0 _ 1 1 Tryz.underlying22 hi hz0 hz1 hz2 rfl (by decide) v bs.length bs rfl (HOWN.out.alloc _) ⟨w1.heap.size, 0, none⟩ 1 1 [.int .u8 c] rfl rfl (World.news_of_block (heap_alloc_new w1 _)) (by simp [Value.oneCell']) (by decide) (by unfold maxLen; omega) (by omega) (by simp <;> omega) (w1.heap.size + 1) (by simp) ?_; intro gg cap' w2 hown2 hgrow hat hlt2; have HAP := Lib.hid (And.intro hown2 (And.intro hgrow (And.intro hat hlt2))); have hb2 : w2.heap[b]? = some (.cells #[.pointer (some ⟨b, 0, none⟩), v] 85 (0, 0)) := (hgrow.block b (by simp <;> omega) (fun e => HNE.out e.symm)).trans ((Below.heap_alloc w1 _ b hlt).trans HBK.out); have d0 : w2.cell? ⟨b, 0, none⟩ = some (.pointer (some ⟨b, 0, none⟩)) := (by rw [Lib.cell_of_heap hb2]; rfl); have d1 : w2.cell? ⟨b, 1, none⟩ = some v := (by rw [Lib.cell_of_heap hb2]; rfl); have f1 : w2.frozen? ⟨b, 1, none⟩ = false := Lib.frozen_of_heap hb2 1; have HB2 := Lib.hid hb2; clear hown2 hgrow hat hlt2 hb2)
  go_wp2
  go_ret
  refine ⟨rfl, .inr ?_, ?_⟩
  · exact Lib.BuilderAt.put (T := 85) (e := 5) hB HB2.out (bs' := bs ++ [.int .u8 c]) (by simpa using HAP.out.1) (by decide)
  · exact ((HB1.out.alloc (by omega) _).grown HAP.out.2.1 (by simp <;> omega) (fun k hk => (HOWN.out.lt k hk).1)).setCell (p := ⟨b, 1, none⟩) hB _

theorem isB_kept {B b : Nat} {bs : List Value} {w w' : World} (h : Lib.IsBuilder 85 5 B b bs w) (hb : Below w.heap.size w w') : Lib.IsBuilder 85 5 B b bs w' := by
  have key : ∀ p, Lib.BuilderAt 85 5 B b p bs w → Lib.BuilderAt 85 5 B b p bs w' := by
    rintro p ⟨h1, v, h2, h3, h4⟩
    have hlt : b < w.heap.size := by
      rcases Nat.lt_or_ge b w.heap.size with h' | h'
      · exact h'
      · simp [Array.getElem?_eq_none h'] at h2
    refine ⟨h1, v, (hb.block b hlt).trans h2, ⟨h3.1, ?_⟩, h4⟩
    rcases h3.2 with hn | ⟨g, cap, cur, rfl, k1, k2, k3⟩
    · exact .inl hn
    · exact .inr ⟨g, cap, cur, rfl, k1, (hb.block g (Array.getElem?_eq_some_iff.1 k2).1).trans k2, k3⟩
  exact h.imp (key _) (key _)

set_option maxHeartbeats 1000000 in
theorem leafText_any (t : Tm) (aa : Option Addr) (ca : Nat) (w : World) (ht : Tab w) (hG : Good t) (hk4 : ¬ t.kind = 4) :
    Calls Tryz.prog 80 #[.agg #[.int .i64 t.kind, .int .i64 t.num, .string t.name, .slice aa t.args.length ca]] w fun e w' => e = .returned (.string (leafT t)) ∧ Below w.heap.size w w' := by
  have HX := Lib.hid (at_box w #[.int .i64 t.kind, .int .i64 t.num, .string t.name, .slice aa t.args.length ca] 27)
  have HW : Hid (Below w.heap.size w (w.alloc (.cells #[.int .i64 t.kind, .int .i64 t.num, .string t.name, .slice aa t.args.length ca] 27))) := Lib.hid (belowAlloc (Below.refl _ _) _)
  obtain ⟨hn0, hn1⟩ := good_num hG
  have HF := Lib.hid (implFmt_any t.num _ (ht.kept HW.out) hn0 hn1)
  have hfs := fmt_len t.num hn0 hn1
  have hkk : t.kind = 0 ∨ t.kind = 1 ∨ t.kind = 2 ∨ t.kind = 3 := by have := good_kinds hG; omega
  clear ht hG hk4 hn0 hn1
  go_enter Tryz.func80, Tryz.ntmps80
  go_upto_region 1 with (fail)
  generalize hw0 : w.alloc (.cells #[.int .i64 t.kind, .int .i64 t.num, .string t.name, .slice aa t.args.length ca] 27) = w0 at HX HW HF ⊢
  clear hw0
  obtain ⟨c0a, c0b, c0c, c0d⟩ := HX.out.cells
  have z0 := HX.out.le
  rcases hkk with hk | hk | hk | hk
  · have HL := Lib.hid (leafT0 hk)
    have d1 : (t.kind == 1) = false := by rw [hk]; rfl
    have d2 : (t.kind == 2) = false := by rw [hk]; rfl
    have d3 : (t.kind == 3) = false := by rw [hk]; rfl
    clear hk HF
    go_wp2
    go_ret
    exact ⟨by rw [HL.out]; rfl, HW.out⟩
  · have HL := Lib.hid (leafT1 hk)
    have d1 : (t.kind == 1) = true := by rw [hk]; rfl
    clear hk
    generalize fmt t.num = f at HF HL hfs
    go_wp2_with fail
    refine HF.out.mono ?_
    rintro e w1 ⟨rfl, hb⟩
    have HB := Lib.hid (belowOn HW.out (Nat.le_refl _) hb)
    clear hb
    go_wp2
    go_ret
    exact ⟨by rw [HL.out]; rfl, HB.out⟩
  · have HL := Lib.hid (leafT2 hk)
    have d1 : (t.kind == 1) = false := by rw [hk]; rfl
    have d2 : (t.kind == 2) = true := by rw [hk]; rfl
    clear hk HF
    go_wp2
    go_ret
    exact ⟨by rw [HL.out]; rfl, HW.out⟩
  · have HL := Lib.hid (leafT3 hk)
    have d1 : (t.kind == 1) = false := by rw [hk]; rfl
    have d2 : (t.kind == 2) = false := by rw [hk]; rfl
    have d3 : (t.kind == 3) = true := by rw [hk]; rfl
    clear hk
    generalize fmt t.num = f at HF HL hfs
    go_wp2_with fail
    refine HF.out.mono ?_
    rintro e w1 ⟨rfl, hb⟩
    have HB := Lib.hid (belowOn HW.out (Nat.le_refl _) hb)
    clear hb
    go_wp2
    go_ret
    exact ⟨by rw [HL.out]; rfl, HB.out⟩
end Go.Proofs.YtnbnepeikdieaaaGreatDoor

namespace Go.Proofs.YtnbnepeikdieaaaGreatDoor
open Go.RowKit
set_option linter.unusedVariables false
set_option linter.unusedSimpArgs false

/-- Blocks of terms stay as they are. -/
structure TKeep (w w' : World) : Prop where
  size : w.heap.size ≤ w'.heap.size
  block : ∀ k, k < w.heap.size → ∀ xs, w.heap[k]? = some (Obj.cells xs 27 (0, 0)) → w'.heap[k]? = w.heap[k]?
theorem TKeep.refl (w : World) : TKeep w w := ⟨Nat.le_refl _, fun _ _ _ _ => rfl⟩
theorem TKeep.trans {a b c : World} (h : TKeep a b) (k : TKeep b c) : TKeep a c :=
  ⟨Nat.le_trans h.size k.size, fun i hi xs hx => (k.block i (Nat.lt_of_lt_of_le hi h.size) xs ((h.block i hi xs hx).trans hx)).trans (h.block i hi xs hx)⟩
theorem TKeep.of_below {w w' : World} (h : Below w.heap.size w w') : TKeep w w' := ⟨h.size, fun k hk _ _ => h.block k hk⟩
theorem TKeep.grown {w w' : World} {g : Option Nat} (h : w.grownBy w' g) (hg : ∀ k, g = some k → ∃ xs e fr, w.heap[k]? = some (Obj.cells xs e fr) ∧ ¬ e = 27) : TKeep w w' :=
  ⟨h.size, fun k hk xs hx => h.block k hk fun e => by
    obtain ⟨ys, e2, fr, h1, h2⟩ := hg k e.symm
    rw [hx] at h1
    simp only [Option.some.injEq, Obj.cells.injEq] at h1
    exact h2 h1.2.1.symm⟩
theorem grown_set1 (w : World) (p j : Nat) (u : Value) : w.grownBy (w.setCell ⟨p, j, none⟩ u) (some p) :=
  ⟨rfl, rfl, rfl, by simp [World.setCell], fun k _ hk => Below.heap_setCell _ _ _ _ (fun e => hk (by rw [e]))⟩
theorem TKeep.set {w : World} {b j : Nat} {u : Value} {xs : Array Value} {e : TypeId} {fr : Nat × Nat} (h : w.heap[b]? = some (Obj.cells xs e fr)) (hne : ¬ e = 27) : TKeep w (w.setCell ⟨b, j, none⟩ u) :=
  TKeep.grown (grown_set1 w b j u) fun k hk => by cases hk; exact ⟨xs, e, fr, h, hne⟩
theorem own_type {w : World} {B : Nat} {e : TypeId} {v : Value} {n : Nat} {xs : List Value} (h : w.ownsRow B e 1 v n xs) (hne : ¬ e = 27) : ∀ k, v.ownBlock = some k → ∃ xs e fr, w.heap[k]? = some (Obj.cells xs e fr) ∧ ¬ e = 27 := by
  intro k hk
  rcases h.2 with ⟨hv, _⟩ | ⟨g, cap, cur, hv, h1, h2, h3⟩
  · subst hv; simp [Value.ownBlock] at hk
  · subst hv
    simp only [Value.ownBlock, Option.some.injEq] at hk
    subst hk
    exact ⟨cur, e, _, h2, hne⟩
theorem At.tkeep {w w' : World} {lo hi b : Nat} {xs : Array Value} (h : At w lo hi (BoxP b xs 27)) (hk : TKeep w w') (hb : b < hi) : At w' lo hi (BoxP b xs 27) :=
  ⟨(hk.block b (Nat.lt_of_lt_of_le hb h.le) xs h.now).trans h.now, h.stays, Nat.le_trans h.le hk.size⟩

set_option maxHeartbeats 1000000 in
set_option maxRecDepth 100000 in
theorem copyCheck_t (B b : Nat) (bs : List Value) (w : World) (h : Lib.IsBuilder 85 5 B b bs w) :
    Calls Tryz.prog 82 #[.pointer (some ⟨b, 0, none⟩)] w fun e w' => e = .returned (.tuple #[]) ∧ (Lib.BuilderAt 85 5 B b (.pointer (some ⟨b, 0, none⟩)) bs w' ∧ Below B w w') ∧ TKeep w w' := by
  rcases h with h | h
  · refine (copyCheck_fresh b w h.cell0 h.shape h.frozen0).mono ?_
    rintro e w' ⟨rfl, rfl⟩
    refine ⟨rfl, ⟨h.used _, (Below.refl B w).setCell (p := ⟨b, 0, none⟩) h.1 _⟩, ?_⟩
    obtain ⟨_, v, hb, _⟩ := h
    exact TKeep.set hb (by decide)
  · refine (copyCheck_used b w h.cell0).mono ?_
    rintro e w' ⟨rfl, rfl⟩
    exact ⟨rfl, ⟨h, Below.refl B _⟩, TKeep.refl _⟩

set_option maxHeartbeats 2000000 in
set_option maxRecDepth 100000 in
theorem writeString_t (B b : Nat) (bs : List Value) (s : ByteArray) (w : World) (h : Lib.IsBuilder 85 5 B b bs w) (hlen : bs.length + s.size ≤ 140737488355328) (hBw : B ≤ w.heap.size) :
    Calls Tryz.prog 56 #[.pointer (some ⟨b, 0, none⟩), .string s] w fun e w' => e = .returned (.tuple #[.int .i64 s.size, .nilIface]) ∧
      (Lib.IsBuilder 85 5 B b (bs ++ Lib.strCells s) w' ∧ Below B w w') ∧ TKeep w w' := by
  obtain ⟨i0, hi, hz0, hz1, hz2⟩ := info_parts infoByte
  have H := Lib.hid (copyCheck_t B b bs w h)
  go_enter Tryz.func56, Tryz.ntmps56
  go_wp2_with fail
  refine H.out.mono ?_
  rintro e w1 ⟨rfl, ⟨h1, hb1⟩, hk1⟩
  have HK1 := Lib.hid hk1
  clear hk1
  obtain ⟨hB, v, hbk, hown, hne⟩ := h1
  have c0 : w1.cell? ⟨b, 0, none⟩ = some (.pointer (some ⟨b, 0, none⟩)) := by rw [Lib.cell_of_heap hbk]; rfl
  have c1 : w1.cell? ⟨b, 1, none⟩ = some v := by rw [Lib.cell_of_heap hbk]; rfl
  go_wp2_with (at_builtin; refine Lib.wpList_append_own_string _ rfl _ _ 22 9 rfl B 5 i0 Tryz.underlying22 Tryz.underlying9 hi hz0 hz1 hz2 _ _ _ rfl hown s rfl ?c3 ?c4 ?c5 ?_)
  case c3 => unfold maxLen; omega
  case c4 => omega
  case c5 => have := hb1.size; omega
  intro v' w2 hown' hgrow _
  have hlt : b < w1.heap.size := by
    rcases Nat.lt_or_ge b w1.heap.size with h' | h'
    · exact h'
    · simp [Array.getElem?_eq_none h'] at hbk
  have hb2 : w2.heap[b]? = some (.cells #[.pointer (some ⟨b, 0, none⟩), v] 85 (0, 0)) := by
    rw [hgrow.block b hlt (fun e => hne e.symm)]
    exact hbk
  have HK2 := Lib.hid (HK1.out.trans (TKeep.grown hgrow (own_type hown (by decide))))
  have d0 : w2.cell? ⟨b, 0, none⟩ = some (.pointer (some ⟨b, 0, none⟩)) := by rw [Lib.cell_of_heap hb2]; rfl
  have d1 : w2.cell? ⟨b, 1, none⟩ = some v := by rw [Lib.cell_of_heap hb2]; rfl
  have f1 : w2.frozen? ⟨b, 1, none⟩ = false := Lib.frozen_of_heap hb2 1
  obtain ⟨ao, n', cap, rfl⟩ : ∃ ao n' cap, v' = .slice ao n' cap := by
    rcases hown'.2 with ⟨hv, _⟩ | ⟨g, cap, cur, hv, _⟩
    · exact ⟨_, _, _, hv⟩
    · exact ⟨_, _, _, hv⟩
  have HOB := Lib.hid hown'
  have HG := Lib.hid hgrow
  have HB2 := Lib.hid hb2
  clear hown' hgrow hb2
  go_wp2
  go_ret2
  refine ⟨rfl, ⟨.inr ?_, ?_⟩, ?_⟩
  · exact Lib.BuilderAt.put (T := 85) (e := 5) hB HB2.out (bs' := bs ++ Lib.strCells s) (by simpa [Lib.strCells_length] using HOB.out) (by decide)
  · exact (hb1.grown HG.out (by have := hb1.size; omega) (fun k hk => (hown.lt k hk).1)).setCell (p := ⟨b, 1, none⟩) hB _
  · exact HK2.out.trans (TKeep.set HB2.out (by decide))

set_option maxHeartbeats 2000000 in
set_option maxRecDepth 100000 in
theorem writeByte_t (B b : Nat) (bs : List Value) (c : Int) (w : World) (h : Lib.IsBuilder 85 5 B b bs w) (hlen : bs.length + 1 ≤ 1099511627776) (hBw : B ≤ w.heap.size) :
    Calls Tryz.prog 81 #[.pointer (some ⟨b, 0, none⟩), .int .u8 c] w fun e w' => e = .returned .nilIface ∧
      (Lib.IsBuilder 85 5 B b (bs ++ [.int .u8 c]) w' ∧ Below B w w') ∧ TKeep w w' := by
  obtain ⟨i0, hi, hz0, hz1, hz2⟩ := info_parts infoByte
  have H := Lib.hid (copyCheck_t B b bs w h)
  go_enter Tryz.func81, Tryz.ntmps81
  go_wp2_with fail
  refine H.out.mono ?_
  rintro e w1 ⟨rfl, ⟨h1, hb1⟩, hk1⟩
  have HK1 := Lib.hid hk1
  clear hk1
  obtain ⟨hB, v, hbk, hown, hne⟩ := h1
  have c0 : w1.cell? ⟨b, 0, none⟩ = some (.pointer (some ⟨b, 0, none⟩)) := by rw [Lib.cell_of_heap hbk]; rfl
  have c1 : w1.cell? ⟨b, 1, none⟩ = some v := by rw [Lib.cell_of_heap hbk]; rfl
  have hsz := hb1.size
  have hlt : b < w1.heap.size := by
    rcases Nat.lt_or_ge b w1.heap.size with h' | h'
    · exact h'
    · simp [Array.getElem?_eq_none h'] at hbk
  have HOWN := Lib.hid hown
  have HBK := Lib.hid hbk
  have HNE := Lib.hid hne
  have HB1 := Lib.hid hb1
  clear hown hbk hne hb1 H
  go_wp2_with (at_builtin; refine wpList_append_lies _ rfl _ _ 22 rfl B 5 i0 _ 1 1 Tryz.underlying22 hi hz0 hz1 hz2 rfl (by decide) v bs.length bs rfl (HOWN.out.alloc _) ⟨w1.heap.size, 0, none⟩ 1 1 [.int .u8 c] rfl rfl (World.news_of_block (heap_alloc_new w1 _)) (by simp [Value.oneCell']) (by decide) (by unfold maxLen; omega) (by omega) (by simp <;> omega) (w1.heap.size + 1) (by simp) ?_; intro gg cap' w2 hown2 hgrow hat hlt2; have HAP := Lib.hid (And.intro hown2 (And.intro hgrow (And.intro hat hlt2))); have hb2 : w2.heap[b]? = some (.cells #[.pointer (some ⟨b, 0, none⟩), v] 85 (0, 0)) := (hgrow.block b (by simp <;> omega) (fun e => HNE.out e.symm)).trans ((Below.heap_alloc w1 _ b hlt).trans HBK.out); have d0 : w2.cell? ⟨b, 0, none⟩ = some (.pointer (some ⟨b, 0, none⟩)) := (by rw [Lib.cell_of_heap hb2]; rfl); have d1 : w2.cell? ⟨b, 1, none⟩ = some v := (by rw [Lib.cell_of_heap hb2]; rfl); have f1 : w2.frozen? ⟨b, 1, none⟩ = false := Lib.frozen_of_heap hb2 1; have HB2 := Lib.hid hb2; clear hown2 hgrow hat hlt2 hb2)
  go_wp2
  go_ret
  refine ⟨rfl, ⟨.inr ?_, ?_⟩, ?_⟩
  · exact Lib.BuilderAt.put (T := 85) (e := 5) hB HB2.out (bs' := bs ++ [.int .u8 c]) (by simpa using HAP.out.1) (by decide)
  · exact ((HB1.out.alloc (by omega) _).grown HAP.out.2.1 (by simp <;> omega) (fun k hk => (HOWN.out.lt k hk).1)).setCell (p := ⟨b, 1, none⟩) hB _
  · exact ((HK1.out.trans (TKeep.of_below (belowAlloc (Below.refl _ _) _))).trans (TKeep.grown HAP.out.2.1 (own_type (HOWN.out.alloc _) (by decide)))).trans (TKeep.set HB2.out (by decide))

/-- A builder, blocks from B on, that holds a text. -/
structure Wbd (B b : Nat) (s : ByteArray) (w : World) : Prop where
  is : Lib.IsBuilder 85 5 B b (Lib.strCells s) w
  le : B ≤ w.heap.size
theorem Wbd.below {B b : Nat} {s : ByteArray} {w w' : World} (h : Wbd B b s w) (hb : Below w.heap.size w w') : Wbd B b s w' := ⟨isB_kept h.is hb, Nat.le_trans h.le hb.size⟩
theorem Wbd.only {B b k : Nat} {s : ByteArray} {w w' : World} {xs : Array Value} (h : Wbd B b s w) (ho : Only (iv k (k + 1)) w w') (hx : w.heap[k]? = some (Obj.cells xs 27 (0, 0))) : Wbd B b s w' := by
  refine ⟨?_, Nat.le_trans h.le ho.size⟩
  have keep : ∀ (i : Nat) (ys : Array Value) (e : TypeId) (fr : Nat × Nat), w.heap[i]? = some (Obj.cells ys e fr) → ¬ e = 27 → w'.heap[i]? = w.heap[i]? := by
    intro i ys e fr hi hne
    refine ho.block i (Array.getElem?_eq_some_iff.1 hi).1 fun hk => ?_
    have : i = k := by have h1 := hk.1; have h2 := hk.2; omega
    subst this
    rw [hx] at hi
    simp only [Option.some.injEq, Obj.cells.injEq] at hi
    exact hne hi.2.1.symm
  have key : ∀ p, Lib.BuilderAt 85 5 B b p (Lib.strCells s) w → Lib.BuilderAt 85 5 B b p (Lib.strCells s) w' := by
    rintro p ⟨h1, v, h2, h3, h4⟩
    refine ⟨h1, v, (keep b _ _ _ h2 (by decide)).trans h2, ⟨h3.1, ?_⟩, h4⟩
    rcases h3.2 with hn | ⟨g, cap, cur, rfl, k1, k2, k3⟩
    · exact .inl hn
    · exact .inr ⟨g, cap, cur, rfl, k1, (keep g _ _ _ k2 (by decide)).trans k2, k3⟩
  exact h.is.imp (key _) (key _)
theorem strCells_one (s : ByteArray) (c : UInt8) : Lib.strCells s ++ [.int .u8 (c.toNat : Int)] = Lib.strCells (s ++ ⟨#[c]⟩) := by
  rw [strCells_append]; rfl
/-- One string, one byte written. -/
def Wrote (B b : Nat) (s : ByteArray) (w w' : World) : Prop := Wbd B b s w' ∧ Below B w w' ∧ TKeep w w'
theorem wr_string (B b : Nat) (s x : ByteArray) (w : World) (h : Wbd B b s w) (hs : s.size ≤ 1000000) (hx : x.size ≤ 1000000) :
    Calls Tryz.prog 56 #[.pointer (some ⟨b, 0, none⟩), .string x] w fun e w' => e = .returned (.tuple #[.int .i64 x.size, .nilIface]) ∧ Wrote B b (s ++ x) w w' := by
  refine (writeString_t B b _ x w h.is (by rw [Lib.strCells_length]; omega) h.le).mono ?_
  rintro e w' ⟨rfl, ⟨h1, h2⟩, h3⟩
  exact ⟨rfl, ⟨by rw [strCells_append]; exact h1, Nat.le_trans h.le h2.size⟩, h2, h3⟩
theorem wr_byte (B b : Nat) (s : ByteArray) (c : UInt8) (k : Int) (hk : k = (c.toNat : Int)) (w : World) (h : Wbd B b s w) (hs : s.size ≤ 1000000) :
    Calls Tryz.prog 81 #[.pointer (some ⟨b, 0, none⟩), .int .u8 k] w fun e w' => e = .returned .nilIface ∧ Wrote B b (s ++ ⟨#[c]⟩) w w' := by
  subst hk
  refine (writeByte_t B b _ _ w h.is (by rw [Lib.strCells_length]; omega) h.le).mono ?_
  rintro e w' ⟨rfl, ⟨h1, h2⟩, h3⟩
  exact ⟨rfl, ⟨by rw [← strCells_one]; exact h1, Nat.le_trans h.le h2.size⟩, h2, h3⟩
end Go.Proofs.YtnbnepeikdieaaaGreatDoor

namespace Go.Proofs.YtnbnepeikdieaaaGreatDoor
open Go.RowKit
set_option linter.unusedVariables false
set_option linter.unusedSimpArgs false

theorem wrote_step {B b : Nat} {s : ByteArray} {w w1 w2 : World} (h : Below B w w1) (hk : TKeep w w1) (h2 : Wrote B b s w1 w2) : Below B w w2 ∧ TKeep w w2 := ⟨h.trans h2.2.1, hk.trans h2.2.2⟩

theorem tkeep_new {w w1 w2 : World} (h : TKeep w w1) (ho : Only (iv w.heap.size (w.heap.size + 1)) w1 w2) : TKeep w w2 :=
  ⟨Nat.le_trans h.size ho.size, fun k hk xs hx => (ho.block k (Nat.lt_of_lt_of_le hk h.size) fun x => by have := x.1; omega).trans (h.block k hk xs hx)⟩

set_option maxRecDepth 100000 in
set_option maxHeartbeats 8000000 in
theorem writeTerm_any (wR : World) (B b : Nat) (hB : wR.heap.size ≤ B) (ht : Tab wR) (N : Nat) : ∀ (t : Tm) (V : Value) (s : ByteArray) (w : World), t.nodes < N → t.nodes ≤ 5000 → ArgsAt wR V t.args → t.sz ≤ 1048576 → Good t → Below wR.heap.size wR w → Wbd B b s w → s.size + t.text.size ≤ 500000 →
    Calls Tryz.prog 54 #[.agg #[.int .i64 t.kind, .int .i64 t.num, .string t.name, V], .pointer (some ⟨b, 0, none⟩)] w fun e w' => e = .returned (.tuple #[]) ∧ Wrote B b (s ++ t.text) w w' := by
  induction N with
  | zero => intro t V s w hN; omega
  | succ N ih =>
    intro t V s w hN h5 hA hZ hG hold hbd hs
    obtain ⟨aa, ca, rfl⟩ := hA.slice
    have HI := Lib.hid ih
    have HG := Lib.hid hG
    have HAA := Lib.hid hA
    have HTB := Lib.hid ht
    have HX := Lib.hid (at_box w #[.int .i64 t.kind, .int .i64 t.num, .string t.name, .slice aa t.args.length ca] 27)
    have hal : Below w.heap.size w (w.alloc (.cells #[.int .i64 t.kind, .int .i64 t.num, .string t.name, .slice aa t.args.length ca] 27)) := belowAlloc (Below.refl _ _) _
    have HBD := Lib.hid (hbd.below hal)
    have HOLD := Lib.hid (hold.trans (hal.mono hold.size))
    have hbw := hbd.le
    have HW : Hid (Below B w (w.alloc (.cells #[.int .i64 t.kind, .int .i64 t.num, .string t.name, .slice aa t.args.length ca] 27)) ∧ TKeep w (w.alloc (.cells #[.int .i64 t.kind, .int .i64 t.num, .string t.name, .slice aa t.args.length ca] 27))) := Lib.hid ⟨hal.mono hbw, TKeep.of_below hal⟩
    have HTS := Lib.hid (text_size t.nodes t (Nat.le_refl _) hG).1
    clear hA ih hG hal hbd hold ht
    go_enter Tryz.func54, Tryz.ntmps54
    go_upto_region 1 with (fail)
    generalize hw0 : w.alloc (.cells #[.int .i64 t.kind, .int .i64 t.num, .string t.name, .slice aa t.args.length ca] 27) = w0 at HX HW HBD HOLD ⊢
    clear hw0
    have HIP := Lib.hid (isPair_any t.kind t.num t.name (.slice aa t.args.length ca) w0)
    obtain ⟨c0a, c0b, c0c, c0d⟩ := HX.out.cells
    have z0 := HX.out.le
    go_wp2_with fail
    refine HIP.out.mono ?_
    rintro e w1 ⟨rfl, hb⟩
    clear c0a c0b c0c c0d z0 HIP
    replace HX := Lib.hid (HX.out.read hb)
    replace HBD := Lib.hid (HBD.out.below hb)
    replace HOLD := Lib.hid (HOLD.out.trans (hb.mono HOLD.out.size))
    replace HW := Lib.hid (And.intro (HW.out.1.trans (hb.mono (by have := HW.out.1.size; omega))) (HW.out.2.trans (TKeep.of_below hb)))
    clear hb
    by_cases hk : t.kind = 4
    · have hd : decide (t.kind = 4) = true := decide_eq_true hk
      rw [hd]
      obtain ⟨x, y, hxy⟩ := HG.out.fit.pair hk
      obtain ⟨ga, offa, u1, u2, v1, v2, rfl, hga, hla, hcx, hcy, hax, hay⟩ := HAA.out.two hxy
      have HT := Lib.hid (text_pair hxy)
      have HGX := Lib.hid ((good_two HG.out.fit hxy).1 HG.out)
      have hnn : t.nodes = 1 + x.nodes + y.nodes := nodes_args2 hxy
      have hss : x.sz ≤ 1048576 ∧ y.sz ≤ 1048576 := by have h := sz_eq t; rw [hxy] at h; simp only [szL] at h; omega
      obtain ⟨hsx, hsy⟩ := hss
      have hxn := nodes_pos x
      have hyn := nodes_pos y
      have HAX := Lib.hid hax
      have HAY := Lib.hid hay
      have HH : Hid (∀ W, Below wR.heap.size wR W → Calls Tryz.prog 61 #[.agg #[.int .i64 t.kind, .int .i64 t.num, .string t.name, .slice (some ⟨ga, offa, none⟩) t.args.length ca]] W fun e w' => e = .returned (.agg #[.int .i64 x.kind, .int .i64 x.num, .string x.name, .slice u1 x.args.length u2]) ∧ Below W.heap.size W w') := Lib.hid fun W hW => by
        obtain ⟨q0, q1, q2, q3⟩ := hcx W hW
        exact head_any t.kind t.num t.name ga offa t.args.length ca _ _ _ _ _ _ W (Nat.lt_of_lt_of_le hga hW.size) (by omega) (by omega) q0 q1 q2 q3
      have HTL : Hid (∀ W, Below wR.heap.size wR W → Calls Tryz.prog 62 #[.agg #[.int .i64 t.kind, .int .i64 t.num, .string t.name, .slice (some ⟨ga, offa, none⟩) t.args.length ca]] W fun e w' => e = .returned (.agg #[.int .i64 y.kind, .int .i64 y.num, .string y.name, .slice v1 y.args.length v2]) ∧ Below W.heap.size W w') := Lib.hid fun W hW => by
        obtain ⟨q0, q1, q2, q3⟩ := hcy W hW
        exact tail_any t.kind t.num t.name ga offa t.args.length ca _ _ _ _ _ _ W (Nat.lt_of_lt_of_le hga hW.size) (by omega) (by omega) q0 q1 q2 q3
      have hxs : x.text.size + y.rest.size + 1 = t.text.size := by rw [HT.out, ByteArray.size_append, ByteArray.size_append]; show _ = 1 + _ + _; omega
      clear hd hxy hga hla hcx hcy hax hay hk
      -- the bracket
      have HC := Lib.hid (wr_byte B b s 40 40 rfl w1 HBD.out (by omega))
      go_wp2_with fail
      refine HC.out.mono ?_
      rintro e w2 ⟨rfl, hwr⟩
      replace HX := Lib.hid (HX.out.tkeep hwr.2.2 (Nat.lt_succ_self _))
      replace HBD := Lib.hid hwr.1
      replace HOLD := Lib.hid (HOLD.out.trans (hwr.2.1.mono hB))
      replace HW := Lib.hid (wrote_step HW.out.1 HW.out.2 hwr)
      clear hwr HC
      -- the head
      have HC := Lib.hid (HH.out w2 HOLD.out)
      obtain ⟨c0a, c0b, c0c, c0d⟩ := HX.out.cells
      have z0 := HX.out.le
      go_wp2_with fail
      refine HC.out.mono ?_
      rintro e w3 ⟨rfl, hb⟩
      clear c0a c0b c0c c0d z0 HC HH
      replace HX := Lib.hid (HX.out.read hb)
      replace HBD := Lib.hid (HBD.out.below hb)
      replace HOLD := Lib.hid (HOLD.out.trans (hb.mono HOLD.out.size))
      replace HW := Lib.hid (And.intro (HW.out.1.trans (hb.mono (by have := HW.out.1.size; omega))) (HW.out.2.trans (TKeep.of_below hb)))
      clear hb
      have HC := Lib.hid (HI.out x _ (s ++ ⟨#[40]⟩) w3 (by omega) (by omega) HAX.out hsx HGX.out.1 HOLD.out HBD.out (by rw [ByteArray.size_append]; show _ + 1 + _ ≤ _; omega))
      go_wp2_with fail
      refine HC.out.mono ?_
      rintro e w4 ⟨rfl, hwr⟩
      replace HX := Lib.hid (HX.out.tkeep hwr.2.2 (Nat.lt_succ_self _))
      replace HBD := Lib.hid hwr.1
      replace HOLD := Lib.hid (HOLD.out.trans (hwr.2.1.mono hB))
      replace HW := Lib.hid (wrote_step HW.out.1 HW.out.2 hwr)
      clear hwr HC
      -- the tail
      have HC := Lib.hid (HTL.out w4 HOLD.out)
      obtain ⟨c0a, c0b, c0c, c0d⟩ := HX.out.cells
      have z0 := HX.out.le
      go_wp2_with fail
      refine HC.out.mono ?_
      rintro e w5 ⟨rfl, hb⟩
      clear c0a c0b c0c c0d z0 HC HTL
      replace HX := Lib.hid (HX.out.read hb)
      replace HBD := Lib.hid (HBD.out.below hb)
      replace HOLD := Lib.hid (HOLD.out.trans (hb.mono HOLD.out.size))
      replace HW := Lib.hid (And.intro (HW.out.1.trans (hb.mono (by have := HW.out.1.size; omega))) (HW.out.2.trans (TKeep.of_below hb)))
      clear hb
      have HST := Lib.hid (store4 HX.out.now (.int .i64 y.kind) (.int .i64 y.num) (.string y.name) (.slice v1 y.args.length v2))
      obtain ⟨r0, r1, r2, r3, rf⟩ := box_cells HX.out.now
      have z0 := HX.out.le
      have hwb := HW.out.1.size
      go_wp2
      clear r0 r1 r2 r3 rf
      go_loopg [20] y.nodes (fun g s2 wr => ∃ (c : Tm) (ad : Option Addr) (cp : Nat) (S : ByteArray), c.nodes ≤ g ∧ c.nodes < t.nodes ∧ Hid (Good c) ∧ Hid (S ++ c.rest = t.text) ∧ c.sz ≤ 1048576 ∧ Hid (ArgsAt wR (.slice ad c.args.length cp) c.args) ∧
          Hid (At wr w.heap.size (w.heap.size + 1) (BoxP w.heap.size #[.int .i64 c.kind, .int .i64 c.num, .string c.name, .slice ad c.args.length cp] 27)) ∧ Hid (Wbd B b (s ++ S) wr) ∧ Hid (Below wR.heap.size wR wr) ∧ Hid (Below B w wr ∧ TKeep w wr))
      case atStart =>
        have ho := HST.out.2
        exact ⟨y, v1, v2, ⟨#[40]⟩ ++ x.text, Nat.le_refl _, by omega, Lib.hid HGX.out.2, Lib.hid HT.out.symm, hsy, HAY, Lib.hid ⟨HST.out.1, stays_box _ _ _, by have := ho.size; omega⟩, Lib.hid (by rw [← bytes_assoc]; exact HBD.out.only ho HX.out.now), Lib.hid (HOLD.out.trans (ho.below (fun k hk => by have := hk.1; omega) HOLD.out.size)), Lib.hid ⟨HW.out.1.trans (ho.below (fun k hk => by have := hk.1; omega) (by omega)), tkeep_new HW.out.2 ho⟩⟩
      case round =>
        obtain ⟨c, ad, cp, S, hg, hct, HGc, HS, hcz, HCA, HXr, HBr, HOr, HWr⟩ := hrel
        clear HX HW HST HT HAX HAY HGX hxs hsx hsy hxn hyn hnn HBD HOLD hwb z0
        have hSs : S.size + c.rest.size = t.text.size := by have h := congrArg ByteArray.size HS.out; rw [ByteArray.size_append] at h; exact h
        have hcn := nodes_pos c
        have HIP := Lib.hid (isPair_any c.kind c.num c.name (.slice ad c.args.length cp) wr)
        obtain ⟨c0a, c0b, c0c, c0d⟩ := HXr.out.cells
        have z1 := HXr.out.le
        go_wp2_with fail
        refine HIP.out.mono ?_
        rintro e wA ⟨rfl, hb⟩
        clear c0a c0b c0c c0d z1 HIP
        replace HXr := Lib.hid (HXr.out.read hb)
        replace HBr := Lib.hid (HBr.out.below hb)
        replace HOr := Lib.hid (HOr.out.trans (hb.mono HOr.out.size))
        replace HWr := Lib.hid (And.intro (HWr.out.1.trans (hb.mono (by have := HWr.out.1.size; omega))) (HWr.out.2.trans (TKeep.of_below hb)))
        clear hb
        by_cases hk : c.kind = 4
        · have hd : decide (c.kind = 4) = true := decide_eq_true hk
          rw [hd]
          obtain ⟨x2, y2, hxy⟩ := HGc.out.fit.pair hk
          obtain ⟨gb, offb, p1, p2, q1, q2, rfl, hga, hla, hcx, hcy, hax, hay⟩ := HCA.out.two hxy
          have HR := Lib.hid (rest_pair hxy)
          have HGX := Lib.hid ((good_two HGc.out.fit hxy).1 HGc.out)
          have hnn : c.nodes = 1 + x2.nodes + y2.nodes := nodes_args2 hxy
          have hss : x2.sz ≤ 1048576 ∧ y2.sz ≤ 1048576 := by have h := sz_eq c; rw [hxy] at h; simp only [szL] at h; omega
          obtain ⟨hsx, hsy⟩ := hss
          have hxn := nodes_pos x2
          have hyn := nodes_pos y2
          have HAX := Lib.hid hax
          have HAY := Lib.hid hay
          have HH : Hid (∀ W, Below wR.heap.size wR W → Calls Tryz.prog 61 #[.agg #[.int .i64 c.kind, .int .i64 c.num, .string c.name, .slice (some ⟨gb, offb, none⟩) c.args.length cp]] W fun e w' => e = .returned (.agg #[.int .i64 x2.kind, .int .i64 x2.num, .string x2.name, .slice p1 x2.args.length p2]) ∧ Below W.heap.size W w') := Lib.hid fun W hW => by
            obtain ⟨r0, r1, r2, r3⟩ := hcx W hW
            exact head_any c.kind c.num c.name gb offb c.args.length cp _ _ _ _ _ _ W (Nat.lt_of_lt_of_le hga hW.size) (by omega) (by omega) r0 r1 r2 r3
          have HTL : Hid (∀ W, Below wR.heap.size wR W → Calls Tryz.prog 62 #[.agg #[.int .i64 c.kind, .int .i64 c.num, .string c.name, .slice (some ⟨gb, offb, none⟩) c.args.length cp]] W fun e w' => e = .returned (.agg #[.int .i64 y2.kind, .int .i64 y2.num, .string y2.name, .slice q1 y2.args.length q2]) ∧ Below W.heap.size W w') := Lib.hid fun W hW => by
            obtain ⟨r0, r1, r2, r3⟩ := hcy W hW
            exact tail_any c.kind c.num c.name gb offb c.args.length cp _ _ _ _ _ _ W (Nat.lt_of_lt_of_le hga hW.size) (by omega) (by omega) r0 r1 r2 r3
          have hxs : x2.text.size + y2.rest.size + 1 = c.rest.size := by rw [HR.out, ByteArray.size_append, ByteArray.size_append]; show _ = 1 + _ + _; omega
          have hsS : (s ++ S).size = s.size + S.size := ByteArray.size_append
          clear hd hxy hga hla hcx hcy hax hay hk
          have HC := Lib.hid (wr_byte B b (s ++ S) 32 32 rfl wA HBr.out (by omega))
          go_wp2_with fail
          refine HC.out.mono ?_
          rintro e w2 ⟨rfl, hwr⟩
          replace HXr := Lib.hid (HXr.out.tkeep hwr.2.2 (Nat.lt_succ_self _))
          replace HBr := Lib.hid hwr.1
          replace HOr := Lib.hid (HOr.out.trans (hwr.2.1.mono hB))
          replace HWr := Lib.hid (wrote_step HWr.out.1 HWr.out.2 hwr)
          clear hwr HC
          have HC := Lib.hid (HH.out w2 HOr.out)
          obtain ⟨c0a, c0b, c0c, c0d⟩ := HXr.out.cells
          have z1 := HXr.out.le
          go_wp2_with fail
          refine HC.out.mono ?_
          rintro e w3 ⟨rfl, hb⟩
          clear c0a c0b c0c c0d z1 HC HH
          replace HXr := Lib.hid (HXr.out.read hb)
          replace HBr := Lib.hid (HBr.out.below hb)
          replace HOr := Lib.hid (HOr.out.trans (hb.mono HOr.out.size))
          replace HWr := Lib.hid (And.intro (HWr.out.1.trans (hb.mono (by have := HWr.out.1.size; omega))) (HWr.out.2.trans (TKeep.of_below hb)))
          clear hb
          have HC := Lib.hid (HI.out x2 _ ((s ++ S) ++ ⟨#[32]⟩) w3 (by omega) (by omega) HAX.out hsx HGX.out.1 HOr.out HBr.out (by rw [ByteArray.size_append, hsS]; show _ + 1 + _ ≤ _; omega))
          go_wp2_with fail
          refine HC.out.mono ?_
          rintro e w4 ⟨rfl, hwr⟩
          replace HXr := Lib.hid (HXr.out.tkeep hwr.2.2 (Nat.lt_succ_self _))
          replace HBr := Lib.hid hwr.1
          replace HOr := Lib.hid (HOr.out.trans (hwr.2.1.mono hB))
          replace HWr := Lib.hid (wrote_step HWr.out.1 HWr.out.2 hwr)
          clear hwr HC
          have HC := Lib.hid (HTL.out w4 HOr.out)
          obtain ⟨c0a, c0b, c0c, c0d⟩ := HXr.out.cells
          have z1 := HXr.out.le
          go_wp2_with fail
          refine HC.out.mono ?_
          rintro e w5 ⟨rfl, hb⟩
          clear c0a c0b c0c c0d z1 HC HTL
          replace HXr := Lib.hid (HXr.out.read hb)
          replace HBr := Lib.hid (HBr.out.below hb)
          replace HOr := Lib.hid (HOr.out.trans (hb.mono HOr.out.size))
          replace HWr := Lib.hid (And.intro (HWr.out.1.trans (hb.mono (by have := HWr.out.1.size; omega))) (HWr.out.2.trans (TKeep.of_below hb)))
          clear hb
          have HST := Lib.hid (store4 HXr.out.now (.int .i64 y2.kind) (.int .i64 y2.num) (.string y2.name) (.slice q1 y2.args.length q2))
          obtain ⟨r0, r1, r2, r3, rf⟩ := box_cells HXr.out.now
          have z1 := HXr.out.le
          have hwb := HWr.out.1.size
          go_wp2
          go_roundg y2.nodes
          case measure => omega
          case rel =>
            have ho := HST.out.2
            exact ⟨y2, q1, q2, (S ++ ⟨#[32]⟩) ++ x2.text, Nat.le_refl _, by omega, Lib.hid HGX.out.2, Lib.hid (text_step HS.out HR.out), hsy, HAY, Lib.hid ⟨HST.out.1, stays_box _ _ _, by have := ho.size; omega⟩, Lib.hid (by rw [← bytes_assoc, ← bytes_assoc]; exact HBr.out.only ho HXr.out.now), Lib.hid (HOr.out.trans (ho.below (fun k hk => by have := hk.1; omega) HOr.out.size)), Lib.hid ⟨HWr.out.1.trans (ho.below (fun k hk => by have := hk.1; omega) (by omega)), tkeep_new HWr.out.2 ho⟩⟩
        · have hd : decide (c.kind = 4) = false := decide_eq_false hk
          rw [hd]
          have HAT := Lib.hid (HGc.out.fit.atom hk)
          have hsS : (s ++ S).size = s.size + S.size := ByteArray.size_append
          clear hd
          by_cases hk0 : c.kind = 0
          · have d0 : (c.kind == 0) = true := by rw [hk0]; rfl
            have d0' : (c.kind != 0) = false := by rw [hk0]; rfl
            have HE := Lib.hid (text_end0 HS.out (by rw [rest_leaf HAT.out, if_pos hk0]))
            clear hk0 hk
            have HC := Lib.hid (wr_byte B b (s ++ S) 41 41 rfl wA HBr.out (by omega))
            obtain ⟨c0a, c0b, c0c, c0d⟩ := HXr.out.cells
            have z1 := HXr.out.le
            go_wp2_with fail
            refine HC.out.mono ?_
            rintro e w2 ⟨rfl, hwr⟩
            have HF : Hid (Wrote B b (s ++ t.text) w w2) := Lib.hid (by
              have h := wrote_step HWr.out.1 HWr.out.2 hwr
              rw [HE.out, ← bytes_assoc]
              exact ⟨hwr.1, h⟩)
            clear hwr HC
            go_wp2
            go_end0
            exact ⟨rfl, HF.out⟩
          · have d0 : (c.kind == 0) = false := by simp [hk0]
            have d0' : (c.kind != 0) = true := by simp [hk0]
            have HE := Lib.hid (text_end1 (L := leafT c) HS.out (by rw [rest_leaf HAT.out, if_neg hk0]))
            have hls := leaf_size HGc.out hk
            have HLT := Lib.hid (fun W (hW : Below wR.heap.size wR W) => leafText_any c ad cp W (HTB.out.kept hW) HGc.out hk)
            clear hk0 hk
            have HC := Lib.hid (wr_string B b (s ++ S) ⟨#[32, 46, 32]⟩ wA HBr.out (by omega) (by decide))
            obtain ⟨c0a, c0b, c0c, c0d⟩ := HXr.out.cells
            have z1 := HXr.out.le
            go_wp2_with fail
            refine HC.out.mono ?_
            rintro e w2 ⟨rfl, hwr⟩
            clear c0a c0b c0c c0d z1
            replace HXr := Lib.hid (HXr.out.tkeep hwr.2.2 (Nat.lt_succ_self _))
            replace HBr := Lib.hid hwr.1
            replace HOr := Lib.hid (HOr.out.trans (hwr.2.1.mono hB))
            replace HWr := Lib.hid (wrote_step HWr.out.1 HWr.out.2 hwr)
            clear hwr HC
            have HC := Lib.hid (HLT.out w2 HOr.out)
            obtain ⟨c0a, c0b, c0c, c0d⟩ := HXr.out.cells
            have z1 := HXr.out.le
            go_wp2_with fail
            refine HC.out.mono ?_
            rintro e w3 ⟨rfl, hb⟩
            clear c0a c0b c0c c0d z1 HC HLT
            replace HXr := Lib.hid (HXr.out.read hb)
            replace HBr := Lib.hid (HBr.out.below hb)
            replace HOr := Lib.hid (HOr.out.trans (hb.mono HOr.out.size))
            replace HWr := Lib.hid (And.intro (HWr.out.1.trans (hb.mono (by have := HWr.out.1.size; omega))) (HWr.out.2.trans (TKeep.of_below hb)))
            clear hb
            have HC := Lib.hid (wr_string B b ((s ++ S) ++ ⟨#[32, 46, 32]⟩) (leafT c) w3 HBr.out (by rw [ByteArray.size_append, hsS]; show _ + 3 ≤ _; omega) (by omega))
            go_wp2_with fail
            refine HC.out.mono ?_
            rintro e w4 ⟨rfl, hwr⟩
            replace HXr := Lib.hid (HXr.out.tkeep hwr.2.2 (Nat.lt_succ_self _))
            replace HBr := Lib.hid hwr.1
            replace HOr := Lib.hid (HOr.out.trans (hwr.2.1.mono hB))
            replace HWr := Lib.hid (wrote_step HWr.out.1 HWr.out.2 hwr)
            clear hwr HC
            have HC := Lib.hid (wr_byte B b (((s ++ S) ++ ⟨#[32, 46, 32]⟩) ++ leafT c) 41 41 rfl w4 HBr.out (by rw [ByteArray.size_append, ByteArray.size_append, hsS]; show _ + 3 + _ ≤ _; omega))
            go_wp2_with fail
            refine HC.out.mono ?_
            rintro e w5 ⟨rfl, hwr⟩
            have HF : Hid (Wrote B b (s ++ t.text) w w5) := Lib.hid (by
              have h := wrote_step HWr.out.1 HWr.out.2 hwr
              rw [HE.out, ← bytes_assoc, ← bytes_assoc, ← bytes_assoc]
              exact ⟨hwr.1, h⟩)
            clear hwr HC
            go_wp2
            go_end0
            exact ⟨rfl, HF.out⟩
    · have hd : decide (t.kind = 4) = false := decide_eq_false hk
      rw [hd]
      have HL := Lib.hid (text_leaf (HG.out.fit.atom hk))
      have HC := Lib.hid (leafText_any t aa ca w1 (HTB.out.kept HOLD.out) HG.out hk)
      have hls := leaf_size HG.out hk
      obtain ⟨c0a, c0b, c0c, c0d⟩ := HX.out.cells
      have z0 := HX.out.le
      clear hd hk
      go_wp2_with fail
      refine HC.out.mono ?_
      rintro e w2 ⟨rfl, hb⟩
      clear c0a c0b c0c c0d z0 HC
      replace HBD := Lib.hid (HBD.out.below hb)
      replace HW := Lib.hid (And.intro (HW.out.1.trans (hb.mono (by have := HW.out.1.size; omega))) (HW.out.2.trans (TKeep.of_below hb)))
      clear hb
      have HC := Lib.hid (wr_string B b s (leafT t) w2 HBD.out (by omega) (by omega))
      go_wp2_with fail
      refine HC.out.mono ?_
      rintro e w3 ⟨rfl, hwr⟩
      have HE : Hid (Wrote B b (s ++ t.text) w w3) := Lib.hid (by
        have h := wrote_step HW.out.1 HW.out.2 hwr
        rw [HL.out]
        exact ⟨hwr.1, h⟩)
      clear hwr HC
      go_wp2
      refine bodyPost_ret (results_none rfl _ _ _) rfl ?_
      exact ⟨rfl, HE.out⟩
end Go.Proofs.YtnbnepeikdieaaaGreatDoor

namespace Go.Proofs.YtnbnepeikdieaaaGreatDoor
open Go.RowKit
set_option linter.unusedVariables false
set_option linter.unusedSimpArgs false

set_option maxHeartbeats 1000000 in
set_option maxRecDepth 100000 in
theorem implFormatTerm_any (t : Tm) (V : Value) (w : World) (ht : Tab w) (hA : ArgsAt w V t.args) (hZ : t.sz ≤ 1048576) :
    Calls Tryz.prog 32 #[.agg #[.int .i64 t.kind, .int .i64 t.num, .string t.name, V]] w fun e w' => e = .returned (.string (txt t)) ∧ Below w.heap.size w w' := by
  obtain ⟨aa, ca, rfl⟩ := hA.slice
  have HAA := Lib.hid hA
  have HTB := Lib.hid ht
  have HX := Lib.hid (at_box w #[.int .i64 t.kind, .int .i64 t.num, .string t.name, .slice aa t.args.length ca] 27)
  have HW : Hid (Below w.heap.size w (w.alloc (.cells #[.int .i64 t.kind, .int .i64 t.num, .string t.name, .slice aa t.args.length ca] 27))) := Lib.hid (belowAlloc (Below.refl _ _) _)
  clear hA ht
  go_enter Tryz.func32, Tryz.ntmps32
  go_upto_region 1 with (fail)
  generalize hw0 : w.alloc (.cells #[.int .i64 t.kind, .int .i64 t.num, .string t.name, .slice aa t.args.length ca] 27) = w0 at HX HW ⊢
  clear hw0
  have HO := Lib.hid (implTermOk_any t _ w0 (HAA.out.kept HW.out) hZ)
  obtain ⟨c0a, c0b, c0c, c0d⟩ := HX.out.cells
  have z0 := HX.out.le
  go_wp2_with fail
  refine HO.out.mono ?_
  rintro e w1 ⟨rfl, hb⟩
  replace HX := Lib.hid (HX.out.read hb)
  replace HW := Lib.hid (belowOn HW.out (Nat.le_refl _) hb)
  clear hb c0a c0b c0c c0d z0 HO
  cases hoa : okB t with
  | false =>
    have HE := Lib.hid (txt_no (okB_false.1 hoa))
    clear hoa
    go_wp2
    go_ret
    exact ⟨by rw [HE.out]; rfl, HW.out⟩
  | true =>
    have hok := okB_true.1 hoa
    have HE := Lib.hid (txt_yes hok)
    have hts := (text_size t.nodes t (Nat.le_refl _) hok.2).1
    have hn5 := hok.1
    have hal : Below w1.heap.size w1 (w1.alloc (.cells #[.pointer none, .slice none 0 0] 85)) := belowAlloc (Below.refl _ _) _
    have HBD : Hid (Wbd w1.heap.size w1.heap.size ⟨#[]⟩ (w1.alloc (.cells #[.pointer none, .slice none 0 0] 85))) := Lib.hid ⟨Lib.fresh_isBuilder _ _ w1, hal.size⟩
    replace HX := Lib.hid (HX.out.read hal)
    have HW2 := Lib.hid (belowOn HW.out (Nat.le_refl _) hal)
    have HC := Lib.hid (writeTerm_any w w1.heap.size w1.heap.size HW.out.size HTB.out (t.nodes + 1) t _ ⟨#[]⟩ _ (Nat.lt_succ_self _) hn5 HAA.out hZ hok.2 HW2.out HBD.out (by show 0 + _ ≤ _; omega))
    obtain ⟨c0a, c0b, c0c, c0d⟩ := HX.out.cells
    have z0 := HX.out.le
    clear hoa hok hal
    go_wp2_with fail
    refine HC.out.mono ?_
    rintro e w2 ⟨rfl, hwr⟩
    have e0 : (⟨#[]⟩ : ByteArray) ++ t.text = t.text := by rw [ByteArray.ext_iff]; simp
    rw [e0] at hwr
    have HS := Lib.hid (Tryz.Builder_String_any w1.heap.size w1.heap.size t.text.data.toList w2 hwr.1.is hwr.1.le)
    rw [Lib.mk_data] at HS
    have HB2 := Lib.hid (HW2.out.trans (hwr.2.1.mono HW.out.size))
    clear hwr HC c0a c0b c0c c0d z0 e0
    go_wp2_with fail
    refine HS.out.mono ?_
    rintro e w3 ⟨rfl, b2⟩
    have HB3 := Lib.hid (HB2.out.trans (b2.mono (Nat.le_trans HW.out.size (Nat.le_refl _))))
    clear b2 HS
    go_wp2
    go_ret
    exact ⟨by rw [HE.out]; rfl, HB3.out⟩
end Go.Proofs.YtnbnepeikdieaaaGreatDoor

namespace Go.Proofs.YtnbnepeikdieaaaGreatDoor
open Go.RowKit
set_option linter.unusedVariables false
set_option linter.unusedSimpArgs false

noncomputable def strT (t : Tm) : Value := .string (txt t)
def sep1 : ByteArray := ⟨#[32]⟩
theorem take_mapT (L : List Tm) (k : Nat) (x : Tm) (h : L[k]? = some x) : (L.take (k + 1)).map strT = (L.take k).map strT ++ [.string (txt x)] := by
  rw [List.take_add_one, h, List.map_append]; rfl
theorem strT_map (L : List Tm) : L.map strT = (L.map txt).map Value.string := by simp [strT]
theorem txts_sum (L : List Tm) (k : Nat) : sumTo (L.map txt) k ≤ 200000 * k := by
  induction k with
  | zero => exact Nat.le_refl _
  | succ k ih =>
    rw [sumTo]
    have : ((L.map txt).getD k ⟨#[]⟩).size ≤ 200000 := by
      rw [List.getD_eq_getElem?_getD, List.getElem?_map]
      cases L[k]? with
      | none => exact Nat.zero_le _
      | some x => exact txt_size x
    omega
/-- What FormatTerms writes. -/
noncomputable def txts (l : List Tm) : ByteArray := if (l.all okB = true ∧ l.length ≤ 40) then joinTo (l.map txt) sep1 l.length else ⟨#[]⟩
theorem txts_yes {l : List Tm} (h : l.all okB = true) (h2 : l.length ≤ 40) : txts l = joinTo (l.map txt) sep1 l.length := by rw [txts, if_pos ⟨h, h2⟩]
theorem txts_no {l : List Tm} (h : ¬ (l.all okB = true ∧ l.length ≤ 40)) : txts l = ⟨#[]⟩ := by rw [txts, if_neg h]

end Go.Proofs.YtnbnepeikdieaaaGreatDoor

