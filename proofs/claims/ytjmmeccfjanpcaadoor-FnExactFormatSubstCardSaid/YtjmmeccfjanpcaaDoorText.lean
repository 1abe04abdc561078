/-
  The text of a term, plain.
-/
import Derived.Test.YtjmmeccfjanpcaaDoorItems
import Derived.Test.YtjmmeccfjanpcaaDoorNums
namespace Go.Proofs.YtjmmeccfjanpcaaDoor
open Go.RowKit
set_option linter.unusedVariables false
set_option linter.unusedSimpArgs false

def leafT (t : Tm) : ByteArray := if t.kind = 1 then ⟨#[63]⟩ ++ fmt t.num else if t.kind = 2 then t.name else if t.kind = 3 then fmt t.num else ⟨#[40, 41]⟩
mutual
def fmtN : Nat → Tm → ByteArray
  | 0, _ => ⟨#[]⟩
  | n + 1, t => match t.args with | [a, b] => (⟨#[40]⟩ ++ fmtN n a) ++ restN n b | _ => leafT t
def restN : Nat → Tm → ByteArray
  | 0, _ => ⟨#[]⟩
  | n + 1, t => match t.args with | [a, b] => (⟨#[32]⟩ ++ fmtN n a) ++ restN n b | _ => if t.kind = 0 then ⟨#[41]⟩ else (⟨#[32, 46, 32]⟩ ++ leafT t) ++ ⟨#[41]⟩
end
theorem fmtN_stable : ∀ (n m : Nat) (t : Tm), t.nodes ≤ n → t.nodes ≤ m → fmtN n t = fmtN m t ∧ restN n t = restN m t
  | 0, m, t, h, _ => by have := nodes_pos t; omega
  | n + 1, 0, t, _, h => by have := nodes_pos t; omega
  | n + 1, m + 1, t, h1, h2 => by
    rw [fmtN, fmtN, restN, restN]
    split
    · rename_i x y hxy
      have hn := nodes_args2 hxy
      have hx := nodes_pos x
      have hy := nodes_pos y
      have e1 := fmtN_stable n m x (by omega) (by omega)
      have e2 := fmtN_stable n m y (by omega) (by omega)
      rw [e1.1, e2.2]
      exact ⟨rfl, rfl⟩
    · exact ⟨rfl, rfl⟩
def Tm.text (t : Tm) : ByteArray := fmtN t.nodes t
def Tm.rest (t : Tm) : ByteArray := restN t.nodes t
theorem nodes_succ (t : Tm) : ∃ n, t.nodes = n + 1 := ⟨t.nodes - 1, by have := nodes_pos t; omega⟩
theorem text_pair {t x y : Tm} (h : t.args = [x, y]) : t.text = (⟨#[40]⟩ ++ x.text) ++ y.rest := by
  have hn := nodes_args2 h
  obtain ⟨n, hn'⟩ := nodes_succ t
  have hx := nodes_pos x
  have hy := nodes_pos y
  rw [Tm.text, hn', fmtN, h]
  show (⟨#[40]⟩ ++ fmtN n x) ++ restN n y = _
  rw [(fmtN_stable n x.nodes x (by omega) (Nat.le_refl _)).1, (fmtN_stable n y.nodes y (by omega) (Nat.le_refl _)).2]
  rfl
theorem rest_pair {t x y : Tm} (h : t.args = [x, y]) : t.rest = (⟨#[32]⟩ ++ x.text) ++ y.rest := by
  have hn := nodes_args2 h
  obtain ⟨n, hn'⟩ := nodes_succ t
  have hx := nodes_pos x
  have hy := nodes_pos y
  rw [Tm.rest, hn', restN, h]
  show (⟨#[32]⟩ ++ fmtN n x) ++ restN n y = _
  rw [(fmtN_stable n x.nodes x (by omega) (Nat.le_refl _)).1, (fmtN_stable n y.nodes y (by omega) (Nat.le_refl _)).2]
  rfl
theorem text_leaf {t : Tm} (h : t.args = []) : t.text = leafT t := by
  obtain ⟨n, hn'⟩ := nodes_succ t
  rw [Tm.text, hn', fmtN, h]
theorem rest_leaf {t : Tm} (h : t.args = []) : t.rest = if t.kind = 0 then ⟨#[41]⟩ else (⟨#[32, 46, 32]⟩ ++ leafT t) ++ ⟨#[41]⟩ := by
  obtain ⟨n, hn'⟩ := nodes_succ t
  rw [Tm.rest, hn', restN, h]
theorem leaf_size {t : Tm} (h : Good t) (hk : ¬ t.kind = 4) : (leafT t).size ≤ 22 := by
  have hf : -1000000000 ≤ t.num ∧ t.num ≤ 1000000000 := by
    rcases h.fit with ⟨_, h, _⟩ | ⟨_, h, _⟩ | ⟨_, h, _⟩ | ⟨_, h, _⟩ | ⟨h, _⟩ <;> omega
  have h1 := fmt_len t.num (by omega) (by omega)
  have h2 := h.fit.name_size
  unfold leafT
  split
  · rw [ByteArray.size_append]; show 1 + _ ≤ 22; omega
  · split
    · omega
    · split
      · omega
      · show 2 ≤ 22; omega
theorem text_size (n : Nat) : ∀ t : Tm, t.nodes ≤ n → Good t → t.text.size + 10 ≤ 40 * t.nodes ∧ t.rest.size + 10 ≤ 40 * t.nodes := by
  induction n with
  | zero => intro t h; have := nodes_pos t; omega
  | succ n ih =>
    intro t hn hg
    by_cases hk : t.kind = 4
    · obtain ⟨x, y, hxy⟩ := hg.fit.pair hk
      have hn2 := nodes_args2 hxy
      have hx := nodes_pos x
      have hy := nodes_pos y
      obtain ⟨gx, gy⟩ := (good_two hg.fit hxy).1 hg
      have h1 := ih x (by omega) gx
      have h2 := ih y (by omega) gy
      rw [text_pair hxy, rest_pair hxy, ByteArray.size_append, ByteArray.size_append, ByteArray.size_append, ByteArray.size_append]
      have e1 : (⟨#[40]⟩ : ByteArray).size = 1 := rfl
      have e2 : (⟨#[32]⟩ : ByteArray).size = 1 := rfl
      omega
    · have hl := hg.fit.atom hk
      have h1 := leaf_size hg hk
      have hp := nodes_pos t
      rw [text_leaf hl, rest_leaf hl]
      refine ⟨by omega, ?_⟩
      split
      · show 1 + 10 ≤ _; omega
      · rw [ByteArray.size_append, ByteArray.size_append]
        have e1 : (⟨#[32, 46, 32]⟩ : ByteArray).size = 3 := rfl
        have e2 : (⟨#[41]⟩ : ByteArray).size = 1 := rfl
        omega
theorem good_num {t : Tm} (h : Good t) : -9223372036854775808 ≤ t.num ∧ t.num ≤ 9223372036854775807 := by
  rcases h.fit with ⟨_, h, _⟩ | ⟨_, h, _⟩ | ⟨_, h, _⟩ | ⟨_, h, _⟩ | ⟨_, h, _⟩ <;> omega
theorem good_kinds {t : Tm} (h : Good t) : t.kind = 0 ∨ t.kind = 1 ∨ t.kind = 2 ∨ t.kind = 3 ∨ t.kind = 4 := by
  rcases h.fit with ⟨h, _⟩ | ⟨h, _⟩ | ⟨h, _⟩ | ⟨h, _⟩ | ⟨h, _⟩ <;> omega
theorem bytes_assoc (a b c : ByteArray) : (a ++ b) ++ c = a ++ (b ++ c) := by
  rw [ByteArray.ext_iff]
  simp only [ByteArray.data_append, Array.append_assoc]
theorem leafT0 {t : Tm} (h : t.kind = 0) : leafT t = ⟨#[40, 41]⟩ := by rw [leafT, if_neg (by omega), if_neg (by omega), if_neg (by omega)]
theorem leafT1 {t : Tm} (h : t.kind = 1) : leafT t = ⟨#[63]⟩ ++ fmt t.num := by rw [leafT, if_pos h]
theorem leafT2 {t : Tm} (h : t.kind = 2) : leafT t = t.name := by rw [leafT, if_neg (by omega), if_pos h]
theorem leafT3 {t : Tm} (h : t.kind = 3) : leafT t = fmt t.num := by rw [leafT, if_neg (by omega), if_neg (by omega), if_pos h]


open Classical in
noncomputable def txt (t : Tm) : ByteArray := if Ok t then t.text else ⟨#[]⟩
theorem txt_yes {t : Tm} (h : Ok t) : txt t = t.text := by rw [txt, if_pos h]
theorem txt_no {t : Tm} (h : ¬ Ok t) : txt t = ⟨#[]⟩ := by rw [txt, if_neg h]
theorem txt_size (t : Tm) : (txt t).size ≤ 200000 := by
  by_cases h : Ok t
  · rw [txt_yes h]
    have := (text_size t.nodes t (Nat.le_refl _) h.2).1
    have := h.1
    omega
  · rw [txt_no h]; exact Nat.zero_le _
end Go.Proofs.YtjmmeccfjanpcaaDoor

