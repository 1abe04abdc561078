/-
  Terms drawn: l02Atom, l02Draw, MakeTerm, MakeSize.
-/
import Derived.Test.YtokndpmoamjbfaaDoorDraw
namespace Go.Proofs.YtokndpmoamjbfaaDoor
open Go.RowKit
set_option linter.unusedVariables false
set_option linter.unusedSimpArgs false

theorem nodes_atom {t : Tm} (h : t.args = []) : (t.nodes : Int) ≤ 1 := by rw [nodes_eq, h, nodesL]; decide
set_option maxHeartbeats 1000000 in
set_option maxRecDepth 100000 in
theorem atom_any (w0 : World) (p : Nat) (a : Option Addr) (len cap : Nat) (w : World) (h : Ready w0 p a len cap w) :
    Calls Tryd.prog 50 #[.pointer (some ⟨p, 0, none⟩)] w (DrawT w0 p a len cap 1 w) := by
  have hn1 : w.heap.size + 1 ≤ (w.alloc (.cells #[.int .i64 0, .int .i64 0, .string ⟨#[]⟩, .slice none 0 0] 26)).heap.size := by simp
  have HR := Lib.hid (at_box w #[.int .i64 0, .int .i64 0, .string ⟨#[]⟩, .slice none 0 0] 26)
  have HG := Lib.hid (h.below (belowAlloc (Below.refl _ _) (.cells #[.int .i64 0, .int .i64 0, .string ⟨#[]⟩, .slice none 0 0] 26)))
  have HO : Hid (Only (iv p (p + 1)) w (w.alloc (.cells #[.int .i64 0, .int .i64 0, .string ⟨#[]⟩, .slice none 0 0] 26))) := Lib.hid (Only.of_below (belowAlloc (Below.refl _ _) _))
  have hp := h.hi
  have hlo := h.lo
  clear h
  go_enter Tryd.func50, Tryd.ntmps50
  go_upto_region 1 with (fail)
  generalize hw : w.alloc (.cells #[.int .i64 0, .int .i64 0, .string ⟨#[]⟩, .slice none 0 0] 26) = w1 at HR HG HO hn1 ⊢
  clear hw
  go_wp2_with fail
  refine (below_any 7 w0 p a len cap w1 HG.out (by omega) (by omega)).mono ?_
  rintro e w2 ⟨r, rfl, r0, r1, hg, ho⟩
  have HR2 := Lib.hid (HR.out.only ho (by omega))
  have HG2 := Lib.hid hg
  have HO2 := Lib.hid (HO.out.trans ho)
  have hn2 := ho.size
  clear HR HG HO hg ho
  by_cases h2 : r < 2
  · have hd : decide (r < 2) = true := decide_eq_true h2
    have HN := Lib.hid (num_any r w2)
    go_wp2_with fail
    refine HN.out.mono ?_
    rintro e w3 ⟨rfl, hb⟩
    have HRE := Lib.hid (HR2.out.read hb).now
    obtain ⟨q0, q1, q2, q3, qf⟩ := box_cells (HR2.out.read hb).now
    have hn3 := hb.size
    have HG3 := Lib.hid (HG2.out.below hb)
    have HO3 := Lib.hid (only_below HO2.out hb)
    clear hb HN
    go_wp2
    exact drawT_end (t := .mk 3 r ⟨#[]⟩ []) (b := w.heap.size) rfl rfl rfl rfl rfl rfl rfl Tryd.underlying26 (by kernel_rfl) HRE.out (Nat.le_refl _) (by omega) (by omega) HG3.out HO3.out (atom_args rfl) (.int r (by omega) (by omega)) (nodes_atom rfl)
  · have hd : decide (r < 2) = false := decide_eq_false h2
    by_cases h5 : r < 5
    · have hd5 : decide (r < 5) = true := decide_eq_true h5
      obtain ⟨x, hx, hr⟩ : ∃ x : UInt8, (97 ≤ x.toNat ∧ x.toNat ≤ 122) ∧ ((r = 2 ∧ x = 97) ∨ (r = 3 ∧ x = 98) ∨ (r = 4 ∧ x = 99)) := by
        have h3 : r = 2 ∨ r = 3 ∨ r = 4 := by omega
        rcases h3 with rfl | rfl | rfl
        · exact ⟨97, by decide, .inl ⟨rfl, rfl⟩⟩
        · exact ⟨98, by decide, .inr (.inl ⟨rfl, rfl⟩)⟩
        · exact ⟨99, by decide, .inr (.inr ⟨rfl, rfl⟩)⟩
      have HB : Hid (Below w2.heap.size w2 (w2.alloc (.cells #[.string ⟨#[97]⟩, .string ⟨#[98]⟩, .string ⟨#[99]⟩] 9))) := Lib.hid (belowAlloc (Below.refl _ _) _)
      have HN := Lib.hid (sym_any ⟨#[x]⟩ (w2.alloc (.cells #[.string ⟨#[97]⟩, .string ⟨#[98]⟩, .string ⟨#[99]⟩] 9)))
      have HX := Lib.hid (name_letter x hx)
      clear hx hd5 hd
      rcases hr with ⟨rfl, rfl⟩ | ⟨rfl, rfl⟩ | ⟨rfl, rfl⟩
      all_goals
        go_wp2_with fail
        refine HN.out.mono ?_
        rintro e w3 ⟨rfl, hb0⟩
        have hb := HB.out.trans (hb0.mono (by simp))
        have HRE := Lib.hid (HR2.out.read hb).now
        obtain ⟨q0, q1, q2, q3, qf⟩ := box_cells (HR2.out.read hb).now
        have hn3 := hb.size
        have HG3 := Lib.hid (HG2.out.below hb)
        have HO3 := Lib.hid (only_below HO2.out hb)
        clear hb hb0 HN HB
        go_wp2
        exact drawT_end (t := .mk 2 0 _ []) (b := w.heap.size) rfl rfl rfl rfl rfl rfl rfl Tryd.underlying26 (by kernel_rfl) HRE.out (Nat.le_refl _) (by omega) (by omega) HG3.out HO3.out (atom_args rfl) (.sym _ HX.out) (nodes_atom rfl)
    · have hd5 : decide (r < 5) = false := decide_eq_false h5
      have HRE := Lib.hid HR2.out.now
      obtain ⟨q0, q1, q2, q3, qf⟩ := box_cells HR2.out.now
      go_wp2
      exact drawT_end (t := .mk 0 0 ⟨#[]⟩ []) (b := w.heap.size) rfl rfl rfl rfl rfl rfl rfl Tryd.underlying26 (by kernel_rfl) HRE.out (Nat.le_refl _) (by omega) (by omega) HG2.out HO2.out (atom_args rfl) .nil (nodes_atom rfl)
end Go.Proofs.YtokndpmoamjbfaaDoor

