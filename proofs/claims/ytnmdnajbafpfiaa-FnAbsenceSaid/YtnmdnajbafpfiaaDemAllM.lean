/-
  The program's allJoined. (Written by wip/tools/gen_demall.py.)
-/
import Derived.Test.YtnmdnajbafpfiaaDemJM
import Derived.Test.YtnmdnajbafpfiaaDemH
namespace Go.Proofs.Ytnmdnajbafpfiaa
open Go.RowKit
set_option linter.unusedVariables false
set_option linter.unusedSimpArgs false

/-- A list owned from a bound on, or nil and false. -/
def NewAM (lo : Nat) (r : Option (List Mk)) (w : World) (e : Ending) (w' : World) : Prop :=
  ∃ v, e = .returned (.tuple #[v, .bool r.isSome]) ∧ ListO mkE 49 w' (fun k => lo ≤ k ∧ k < w'.heap.size) v (r.getD []) ∧ CapL v (r.getD []).length ∧ Below w.heap.size w w'
theorem newAM_no {lo : Nat} {w w' : World} (hb : Below w.heap.size w w') : NewAM lo none w (.returned (.tuple #[.slice none 0 0, .bool false])) w' := ⟨_, rfl, .nil, .inl ⟨rfl, rfl⟩, hb⟩
theorem newAM_nil {lo : Nat} {w w' : World} (hb : Below w.heap.size w w') : NewAM lo (some []) w (.returned (.tuple #[.slice none 0 0, .bool true])) w' := ⟨_, rfl, .nil, .inl ⟨rfl, rfl⟩, hb⟩
theorem NewDM.from {lo : Nat} {r : Option (List Mk)} {w W w' : World} {e : Ending} (h : NewDM r W e w') (hb : Below w.heap.size w W) (hl : lo ≤ w.heap.size) : NewAM lo r w e w' := by
  obtain ⟨v, he, hv, hc, hw⟩ := h
  exact ⟨v, he, hv.sub fun k hk => ⟨Nat.le_trans hl (Nat.le_trans hb.size hk.1), hk.2⟩, hc, hb.trans (hw.mono hb.size)⟩
theorem allJ_nilM (n : Nat) : allJ ordM n [] = some [] := by cases n <;> rw [allJ]

set_option maxRecDepth 100000 in
set_option maxHeartbeats 16000000 in
theorem mkAllJoined_any (lo n : Nat) : ∀ (Ls : List (List Mk)) (V : Value) (w : World), Ls.length ≤ n → ListsV mkE 49 w lo V Ls → CapL V Ls.length → lenS Ls ≤ 68719476736 → lo ≤ w.heap.size → Ls.length ≤ 1099511627776 →
    Calls Try.prog 82 #[V] w (NewAM lo (allJ ordM n Ls) w) := by
  induction n with
  | zero =>
    intro Ls V w hn hV hC hS hlo hL
    have e : Ls = [] := List.length_eq_zero_iff.1 (by omega)
    subst e
    obtain ⟨A, cap, rfl, _, _, _⟩ := hC.slice
    rw [allJ_nilM]
    clear hV hC
    go_enter Try.func82, Try.ntmps82
    go_wp2
    go_ret2
    exact newAM_nil (Below.refl _ _)
  | succ n ih =>
    intro Ls V w hn hV hC hS hlo hL
    obtain ⟨A, cap, rfl, hnc, hcm, hnil⟩ := hC.slice
    obtain ⟨nn, hnn⟩ : ∃ k : Nat, k = Ls.length := ⟨_, rfl⟩
    rw [← hnn] at hV hnc hnil hL ⊢
    have HN := Lib.hid hnn
    have HI := Lib.hid ih
    clear ih hC hnil
    by_cases h0 : nn = 0
    · have e : Ls = [] := List.length_eq_zero_iff.1 (by omega)
      subst e
      rw [allJ_nilM]
      have h0b : ((nn : Int) == 0) = true := by rw [beq_iff_eq]; omega
      have h0n : (nn == 0) = true := by rw [beq_iff_eq]; exact h0
      clear hV h0 hnn
      go_enter Try.func82, Try.ntmps82
      go_wp2
      go_ret2
      exact newAM_nil (Below.refl _ _)
    have h0b : ((nn : Int) == 0) = false := by rw [beq_eq_false_iff_ne]; omega
    have h0n : (nn == 0) = false := by rw [beq_eq_false_iff_ne]; exact h0
    obtain ⟨ps, hps, hva, hE⟩ := hV
    by_cases h1 : nn = 1
    · obtain ⟨L, rfl⟩ : ∃ L, Ls = [L] := by
        match Ls, hnn with
        | [L], _ => exact ⟨L, rfl⟩
        | [], e => simp at e; omega
        | _ :: _ :: _, e => simp at e; omega
      obtain ⟨p, rfl⟩ : ∃ p, ps = [p] := by
        match ps, hps with
        | [p], _ => exact ⟨p, rfl⟩
      obtain ⟨hO, hCp⟩ := hE 0 p L rfl rfl
      obtain ⟨a', cap', hv, hr⟩ := hva
      obtain ⟨g, off, rfl, hg, hcell⟩ := hr.resolve_left (by simp)
      cases hv
      have c0 : w.cell? ⟨g, off, none⟩ = some p := hcell 0 p rfl
      obtain ⟨pa, pc, rfl⟩ := hO.slice
      have HO := Lib.hid (And.intro hO hCp)
      have hR : allJ ordM (n + 1) [L] = some L := by rw [allJ]
      rw [hR]
      clear hR hE hr hcell hO hCp hps hnn HI h1 HN
      go_enter Try.func82, Try.ntmps82
      go_wp2
      go_ret2
      exact ⟨_, rfl, HO.out.1, HO.out.2, Below.refl _ _⟩
    have h1b : ((nn : Int) == 1) = false := by rw [beq_eq_false_iff_ne]; omega
    have h1n : (nn == 1) = false := by rw [beq_eq_false_iff_ne]; exact h1
    obtain ⟨hf, hhf⟩ : ∃ hf : Nat, hf = nn / 2 := ⟨_, rfl⟩
    have hq : (nn : Int) / 2 = (hf : Int) := by omega
    have hf0 : 0 < hf := by omega
    have hf1 : hf < nn := by omega
    have hR : allJ ordM (n + 1) Ls = (match allJ ordM n (Ls.take hf), allJ ordM n (Ls.drop hf) with
      | some a, some b => jn ordM a b
      | _, _ => none) := by
      rw [allJ_two ordM n (by omega), hhf, hnn]
      generalize allJ ordM n (Ls.take (Ls.length / 2)) = q0
      generalize allJ ordM n (Ls.drop (Ls.length / 2)) = q1
      cases q0 <;> cases q1 <;> rfl
    have hsum := lenS_parts Ls hf
    have HLA : Hid (∀ a, allJ ordM n (Ls.take hf) = some a → a.length ≤ lenS (Ls.take hf)) := Lib.hid fun a h => allJ_len ordM n _ a h
    have HLB : Hid (∀ b, allJ ordM n (Ls.drop hf) = some b → b.length ≤ lenS (Ls.drop hf)) := Lib.hid fun b h => allJ_len ordM n _ b h
    obtain ⟨g, off, hsl0, hv0, hsl1, hv1⟩ := vals_cut (w := w) 127 86 Try.underlying127 (fun W => by kernel_rfl) (hnn.trans hps.symm) hva hf0 hf1 hnc
    have HV0 := Lib.hid (listsV_take (E := mkE) (e := 49) (lo := lo) hps hE hv0)
    have HV1 := Lib.hid (listsV_drop (E := mkE) (e := 49) (lo := lo) hps hE hv1)
    have hlt : (Ls.take hf).length = hf := by rw [List.length_take, ← hnn]; omega
    have hld : (Ls.drop hf).length = nn - hf := by rw [List.length_drop, ← hnn]
    have HC0 := Lib.hid (HI.out (Ls.take hf) _ w (by rw [hlt]; omega) HV0.out (by rw [hlt]; exact .inr ⟨_, _, _, rfl, by omega, hcm⟩) (by omega) hlo (by rw [hlt]; omega))
    have HC1 : Hid (∀ W, Below w.heap.size w W → Calls Try.prog 82 #[.slice (some ⟨g, off + hf, none⟩) (nn - hf) (cap - hf)] W (NewAM lo (allJ ordM n (Ls.drop hf)) W)) := Lib.hid fun W hW =>
      HI.out (Ls.drop hf) _ W (by rw [hld]; omega) (HV1.out.kept hW) (by rw [hld]; exact .inr ⟨_, _, _, rfl, by omega, by omega⟩) (by omega) (Nat.le_trans hlo hW.size) (by rw [hld]; omega)
    rw [hR]
    have HSM := Lib.hid (show lenS (Ls.take hf) + lenS (Ls.drop hf) ≤ 68719476736 by omega)
    clear hR hv0 hv1 hps hE hva hnn HI hlt hld hsum h0 h1 HV0 HV1 hhf
    generalize allJ ordM n (Ls.take hf) = q0 at HC0 HLA ⊢
    generalize allJ ordM n (Ls.drop hf) = q1 at HC1 HLB ⊢
    obtain ⟨R, hRR⟩ : ∃ R, (match q0, q1 with
      | some a, some b => jn ordM a b
      | _, _ => none) = R := ⟨_, rfl⟩
    rw [hRR]
    have HRR := Lib.hid hRR
    clear hRR
    go_enter Try.func82, Try.ntmps82
    go_wp2_with fail
    refine HC0.out.mono ?_
    rintro e w1 ⟨v1, rfl, hv1, hc1, hb1⟩
    have HW1 := Lib.hid hb1
    have HV1 := Lib.hid hv1
    have HCP1 := Lib.hid hc1
    have HC2 := Lib.hid (HC1.out w1 HW1.out)
    clear hv1 hc1 hb1 HC0 HC1
    go_wp2_with fail
    refine HC2.out.mono ?_
    rintro e w2 ⟨v2, rfl, hv2, hc2, hb2⟩
    have HW2 := Lib.hid (HW1.out.trans (hb2.mono HW1.out.size))
    have HV1b := Lib.hid (HV1.out.inS.any.kept hb2)
    have HV2 := Lib.hid hv2.inS.any
    have HCP2 := Lib.hid hc2
    clear hv2 hc2 hb2 HC2 HV1
    cases q0 with
    | none =>
      obtain rfl : R = none := HRR.out.symm
      go_wp2
      go_ret2
      exact newAM_no HW2.out
    | some a =>
      cases q1 with
      | none =>
        obtain rfl : R = none := HRR.out.symm
        go_wp2
        go_ret2
        exact newAM_no HW2.out
      | some b =>
        have hla := HLA.out a rfl
        have hlb := HLB.out b rfl
        have HC3 := Lib.hid (mkJoined_any a b v1 v2 w2 HV1b.out HCP1.out HV2.out HCP2.out (by have := HSM.out; omega))
        rw [show jn ordM a b = R from HRR.out] at HC3
        clear hla hlb
        go_wp2_with fail
        refine HC3.out.mono ?_
        rintro e w3 ⟨v3, rfl, hv3, hc3, hb3⟩
        have HEND := Lib.hid (NewDM.from (lo := lo) ⟨v3, rfl, hv3, hc3, hb3⟩ HW2.out hlo)
        clear hv3 hc3 hb3 HC3
        go_wp2
        go_ret2
        exact HEND.out
end Go.Proofs.Ytnmdnajbafpfiaa

