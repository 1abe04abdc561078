/-
  AddKind: plain, and the model's. (Written by wip/tools/gen_speckind2.py.)
-/
import Derived.Test.YtnmdnajbafpfiaaGreatSpecKind1
namespace Go.Proofs.YtnmdnajbafpfiaaGreat
open Go.RowKit
set_option linter.unusedVariables false
set_option linter.unusedSimpArgs false

def AdP (s : List Bd) (l : List Kd) (t : Tm) (k : Int) : Prop := apB s t = true ∧ KdsP l ∧ (k = 2 ∨ k = 3) ∧ (akR l (apT s t) k).2 = true
open Classical in
noncomputable def adB (s : List Bd) (l : List Kd) (t : Tm) (k : Int) : Bool := decide (AdP s l t k)
open Classical in
noncomputable def adL (s : List Bd) (l : List Kd) (t : Tm) (k : Int) : List Kd := if AdP s l t k then (akR l (apT s t) k).1 else []
theorem ad_yes {s : List Bd} {l : List Kd} {t : Tm} {k : Int} (h : AdP s l t k) : adL s l t k = (akR l (apT s t) k).1 ∧ adB s l t k = true := ⟨if_pos h, by simp [adB, h]⟩
theorem ad_no {s : List Bd} {l : List Kd} {t : Tm} {k : Int} (h : ¬ AdP s l t k) : adL s l t k = [] ∧ adB s l t k = false := ⟨if_neg h, by simp [adB, h]⟩
theorem insK_len (l : List Kd) (i : Nat) (x : Kd) : (insK l i x).length = l.length + 1 := by
  have h := congrArg List.length (List.take_append_drop i l)
  rw [List.length_append] at h
  rw [insK, List.length_append, List.length_cons]
  omega
theorem akR_len (l : List Kd) (t : Tm) (k : Int) : (akR l t k).1.length ≤ l.length + 1 := by
  unfold akR
  split
  · split
    · split
      · exact Nat.le_succ _
      · exact Nat.le_of_eq (insK_len _ _ _)
    · exact Nat.le_of_eq (insK_len _ _ _)
  · exact Nat.le_succ _
theorem ad_len (s : List Bd) (l : List Kd) (t : Tm) (k : Int) : (adL s l t k).length ≤ l.length + 1 := by
  by_cases h : AdP s l t k
  · rw [(ad_yes h).1]; exact akR_len _ _ _
  · rw [(ad_no h).1]; exact Nat.zero_le _
def OldK2 (l : List Kd) (b : Bool) (w : World) (e : Ending) (w' : World) : Prop := ∃ v, e = .returned (.tuple #[v, .bool b]) ∧ ListS kdE w' Any v l ∧ Below w.heap.size w w'

set_option maxRecDepth 100000 in
set_option maxHeartbeats 4000000 in
theorem specAddKind_any (s : List Bd) (Vs : Value) (l : List Kd) (Vl : Value) (t : Tm) (Vt : Value) (k : Int) (w : World) (hS : ListS bdE w Any Vs s) (hZs : szB s ≤ 1048576) (hA : ListS kdE w Any Vl l) (hV : CapOk Vl l.length) (hL : l.length ≤ 1048577) (hT : ArgsAt w Vt t.args) (hZ : t.sz ≤ 1048576) :
    Calls Tryz.prog 10 #[Vs, Vl, .agg #[.int .i64 t.kind, .int .i64 t.num, .string t.name, Vt], .int .i64 k] w (OldK2 (adL s l t k) (adB s l t k) w) := by
  obtain ⟨i0, hi, hz0, hz1, hz2⟩ := info_parts infoVarKind
  have HII := Lib.hid (And.intro hi (And.intro hz0 (And.intro hz1 hz2)))
  obtain ⟨ta, tc, rfl⟩ := hT.slice
  have hal : Below w.heap.size w (w.alloc (.cells #[.int .i64 t.kind, .int .i64 t.num, .string t.name, .slice ta t.args.length tc] 38)) := belowAlloc (Below.refl _ _) _
  have HC := Lib.hid (specApplySubst_any s _ t _ (w.alloc (.cells #[.int .i64 t.kind, .int .i64 t.num, .string t.name, .slice ta t.args.length tc] 38)) (hS.kept hal) hZs (hT.kept hal) hZ)
  have HW := Lib.hid hal
  have HA := Lib.hid hA
  have HVC := Lib.hid hV
  have HNO : Hid (¬ AdP s l t k → adL s l t k = [] ∧ adB s l t k = false) := Lib.hid ad_no
  have HYES : Hid (AdP s l t k → adL s l t k = (akR l (apT s t) k).1 ∧ adB s l t k = true) := Lib.hid ad_yes
  generalize adL s l t k = rl at HNO HYES ⊢
  generalize adB s l t k = rb at HNO HYES ⊢
  clear hi hz0 hz1 hz2 hS hA hV hT hal
  go_enter Tryz.func10, Tryz.ntmps10
  go_wp2_with fail
  refine HC.out.mono ?_
  rintro e w1 ⟨u, rfl, hu, hb⟩
  obtain ⟨ua, uc, rfl⟩ := hu.at.slice
  have HU := Lib.hid hu.at
  have HW1 := Lib.hid (HW.out.trans (hb.mono HW.out.size))
  clear hb hu HC
  obtain ⟨x, hx⟩ : ∃ x, apT s t = x := ⟨_, rfl⟩
  rw [hx] at HU HYES ⊢
  have HX := Lib.hid hx
  clear hx
  cases hap : apB s t with
  | false =>
    obtain ⟨rfl, rfl⟩ := HNO.out fun h => by have h1 := h.1; rw [hap] at h1; exact Bool.false_ne_true h1
    clear hap HYES HNO
    go_wp2
    go_ret2
    exact ⟨_, rfl, .nil _ _, HW1.out.alloc HW1.out.size _⟩
  | true =>
    have HAP := Lib.hid hap
    clear hap
    have hal2 : Below w1.heap.size w1 (w1.alloc (.cells #[.int .i64 x.kind, .int .i64 x.num, .string x.name, .slice ua x.args.length uc] 38)) := belowAlloc (Below.refl _ _) _
    have HBX := Lib.hid (at_box_of w1 #[.int .i64 x.kind, .int .i64 x.num, .string x.name, .slice ua x.args.length uc] 38 w1.heap.size rfl)
    have HW2 := Lib.hid (HW1.out.trans (hal2.mono HW1.out.size))
    have HU2 := Lib.hid (HU.out.kept hal2)
    have HK := Lib.hid (specKindsOk_any l Vl (w1.alloc (.cells #[.int .i64 x.kind, .int .i64 x.num, .string x.name, .slice ua x.args.length uc] 38)) (HA.out.kept HW2.out) hL)
    clear hal2
    go_wp2_with fail
    refine HK.out.mono ?_
    rintro e w3 ⟨rfl, hb3⟩
    have HW3 := Lib.hid (HW2.out.trans (hb3.mono HW2.out.size))
    have HB3 := Lib.hid (HBX.out.read hb3)
    have HU3 := Lib.hid (HU2.out.kept hb3)
    obtain ⟨e0, e1, e2, e3⟩ := HB3.out.cells
    clear hb3 HK HBX
    cases hkd : kdsB l with
    | false =>
      obtain ⟨rfl, rfl⟩ := HNO.out fun h => kdsB_false.1 hkd h.2.1
      clear hkd HYES HNO
      go_wp2
      go_ret2
      exact ⟨_, rfl, .nil _ _, HW3.out⟩
    | true =>
      have HKD := Lib.hid (kdsB_true.1 hkd)
      clear hkd
      by_cases h23 : k = 2 ∨ k = 3
      case neg =>
        obtain ⟨rfl, rfl⟩ := HNO.out fun h => h23 h.2.2.1
        have g2 : (k != 2) = true := by rw [bne_iff_ne]; exact fun h => h23 (.inl h)
        have g3 : (k != 3) = true := by rw [bne_iff_ne]; exact fun h => h23 (.inr h)
        clear h23 HYES HNO
        go_wp2
        go_ret2
        exact ⟨_, rfl, .nil _ _, HW3.out⟩
      have HC4 := Lib.hid (specKind1_any l Vl x (.slice ua x.args.length uc) k w3 (HA.out.kept HW3.out) HVC.out HU3.out hL)
      have H23 := Lib.hid h23
      have HLEN := Lib.hid (akR_len l x k)
      have HAD : Hid ((akR l x k).2 = true ↔ AdP s l t k) := Lib.hid ⟨fun h => ⟨HAP.out, HKD.out, H23.out, by rw [HX.out]; exact h⟩, fun h => by rw [← HX.out]; exact h.2.2.2⟩
      generalize hr : akR l x k = r at HC4 HLEN HAD HYES
      clear hr
      obtain ⟨r1, r2⟩ := r
      by_cases h2 : k = 2
      · have g2 : (k != 2) = false := by rw [h2]; rfl
        clear h23 h2
        go_wp2_with fail
        refine HC4.out.mono ?_
        rintro e w4 ⟨u4, rfl, hl4, ⟨g4, o4, c4, rfl, hc4, hm4⟩, hb4⟩
        have HW4 := Lib.hid (HW3.out.trans (hb4.mono HW3.out.size))
        obtain ⟨L4, hL4, hcells4⟩ := hl4.kdCells
        have HCL := Lib.hid hcells4
        have HL4 := Lib.hid hL4
        have HN4 : Hid (L4.length = r1.length) := Lib.hid (by rw [hL4, List.length_map])
        clear hb4 HC4 hl4 hcells4 hL4 e0 e1 e2 e3
        cases r2 with
        | false =>
          obtain ⟨rfl, rfl⟩ := HNO.out fun h => Bool.false_ne_true (HAD.out.2 h)
          clear HYES HNO
          go_wp2
          go_ret2
          exact ⟨_, rfl, .nil _ _, HW4.out⟩
        | true =>
          obtain ⟨rfl, rfl⟩ := HYES.out (HAD.out.1 rfl)
          have hn4 : rl.length ≤ 1048578 := Nat.le_trans HLEN.out (Nat.succ_le_succ hL)
          have HRS := Lib.hid (rowX_start (E := kdE) (e := 72) (w := w4) (lo := w.heap.size) HW4.out.size)
          have HWA : Hid (Below w4.heap.size w4 (w4.alloc (.cells #[] 72))) := Lib.hid (belowAlloc (Below.refl _ _) _)
          have HZ4 := Lib.hid HW4.out.size
          clear HYES HNO HAD
          go_wp2_with (at_builtin; refine append_rowX rfl _ _ 30 rfl kdE w.heap.size 72 i0 _ 16 Tryz.underlying30 HII.out.1 HII.out.2.1 HII.out.2.2.1 HII.out.2.2.2 rfl (by omega) _ _ rfl HRS.out (some ⟨g4, o4, none⟩) rl.length c4 rfl L4 HN4.out (fun h => by cases h) (fun ad h j u hj => by cases h; rw [addr_add]; exact HCL.out _ HWA.out j u hj) (kd_one _) (fun _ _ _ => trivial) (by simp; omega) (by have := HZ4.out; simp; omega) ?_; intro v5 w5 hown5 hb5; have HO5 := Lib.hid hown5; have HX5 := Lib.hid hb5; clear hown5 hb5)
          go_wp2
          go_ret2
          refine ⟨_, rfl, ?_, (HW4.out.trans (HWA.out.mono HW4.out.size)).trans HX5.out⟩
          have h := HO5.out.list
          rw [List.nil_append, ← HL4.out] at h
          exact h
      · have g2 : (k != 2) = true := by rw [bne_iff_ne]; exact h2
        have g3 : (k != 3) = false := by rcases h23 with h | h; exact absurd h h2; rw [h]; rfl
        clear h23 h2
        go_wp2_with fail
        refine HC4.out.mono ?_
        rintro e w4 ⟨u4, rfl, hl4, ⟨g4, o4, c4, rfl, hc4, hm4⟩, hb4⟩
        have HW4 := Lib.hid (HW3.out.trans (hb4.mono HW3.out.size))
        obtain ⟨L4, hL4, hcells4⟩ := hl4.kdCells
        have HCL := Lib.hid hcells4
        have HL4 := Lib.hid hL4
        have HN4 : Hid (L4.length = r1.length) := Lib.hid (by rw [hL4, List.length_map])
        clear hb4 HC4 hl4 hcells4 hL4 e0 e1 e2 e3
        cases r2 with
        | false =>
          obtain ⟨rfl, rfl⟩ := HNO.out fun h => Bool.false_ne_true (HAD.out.2 h)
          clear HYES HNO
          go_wp2
          go_ret2
          exact ⟨_, rfl, .nil _ _, HW4.out⟩
        | true =>
          obtain ⟨rfl, rfl⟩ := HYES.out (HAD.out.1 rfl)
          have hn4 : rl.length ≤ 1048578 := Nat.le_trans HLEN.out (Nat.succ_le_succ hL)
          have HRS := Lib.hid (rowX_start (E := kdE) (e := 72) (w := w4) (lo := w.heap.size) HW4.out.size)
          have HWA : Hid (Below w4.heap.size w4 (w4.alloc (.cells #[] 72))) := Lib.hid (belowAlloc (Below.refl _ _) _)
          have HZ4 := Lib.hid HW4.out.size
          clear HYES HNO HAD
          go_wp2_with (at_builtin; refine append_rowX rfl _ _ 30 rfl kdE w.heap.size 72 i0 _ 16 Tryz.underlying30 HII.out.1 HII.out.2.1 HII.out.2.2.1 HII.out.2.2.2 rfl (by omega) _ _ rfl HRS.out (some ⟨g4, o4, none⟩) rl.length c4 rfl L4 HN4.out (fun h => by cases h) (fun ad h j u hj => by cases h; rw [addr_add]; exact HCL.out _ HWA.out j u hj) (kd_one _) (fun _ _ _ => trivial) (by simp; omega) (by have := HZ4.out; simp; omega) ?_; intro v5 w5 hown5 hb5; have HO5 := Lib.hid hown5; have HX5 := Lib.hid hb5; clear hown5 hb5)
          go_wp2
          go_ret2
          refine ⟨_, rfl, ?_, (HW4.out.trans (HWA.out.mono HW4.out.size)).trans HX5.out⟩
          have h := HO5.out.list
          rw [List.nil_append, ← HL4.out] at h
          exact h
end Go.Proofs.YtnmdnajbafpfiaaGreat

