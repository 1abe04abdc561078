/-
  The model's l08Insert. (Written by wip/tools/gen_inst8.py.)
-/
import Derived.Test.YtjpkkhhcpcokaaaRowX
import Derived.Test.YtjpkkhhcpcokaaaInsertT
import Derived.Test.YtjpkkhhcpcokaaaEachT
import Derived.Test.YtjpkkhhcpcokaaaSpecComp
import Derived.Deep.RegionHeld3
namespace Go.Proofs.Ytjpkkhhcpcokaaa
open Go.RowKit
set_option linter.unusedVariables false
set_option linter.unusedSimpArgs false

def FromT (s : List Tm) (t : Tm) (k : Nat) : Prop := ∀ x, s[k]? = some x → ¬ x.cmp t < 0

set_option maxRecDepth 100000 in
set_option maxHeartbeats 16000000 in
theorem specIns8_any (s : List Tm) (V : Value) (t : Tm) (Vt : Value) (w : World) (h : OwnX w V s) (hb : ArgsAt w Vt t.args) (hasc : AscT s) (ht : Good t) (hsome : ∃ a n c, V = .slice (some a) n c) (hl : s.length ≤ 1048576) (hE : ∀ x ∈ s, x.sz ≤ 1048576) (hz : t.sz ≤ 1048576) :
    Calls Try.prog 79 #[V, .agg #[.int .i64 t.kind, .int .i64 t.num, .string t.name, Vt]] w fun e w' => ∃ U, e = .returned U ∧ OwnX w' U (insT s t) ∧ Below w.heap.size w w' := by
  obtain ⟨i0, hi, hz0, hz1, hz2⟩ := info_parts infoTermT
  have HII := Lib.hid (And.intro hi (And.intro hz0 (And.intro hz1 hz2)))
  obtain ⟨ta, tc, rfl⟩ := hb.slice
  have HOWN := Lib.hid h
  obtain ⟨lo, hlo, L, hL, hrow, hch⟩ := h
  have hLn : s.length = L.length := by have := congrArg List.length hL; rwa [List.length_map] at this
  rcases hrow.2 with ⟨hVn, hn⟩ | ⟨g, cap, cur, rfl, hg0, hg, h1, h2, h3, h4⟩
  · obtain ⟨a, n, c, e⟩ := hsome
    rw [hVn] at e
    cases e
  clear hsome
  have hcap : s.length ≤ cap := by omega
  have hcm : cap ≤ 9223372036854775807 := by unfold maxLen at h2; exact h2
  have hgl : g < w.heap.size := (World.ownsRow.lt hrow g rfl).2
  have hrow' : w.ownsRow lo 46 4 (.slice (some ⟨g, 0, none⟩) s.length cap) s.length (cellsE tmE L) := by have := hrow; rw [← hLn] at this; exact this
  rw [← hLn] at HOWN ⊢
  have HCELL : Hid (∀ W, Below w.heap.size w W → ∀ (j : Nat) (u : Value), (cellsE tmE L)[j]? = some u → W.cell? ⟨g, j, none⟩ = some u) := Lib.hid fun W hW j u hj => by
    have hjl := (List.getElem?_eq_some_iff.1 hj).1
    rw [show (cellsE tmE L).length = L.length * 4 from cellsE_length tmE L, ← hLn] at hjl
    refine (hW.cell (p := ⟨g, j, none⟩) hgl).trans ?_
    rw [World.ownsRow.cellAt hrow' j hjl]
    exact hj
  have HKID : Hid (∀ (j : Nat) (p : Tm × Value), L[j]? = some p → ArgsS w (fun k => k < w.heap.size) p.2 p.1.args) := Lib.hid fun j p hj => (show ArgsS w (fun b => b < lo) p.2 p.1.args from hch j p hj).sub fun k hk => Nat.lt_of_lt_of_le hk hlo
  have HEL : Hid (∀ (j : Nat) (y : Tm), s[j]? = some y → ∃ v1 v2, (∀ W, Below w.heap.size w W → W.cell? ⟨g, j * 4, none⟩ = some (.int .i64 y.kind) ∧ W.cell? ⟨g, j * 4 + 1, none⟩ = some (.int .i64 y.num) ∧ W.cell? ⟨g, j * 4 + 2, none⟩ = some (.string y.name) ∧ W.cell? ⟨g, j * 4 + 3, none⟩ = some (.slice v1 y.args.length v2)) ∧ ArgsAt w (.slice v1 y.args.length v2) y.args ∧ y.sz ≤ 1048576) := Lib.hid fun j y hj => by
    have hp : ∃ p, L[j]? = some p ∧ p.1 = y := by
      rw [hL, List.getElem?_map] at hj
      obtain ⟨p, hp, rfl⟩ := Option.map_eq_some_iff.1 hj
      exact ⟨p, hp, rfl⟩
    obtain ⟨⟨y', Vy⟩, hp, rfl⟩ := hp
    have hk := HKID.out j _ hp
    obtain ⟨v1, v2, he⟩ := hk.at.slice
    have he' : Vy = .slice v1 y'.args.length v2 := he
    subst he'
    refine ⟨v1, v2, fun W hW => ?_, hk.at, hE y' (List.mem_of_getElem? hj)⟩
    have c := fun i u hu => HCELL.out W hW (j * 4 + i) u (cellsE_at (E := tmE) hp (i := i) (v := u) hu)
    exact ⟨c 0 _ rfl, c 1 _ rfl, c 2 _ rfl, c 3 _ rfl⟩
  have HSL := Lib.hid hL
  have HLN := Lib.hid hLn
  have HBK := Lib.hid hb.inS
  have HYES : Hid (t ∈ s → insT s t = s) := Lib.hid insT_yes
  have HINS : Hid (∀ K, ¬ t ∈ s → AtT s t K → insT s t = (L.take K).map Prod.fst ++ t :: (L.drop K).map Prod.fst) := Lib.hid fun K hn hK => by
    rw [insT_no hasc ht hn hK, List.map_take, List.map_drop, ← hL]
  have HATP : Hid (∀ K, K ≤ s.length → (∀ (j : Nat) (x : Tm), K = j + 1 → s[j]? = some x → x.cmp t < 0) → FromT s t K → AtT s t K) := Lib.hid fun K h1 h2 h3 => hasc.atT ht h1 h2 h3
  have HHAS : Hid (∀ K, AtT s t K → (t ∈ s ↔ ∃ x, s[K]? = some x ∧ x.cmp t = 0)) := Lib.hid fun K hK => hasc.has ht hK
  have hal : Below w.heap.size w (w.alloc (.cells #[.int .i64 t.kind, .int .i64 t.num, .string t.name, .slice ta t.args.length tc] 46)) := belowAlloc (Below.refl _ _) _
  have HBX := Lib.hid (at_box_of w #[.int .i64 t.kind, .int .i64 t.num, .string t.name, .slice ta t.args.length tc] 46 w.heap.size rfl)
  have HW := Lib.hid hal
  generalize insT s t = r at HINS HYES ⊢
  clear hi hz0 hz1 hz2 hrow hrow' hch hL hLn hb hal hg hg0 h1 h2 h3 h4 hasc ht hE
  go_enter Try.func79, Try.ntmps79
  go_upto_region 1 with (fail)
  generalize hw1 : w.alloc (.cells #[.int .i64 t.kind, .int .i64 t.num, .string t.name, .slice ta t.args.length tc] 46) = w1 at HBX HW ⊢
  clear hw1
  obtain ⟨nb, hnb⟩ : ∃ n : Nat, n = w.heap.size := ⟨_, rfl⟩
  rw [← hnb] at HBX ⊢
  have HNB := Lib.hid hnb
  have hgb : g < nb := by omega
  clear hnb
  go_wp2
  go_loopw [5] (fun iv wr => ∃ k : Nat, k ≤ s.length ∧ iv = .int .i64 k ∧ Hid (FromT s t k) ∧ Hid (Below w1.heap.size w1 wr)) (fun iv _ => (intOf iv).toNat)
  case atStart => exact ⟨s.length, Nat.le_refl _, rfl, Lib.hid (fun x hx => by rw [List.getElem?_eq_none (Nat.le_refl _)] at hx; cases hx), Lib.hid (Below.refl _ _)⟩
  case round =>
    obtain ⟨k, hk, rfl, HSC, HB⟩ := hrel
    have HWR : Hid (Below w.heap.size w wr) := Lib.hid (belowOn HW.out (Nat.le_refl _) HB.out)
    have HBR := Lib.hid (HBX.out.read HB.out)
    have hself : Below wr.heap.size wr wr := Below.refl _ _
    have hdrew : Below wr.heap.size wr wr.drew := hself.drew
    have HTR : Hid (∀ a b, Below wr.heap.size wr a → Below a.heap.size a b → Below wr.heap.size wr b) := Lib.hid fun a b h1 h2 => belowOn h1 (Nat.le_refl _) h2
    have HCB : Hid (∀ W, Below wr.heap.size wr W → W.cell? ⟨nb, 0, none⟩ = some (.int .i64 t.kind) ∧ W.cell? ⟨nb, 1, none⟩ = some (.int .i64 t.num) ∧ W.cell? ⟨nb, 2, none⟩ = some (.string t.name) ∧ W.cell? ⟨nb, 3, none⟩ = some (.slice ta t.args.length tc)) := Lib.hid fun W hW => (HBR.out.read hW).cells
    have HEND : Hid (∀ W, Below wr.heap.size wr W → Below w1.heap.size w1 W) := Lib.hid fun W hW => belowOn HB.out (Nat.le_refl _) hW
    obtain ⟨e0, e1, e2, e3⟩ := HCB.out wr hself
    have HWW : Hid (∀ W, Below wr.heap.size wr W → Below w.heap.size w W) := Lib.hid fun W hW => belowOn HWR.out (Nat.le_refl _) hW
    go_upto_region 2 with (fail)
    by_cases hkz : k = 0
    · have g0 : decide ((0 : Int) < (k : Int)) = false := decide_eq_false (by omega)
      have g0n : decide (0 < k) = false := decide_eq_false (by omega)
      have HAT : Hid (AtT s t k) := Lib.hid (HATP.out k hk (fun j x hj _ => by omega) HSC.out)
      clear hkz
      refine wp_region_held_drew (S := (fun w' => Below wr.heap.size wr w' ∧ w'.cell? ⟨nb, 0, none⟩ = some (.int .i64 t.kind) ∧ w'.cell? ⟨nb, 1, none⟩ = some (.int .i64 t.num) ∧ w'.cell? ⟨nb, 2, none⟩ = some (.string t.name) ∧ w'.cell? ⟨nb, 3, none⟩ = some (.slice ta t.args.length tc))) (by kernel_rfl) (by (try dsimp only); go_keep) (fun hHeld => ?_)
      (refine wpAnyH_take (i := 0) (oi := ⟨_, _, _, _, _, _⟩) (v := ?_) rfl (by kernel_rfl) (by kernel_rfl) (by kernel_rfl) (fun _ _ _ h => h) (Or.inl ⟨by rfl, ?_⟩) (by assumption) ?_; rotate_left; focus ((intro w' hSw; (try dsimp only at hSw); go_simp; (try with_reducible rfl)))); (try simp only [Act.put, List.setIfInBounds_toArray, List.set_cons_zero, List.set_cons_succ])
      (refine wpAnyH_take (i := 1) (oi := ⟨_, _, _, _, _, _⟩) (v := ?_) rfl (by kernel_rfl) (by kernel_rfl) (by kernel_rfl) (fun _ _ _ h => h) (Or.inl ⟨by rfl, ?_⟩) (by assumption) ?_; rotate_left; focus ((intro w' hSw; (try dsimp only at hSw); go_simp; (try with_reducible rfl)))); (try simp only [Act.put, List.setIfInBounds_toArray, List.set_cons_zero, List.set_cons_succ])
      (refine wpAnyH_take (i := 2) (oi := ⟨_, _, _, _, _, _⟩) (v := ?_) rfl (by kernel_rfl) (by kernel_rfl) (by kernel_rfl) (fun _ _ _ h => h) (Or.inl ⟨by rfl, ?_⟩) (by assumption) ?_; rotate_left; focus ((intro w' hSw; (try dsimp only at hSw); go_simp; (try with_reducible rfl)))); (try simp only [Act.put, List.setIfInBounds_toArray, List.set_cons_zero, List.set_cons_succ])
      (refine wpAnyH_take (i := 3) (oi := ⟨_, _, _, _, _, _⟩) (v := undef) rfl (by kernel_rfl) (by kernel_rfl) (by kernel_rfl) (fun _ _ _ h => h) (Or.inr ⟨by rfl, rfl⟩) (by assumption) ?_); (try simp only [Act.put, List.setIfInBounds_toArray, List.set_cons_zero, List.set_cons_succ])
      (refine wpAnyH_take (i := 4) (oi := ⟨_, _, _, _, _, _⟩) (v := undef) rfl (by kernel_rfl) (by kernel_rfl) (by kernel_rfl) (fun _ _ _ h => h) (Or.inr ⟨by rfl, rfl⟩) (by assumption) ?_); (try simp only [Act.put, List.setIfInBounds_toArray, List.set_cons_zero, List.set_cons_succ])
      (refine wpAnyH_take (i := 5) (oi := ⟨_, _, _, _, _, _⟩) (v := undef) rfl (by kernel_rfl) (by kernel_rfl) (by kernel_rfl) (fun _ _ _ h => h) (Or.inr ⟨by rfl, rfl⟩) (by assumption) ?_); (try simp only [Act.put, List.setIfInBounds_toArray, List.set_cons_zero, List.set_cons_succ])
      (refine wpAnyH_take (i := 6) (oi := ⟨_, _, _, _, _, _⟩) (v := undef) rfl (by kernel_rfl) (by kernel_rfl) (by kernel_rfl) (fun _ _ _ h => h) (Or.inr ⟨by rfl, rfl⟩) (by assumption) ?_); (try simp only [Act.put, List.setIfInBounds_toArray, List.set_cons_zero, List.set_cons_succ])
      (refine wpAnyH_take (i := 7) (oi := ⟨_, _, _, _, _, _⟩) (v := undef) rfl (by kernel_rfl) (by kernel_rfl) (by kernel_rfl) (fun _ _ _ h => h) (Or.inr ⟨by rfl, rfl⟩) (by assumption) ?_); (try simp only [Act.put, List.setIfInBounds_toArray, List.set_cons_zero, List.set_cons_succ])
      (refine wpAnyH_take (i := 8) (oi := ⟨_, _, _, _, _, _⟩) (v := undef) rfl (by kernel_rfl) (by kernel_rfl) (by kernel_rfl) (fun _ _ _ h => h) (Or.inr ⟨by rfl, rfl⟩) (by assumption) ?_); (try simp only [Act.put, List.setIfInBounds_toArray, List.set_cons_zero, List.set_cons_succ])
      (refine wpAnyH_take (i := 9) (oi := ⟨_, _, _, _, _, _⟩) (v := undef) rfl (by kernel_rfl) (by kernel_rfl) (by kernel_rfl) (fun _ _ _ h => h) (Or.inr ⟨by rfl, rfl⟩) (by assumption) ?_); (try simp only [Act.put, List.setIfInBounds_toArray, List.set_cons_zero, List.set_cons_succ])
      (refine wpAnyH_take (i := 10) (oi := ⟨_, _, _, _, _, _⟩) (v := undef) rfl (by kernel_rfl) (by kernel_rfl) (by kernel_rfl) (fun _ _ _ h => h) (Or.inr ⟨by rfl, rfl⟩) (by assumption) ?_); (try simp only [Act.put, List.setIfInBounds_toArray, List.set_cons_zero, List.set_cons_succ])
      (refine wpAnyH_take (i := 11) (oi := ⟨_, _, _, _, _, _⟩) (v := ?_) rfl (by kernel_rfl) (by kernel_rfl) (by kernel_rfl) (fun _ _ _ h => h) (Or.inl ⟨by rfl, ?_⟩) (by assumption) ?_; rotate_left; focus ((intro w' hSw; (try dsimp only at hSw); go_simp; (try with_reducible rfl)))); (try simp only [Act.put, List.setIfInBounds_toArray, List.set_cons_zero, List.set_cons_succ])
      refine wpAnyH_done (by kernel_rfl) ?_ _
      have HWR2 : Hid (Below w.heap.size w wr.drew) := Lib.hid (HWW.out _ hdrew)
      have HBR2 := Lib.hid (HBR.out.read hdrew)
      clear HSC HB HWR HBR HTR HCB HEND e0 e1 e2 e3 HW HBX HWW hself hdrew hHeld g0 g0n
      go_upto_region 4 with (fail)
      generalize wr.drew = wr at HWR2 HBR2 ⊢
      have HWQ := HWR2
      have HBQ := HBR2
      have hself : Below wr.heap.size wr wr := Below.refl _ _
      have hdrew : Below wr.heap.size wr wr.drew := hself.drew
      have HTR : Hid (∀ a b, Below wr.heap.size wr a → Below a.heap.size a b → Below wr.heap.size wr b) := Lib.hid fun a b h1 h2 => belowOn h1 (Nat.le_refl _) h2
      have HCB : Hid (∀ W, Below wr.heap.size wr W → W.cell? ⟨nb, 0, none⟩ = some (.int .i64 t.kind) ∧ W.cell? ⟨nb, 1, none⟩ = some (.int .i64 t.num) ∧ W.cell? ⟨nb, 2, none⟩ = some (.string t.name) ∧ W.cell? ⟨nb, 3, none⟩ = some (.slice ta t.args.length tc)) := Lib.hid fun W hW => (HBR2.out.read hW).cells
      have HWW : Hid (∀ W, Below wr.heap.size wr W → Below w.heap.size w W) := Lib.hid fun W hW => belowOn HWR2.out (Nat.le_refl _) hW
      obtain ⟨e0, e1, e2, e3⟩ := HCB.out wr hself
      clear HWR2 HBR2
      by_cases hks : k = s.length
      · have HKS := Lib.hid hks
        have g2 : decide ((k : Int) < (s.length : Int)) = false := decide_eq_false (by omega)
        have g2n : decide (k < s.length) = false := decide_eq_false (by omega)
        have HNM : Hid (¬ t ∈ s) := Lib.hid fun hm => by
          obtain ⟨x, hx, _⟩ := (HHAS.out k HAT.out).1 hm
          rw [List.getElem?_eq_none (by have := HKS.out; omega)] at hx
          cases hx
        clear hks
        refine wp_region_held_drew (S := (fun w' => Below wr.heap.size wr w' ∧ w'.cell? ⟨nb, 0, none⟩ = some (.int .i64 t.kind) ∧ w'.cell? ⟨nb, 1, none⟩ = some (.int .i64 t.num) ∧ w'.cell? ⟨nb, 2, none⟩ = some (.string t.name) ∧ w'.cell? ⟨nb, 3, none⟩ = some (.slice ta t.args.length tc))) (by kernel_rfl) (by (try dsimp only); go_keep) (fun hHeld => ?_)
        (refine wpAnyH_take (i := 0) (oi := ⟨_, _, _, _, _, _⟩) (v := ?_) rfl (by kernel_rfl) (by kernel_rfl) (by kernel_rfl) (fun _ _ _ h => h) (Or.inl ⟨by rfl, ?_⟩) (by assumption) ?_; rotate_left; focus ((intro w' hSw; (try dsimp only at hSw); go_simp; (try with_reducible rfl)))); (try simp only [Act.put, List.setIfInBounds_toArray, List.set_cons_zero, List.set_cons_succ])
        (refine wpAnyH_take (i := 1) (oi := ⟨_, _, _, _, _, _⟩) (v := ?_) rfl (by kernel_rfl) (by kernel_rfl) (by kernel_rfl) (fun _ _ _ h => h) (Or.inl ⟨by rfl, ?_⟩) (by assumption) ?_; rotate_left; focus ((intro w' hSw; (try dsimp only at hSw); go_simp; (try with_reducible rfl)))); (try simp only [Act.put, List.setIfInBounds_toArray, List.set_cons_zero, List.set_cons_succ])
        (refine wpAnyH_take (i := 2) (oi := ⟨_, _, _, _, _, _⟩) (v := ?_) rfl (by kernel_rfl) (by kernel_rfl) (by kernel_rfl) (fun _ _ _ h => h) (Or.inl ⟨by rfl, ?_⟩) (by assumption) ?_; rotate_left; focus ((intro w' hSw; (try dsimp only at hSw); go_simp; (try with_reducible rfl)))); (try simp only [Act.put, List.setIfInBounds_toArray, List.set_cons_zero, List.set_cons_succ])
        (refine wpAnyH_take (i := 3) (oi := ⟨_, _, _, _, _, _⟩) (v := ?_) rfl (by kernel_rfl) (by kernel_rfl) (by kernel_rfl) (fun _ _ _ h => h) (Or.inl ⟨by rfl, ?_⟩) (by assumption) ?_; rotate_left; focus ((intro w' hSw; (try dsimp only at hSw); go_simp; (try with_reducible rfl)))); (try simp only [Act.put, List.setIfInBounds_toArray, List.set_cons_zero, List.set_cons_succ])
        (refine wpAnyH_take (i := 4) (oi := ⟨_, _, _, _, _, _⟩) (v := ?_) rfl (by kernel_rfl) (by kernel_rfl) (by kernel_rfl) (fun _ _ _ h => h) (Or.inl ⟨by rfl, ?_⟩) (by assumption) ?_; rotate_left; focus ((intro w' hSw; (try dsimp only at hSw); go_simp; (try with_reducible rfl)))); (try simp only [Act.put, List.setIfInBounds_toArray, List.set_cons_zero, List.set_cons_succ])
        (refine wpAnyH_take (i := 5) (oi := ⟨_, _, _, _, _, _⟩) (v := undef) rfl (by kernel_rfl) (by kernel_rfl) (by kernel_rfl) (fun _ _ _ h => h) (Or.inr ⟨by rfl, rfl⟩) (by assumption) ?_); (try simp only [Act.put, List.setIfInBounds_toArray, List.set_cons_zero, List.set_cons_succ])
        (refine wpAnyH_take (i := 6) (oi := ⟨_, _, _, _, _, _⟩) (v := undef) rfl (by kernel_rfl) (by kernel_rfl) (by kernel_rfl) (fun _ _ _ h => h) (Or.inr ⟨by rfl, rfl⟩) (by assumption) ?_); (try simp only [Act.put, List.setIfInBounds_toArray, List.set_cons_zero, List.set_cons_succ])
        (refine wpAnyH_take (i := 7) (oi := ⟨_, _, _, _, _, _⟩) (v := undef) rfl (by kernel_rfl) (by kernel_rfl) (by kernel_rfl) (fun _ _ _ h => h) (Or.inr ⟨by rfl, rfl⟩) (by assumption) ?_); (try simp only [Act.put, List.setIfInBounds_toArray, List.set_cons_zero, List.set_cons_succ])
        (refine wpAnyH_take (i := 8) (oi := ⟨_, _, _, _, _, _⟩) (v := undef) rfl (by kernel_rfl) (by kernel_rfl) (by kernel_rfl) (fun _ _ _ h => h) (Or.inr ⟨by rfl, rfl⟩) (by assumption) ?_); (try simp only [Act.put, List.setIfInBounds_toArray, List.set_cons_zero, List.set_cons_succ])
        (refine wpAnyH_take (i := 9) (oi := ⟨_, _, _, _, _, _⟩) (v := undef) rfl (by kernel_rfl) (by kernel_rfl) (by kernel_rfl) (fun _ _ _ h => h) (Or.inr ⟨by rfl, rfl⟩) (by assumption) ?_); (try simp only [Act.put, List.setIfInBounds_toArray, List.set_cons_zero, List.set_cons_succ])
        (refine wpAnyH_take (i := 10) (oi := ⟨_, _, _, _, _, _⟩) (v := undef) rfl (by kernel_rfl) (by kernel_rfl) (by kernel_rfl) (fun _ _ _ h => h) (Or.inr ⟨by rfl, rfl⟩) (by assumption) ?_); (try simp only [Act.put, List.setIfInBounds_toArray, List.set_cons_zero, List.set_cons_succ])
        (refine wpAnyH_take (i := 11) (oi := ⟨_, _, _, _, _, _⟩) (v := ?_) rfl (by kernel_rfl) (by kernel_rfl) (by kernel_rfl) (fun _ _ _ h => h) (Or.inl ⟨by rfl, ?_⟩) (by assumption) ?_; rotate_left; focus ((intro w' hSw; (try dsimp only at hSw); go_simp; (try with_reducible rfl)))); (try simp only [Act.put, List.setIfInBounds_toArray, List.set_cons_zero, List.set_cons_succ])
        refine wpAnyH_done (by kernel_rfl) ?_ _
        replace HWQ := Lib.hid HWQ.out.drew
        replace HBQ := Lib.hid (HBQ.out.read hdrew)
        clear hself hdrew HTR HCB e0 e1 e2 e3 hHeld g2 g2n HWW
        go_upto_region 6 with (fail)
        generalize wr.drew = wq at HWQ HBQ ⊢
        have HRES := Lib.hid (HINS.out k HNM.out HAT.out)
        have HLK : Hid (L.length = s.length) := Lib.hid HLN.out.symm
        have hz1 : w.heap.size + 1 ≤ wq.heap.size := by have := HBQ.out.le; have := HNB.out; omega
        have HRS := Lib.hid (rowX_start (E := tmE) (e := 46) (w := wq) (lo := w.heap.size + 1) hz1)
        have HWA : Hid (Below w.heap.size w (wq.alloc (.cells #[] 46))) := Lib.hid (HWQ.out.alloc (by omega) _)
        have HBA := Lib.hid (HBQ.out.read (belowAlloc (Below.refl _ _) (.cells #[] 46)))
        have HONE : Hid (∀ (M : List (Tm × Value)), (∀ p ∈ M, p ∈ L) → ∀ u ∈ cellsE tmE M, u.oneCell' = true) := Lib.hid fun M hM => tm_one (w := w) (Z := fun k => k < w.heap.size) fun j p hj => by
          obtain ⟨i, hi⟩ := List.getElem?_of_mem (hM p (List.mem_of_getElem? hj))
          exact HKID.out i p hi
        have HKM : Hid (∀ (W : World), Below w.heap.size w W → ∀ (M : List (Tm × Value)), (∀ p ∈ M, p ∈ L) → ∀ (j : Nat) (p : Tm × Value), M[j]? = some p → tmE.kid W (fun b => b < w.heap.size + 1) p.2 p.1) := Lib.hid fun W hW M hM j p hj => by
          obtain ⟨i, hi⟩ := List.getElem?_of_mem (hM p (List.mem_of_getElem? hj))
          exact ((HKID.out i p hi).frame hW.size fun k hk _ => hW.block k hk).sub fun k hk => Nat.lt_succ_of_lt hk
        have HTC : Hid (∀ (W : World), Below w.heap.size w W → ∀ (j : Nat) (u : Value), (cellsE tmE (L.take k))[j]? = some u → W.cell? ((⟨g, 0, none⟩ : Addr).add j) = some u) := Lib.hid fun W hW j u hj => by
          rw [addr_add, Nat.zero_add]
          refine HCELL.out W hW j u ?_
          rw [← List.take_append_drop k L, cellsE_append, List.getElem?_append_left (List.getElem?_eq_some_iff.1 hj).1]
          exact hj
        have HDC : Hid (∀ (W : World), Below w.heap.size w W → ∀ (j : Nat) (u : Value), (cellsE tmE (L.drop k))[j]? = some u → W.cell? ((⟨g, k * 4, none⟩ : Addr).add j) = some u) := Lib.hid fun W hW j u hj => by
          rw [addr_add]
          refine HCELL.out W hW _ u ?_
          have hlk : (cellsE tmE (L.take k)).length = k * 4 := by rw [cellsE_length, List.length_take, show min k L.length = k from by have := HLK.out; omega]; rfl
          rw [← List.take_append_drop k L, cellsE_append, List.getElem?_append_right (by rw [hlk]; omega), hlk, Nat.add_sub_cancel_left]
          exact hj
        have HEND2 : Hid (∀ v W, RowX tmE 46 W (w.heap.size + 1) v ((([] ++ (L.take k).map Prod.fst) ++ [(t, Value.slice ta t.args.length tc)].map Prod.fst) ++ (L.drop k).map Prod.fst) → RowX tmE 46 W (w.heap.size + 1) v r) := Lib.hid fun v W h => by
          rw [HRES.out]
          have e : (L.take k).map Prod.fst ++ t :: (L.drop k).map Prod.fst = (([] ++ (L.take k).map Prod.fst) ++ [(t, Value.slice ta t.args.length tc)].map Prod.fst) ++ (L.drop k).map Prod.fst := by simp
          rw [e]; exact h
        have hKI : (k : Int) ≤ (s.length : Int) := by omega
        have hKC : (k : Int) ≤ (cap : Int) := by omega
        have hK0 : (0 : Int) ≤ (k : Int) := by omega
        have hcI : (0 : Int) ≤ (cap : Int) := by omega
        have HZQ := Lib.hid hz1
        clear hz1 HINS HRES HATP HHAS HEL HYES HOWN
        go_upto_region 7 with (at_builtin; refine append_rowX rfl _ _ 35 rfl tmE (w.heap.size + 1) 46 i0 _ 56 Try.underlying35 HII.out.1 HII.out.2.1 HII.out.2.2.1 HII.out.2.2.2 rfl (by omega) _ _ rfl HRS.out (some ⟨g, 0, none⟩) k cap rfl (L.take k) (by have := HLK.out; rw [List.length_take]; omega) (fun h => by cases h) (fun ad h j u hj => by cases h; exact HTC.out _ HWA.out j u hj) (HONE.out _ fun p hp => List.mem_of_mem_take hp) (HKM.out _ HWA.out _ fun p hp => List.mem_of_mem_take hp) (by simp; omega) (by have := HZQ.out; simp at this ⊢; omega) ?_; intro v21 w21 hown21 hb21; have HO21 := Lib.hid hown21; have HX21 := Lib.hid hb21; clear hown21 hb21)
        have HW21 : Hid (Below w.heap.size w w21) := Lib.hid (HWA.out.trans (HX21.out.mono (Nat.le_succ _)))
        have HB21 := Lib.hid (HBA.out.of_below HX21.out (by have := HNB.out; omega))
        obtain ⟨q0, q1, q2, q3⟩ := HB21.out.cells
        have HR21 := Lib.hid (HO21.out.kept (belowAlloc (Below.refl _ _) (.cells #[.int .i64 t.kind, .int .i64 t.num, .string t.name, .slice ta t.args.length tc] 46)))
        have HWB : Hid (Below w.heap.size w (w21.alloc (.cells #[.int .i64 t.kind, .int .i64 t.num, .string t.name, .slice ta t.args.length tc] 46))) := Lib.hid (HW21.out.alloc HW21.out.size _)
        have HBB := Lib.hid (HB21.out.read (belowAlloc (Below.refl _ _) (.cells #[.int .i64 t.kind, .int .i64 t.num, .string t.name, .slice ta t.args.length tc] 46)))
        have HL21 : Hid (([] ++ (L.take k).map Prod.fst : List Tm).length ≤ 1048576) := Lib.hid (by rw [List.nil_append, List.length_map, List.length_take]; omega)
        have HZ21 : Hid (w.heap.size + 1 ≤ w21.heap.size) := Lib.hid (by have := HZQ.out; have := HX21.out.size; simp at this; omega)
        clear HRS HX21 HWA HBA HTC
        go_upto_region 8 with (at_builtin; refine append_rowX rfl _ _ 35 rfl tmE (w.heap.size + 1) 46 i0 _ 56 Try.underlying35 HII.out.1 HII.out.2.1 HII.out.2.2.1 HII.out.2.2.2 rfl (by omega) v21 _ rfl HR21.out (some ⟨w21.heap.size, 0, none⟩) 1 1 rfl [(t, Value.slice ta t.args.length tc)] rfl (fun h => by cases h) (fun ad h j u hj => by cases h; rw [cellsE_one] at hj; exact World.news_of_block (heap_alloc_new w21 _) j u hj) (tm_one (w := w) (Z := fun k => k < w.heap.size) fun j p hj => by (match j, hj with | 0, hj => (simp at hj; subst hj; exact HBK.out))) (fun j p hj => by (match j, hj with | 0, hj => (simp at hj; subst hj; exact (HBK.out.frame HWB.out.size fun k hk _ => HWB.out.block k hk).sub fun k hk => Nat.lt_succ_of_lt hk))) (by have := HL21.out; omega) (by have := HZ21.out; simp; omega) ?_; intro v22 w22 hown22 hb22; have HO22 := Lib.hid hown22; have HX22 := Lib.hid hb22; clear hown22 hb22)
        have HW22 : Hid (Below w.heap.size w w22) := Lib.hid (HWB.out.trans (HX22.out.mono (Nat.le_succ _)))
        have HL22 : Hid ((([] ++ (L.take k).map Prod.fst) ++ [(t, Value.slice ta t.args.length tc)].map Prod.fst : List Tm).length ≤ 1048577) := Lib.hid (by have := HL21.out; rw [List.length_append]; exact Nat.succ_le_succ this)
        have HZ22 : Hid (w.heap.size + 1 ≤ w22.heap.size) := Lib.hid (by have := HZ21.out; have := HX22.out.size; simp at this; omega)
        clear HR21 HX22 HWB HBB q0 q1 q2 q3
        by_cases hck : cap = k
        · subst hck
          go_wp2_with (at_builtin; refine append_rowX rfl _ _ 35 rfl tmE (w.heap.size + 1) 46 i0 _ 56 Try.underlying35 HII.out.1 HII.out.2.1 HII.out.2.2.1 HII.out.2.2.2 rfl (by omega) v22 _ rfl HO22.out _ _ _ rfl (L.drop cap) (by have := HLK.out; rw [List.length_drop]; omega) (fun h => by cases h) (fun ad h j u hj => by rw [List.drop_of_length_le (by have h1 := HLK.out; have h2 := HKS.out; omega)] at hj; simp [cellsE] at hj) (HONE.out _ fun p hp => List.mem_of_mem_drop hp) (HKM.out _ HW22.out _ fun p hp => List.mem_of_mem_drop hp) (by have h1 := HL22.out; omega) HZ22.out ?_; intro v23 w23 hown23 hb23; have HO23 := Lib.hid hown23; have HX23 := Lib.hid hb23; clear hown23 hb23)
          go_wp2
          go_ret
          exact ⟨_, rfl, ⟨w.heap.size + 1, Nat.le_trans HZ22.out HX23.out.size, HEND2.out _ _ HO23.out⟩, HW22.out.trans (HX23.out.mono (Nat.le_succ _))⟩
        · have hck2 : ¬ k = cap := fun e => hck e.symm
          have hck3 : ¬ (k : Int) = (cap : Int) := by omega
          go_wp2_with (at_builtin; refine append_rowX rfl _ _ 35 rfl tmE (w.heap.size + 1) 46 i0 _ 56 Try.underlying35 HII.out.1 HII.out.2.1 HII.out.2.2.1 HII.out.2.2.2 rfl (by omega) v22 _ rfl HO22.out _ _ _ rfl (L.drop k) (by have := HLK.out; rw [List.length_drop]; omega) (fun h => by cases h) (fun ad h j u hj => by cases h; exact HDC.out _ HW22.out j u hj) (HONE.out _ fun p hp => List.mem_of_mem_drop hp) (HKM.out _ HW22.out _ fun p hp => List.mem_of_mem_drop hp) (by have h1 := HL22.out; omega) HZ22.out ?_; intro v23 w23 hown23 hb23; have HO23 := Lib.hid hown23; have HX23 := Lib.hid hb23; clear hown23 hb23)
          go_wp2
          go_ret
          exact ⟨_, rfl, ⟨w.heap.size + 1, Nat.le_trans HZ22.out HX23.out.size, HEND2.out _ _ HO23.out⟩, HW22.out.trans (HX23.out.mono (Nat.le_succ _))⟩
      · have hks2 : k < s.length := by omega
        clear hks
        have g2 : decide ((k : Int) < (s.length : Int)) = true := decide_eq_true (by omega)
        have g2n : decide (k < s.length) = true := decide_eq_true (by omega)
        have m3 : (k : Int) < (s.length : Int) := by omega
        have m4 : (0 : Int) ≤ (k : Int) := by omega
        obtain ⟨y, hy⟩ : ∃ y, s[k]? = some y := ⟨_, List.getElem?_eq_getElem hks2⟩
        obtain ⟨v1, v2, hyc, hya, hyz⟩ := HEL.out k y hy
        have HCY : Hid (∀ W, Below wr.heap.size wr W → W.cell? ⟨g, k * 4, none⟩ = some (.int .i64 y.kind) ∧ W.cell? ⟨g, k * 4 + 1, none⟩ = some (.int .i64 y.num) ∧ W.cell? ⟨g, k * 4 + 2, none⟩ = some (.string y.name) ∧ W.cell? ⟨g, k * 4 + 3, none⟩ = some (.slice v1 y.args.length v2)) := Lib.hid fun W hW => hyc W (HWW.out W hW)
        have HC1 : Hid (∀ W, Below wr.heap.size wr W → Calls Try.prog 92 #[.agg #[.int .i64 y.kind, .int .i64 y.num, .string y.name, .slice v1 y.args.length v2], .agg #[.int .i64 t.kind, .int .i64 t.num, .string t.name, .slice ta t.args.length tc]] W fun e w' => e = .returned (.bool (y.cmp t == 0)) ∧ Below W.heap.size W w') := Lib.hid fun W hW => specSame_any y t _ _ W (hya.kept (HWW.out W hW)) (HBK.out.at.kept (HWW.out W hW)) hyz hz
        have HSM : Hid (t ∈ s ↔ y.cmp t = 0) := Lib.hid ((HHAS.out k HAT.out).trans ⟨fun ⟨x, hx, h⟩ => (by cases hx.symm.trans hy; exact h), fun h => ⟨y, hy, h⟩⟩)
        obtain ⟨c0, c1, c2, c3⟩ := HCY.out wr hself
        obtain ⟨q, hq⟩ : ∃ q, (y.cmp t == 0) = q := ⟨_, rfl⟩
        rw [hq] at HC1
        have HQ := Lib.hid hq
        clear hy hyc hya hyz hq
        cases q with
        | true =>
          refine wp_region_held_drew (S := (fun w' => Below wr.heap.size wr w' ∧ w'.cell? ⟨nb, 0, none⟩ = some (.int .i64 t.kind) ∧ w'.cell? ⟨nb, 1, none⟩ = some (.int .i64 t.num) ∧ w'.cell? ⟨nb, 2, none⟩ = some (.string t.name) ∧ w'.cell? ⟨nb, 3, none⟩ = some (.slice ta t.args.length tc) ∧ w'.cell? ⟨g, k * 4, none⟩ = some (.int .i64 y.kind) ∧ w'.cell? ⟨g, k * 4 + 1, none⟩ = some (.int .i64 y.num) ∧ w'.cell? ⟨g, k * 4 + 2, none⟩ = some (.string y.name) ∧ w'.cell? ⟨g, k * 4 + 3, none⟩ = some (.slice v1 y.args.length v2))) (by kernel_rfl) (by (try dsimp only); go_keep) (fun hHeld => ?_)
          (refine wpAnyH_take (i := 0) (oi := ⟨_, _, _, _, _, _⟩) (v := ?_) rfl (by kernel_rfl) (by kernel_rfl) (by kernel_rfl) (fun _ _ _ h => h) (Or.inl ⟨by rfl, ?_⟩) (by assumption) ?_; rotate_left; focus ((intro w' hSw; (try dsimp only at hSw); go_simp; (try with_reducible rfl)))); (try simp only [Act.put, List.setIfInBounds_toArray, List.set_cons_zero, List.set_cons_succ])
          (refine wpAnyH_take (i := 1) (oi := ⟨_, _, _, _, _, _⟩) (v := ?_) rfl (by kernel_rfl) (by kernel_rfl) (by kernel_rfl) (fun _ _ _ h => h) (Or.inl ⟨by rfl, ?_⟩) (by assumption) ?_; rotate_left; focus ((intro w' hSw; (try dsimp only at hSw); go_simp; (try with_reducible rfl)))); (try simp only [Act.put, List.setIfInBounds_toArray, List.set_cons_zero, List.set_cons_succ])
          (refine wpAnyH_take (i := 2) (oi := ⟨_, _, _, _, _, _⟩) (v := ?_) rfl (by kernel_rfl) (by kernel_rfl) (by kernel_rfl) (fun _ _ _ h => h) (Or.inl ⟨by rfl, ?_⟩) (by assumption) ?_; rotate_left; focus ((intro w' hSw; (try dsimp only at hSw); go_simp; (try with_reducible rfl)))); (try simp only [Act.put, List.setIfInBounds_toArray, List.set_cons_zero, List.set_cons_succ])
          (refine wpAnyH_take (i := 3) (oi := ⟨_, _, _, _, _, _⟩) (v := ?_) rfl (by kernel_rfl) (by kernel_rfl) (by kernel_rfl) (fun _ _ _ h => h) (Or.inl ⟨by rfl, ?_⟩) (by assumption) ?_; rotate_left; focus ((intro w' hSw; (try dsimp only at hSw); go_simp; (try with_reducible rfl)))); (try simp only [Act.put, List.setIfInBounds_toArray, List.set_cons_zero, List.set_cons_succ])
          (refine wpAnyH_take (i := 4) (oi := ⟨_, _, _, _, _, _⟩) (v := ?_) rfl (by kernel_rfl) (by kernel_rfl) (by kernel_rfl) (fun _ _ _ h => h) (Or.inl ⟨by rfl, ?_⟩) (by assumption) ?_; rotate_left; focus ((intro w' hSw; (try dsimp only at hSw); go_simp; (try with_reducible rfl)))); (try simp only [Act.put, List.setIfInBounds_toArray, List.set_cons_zero, List.set_cons_succ])
          (refine wpAnyH_take (i := 5) (oi := ⟨_, _, _, _, _, _⟩) (v := ?_) rfl (by kernel_rfl) (by kernel_rfl) (by kernel_rfl) (fun _ _ _ h => h) (Or.inl ⟨by rfl, ?_⟩) (by assumption) ?_; rotate_left; focus ((intro w' hSw; (try dsimp only at hSw); go_simp; (try with_reducible rfl)))); (try simp only [Act.put, List.setIfInBounds_toArray, List.set_cons_zero, List.set_cons_succ])
          (refine wpAnyH_take (i := 6) (oi := ⟨_, _, _, _, _, _⟩) (v := ?_) rfl (by kernel_rfl) (by kernel_rfl) (by kernel_rfl) (fun _ _ _ h => h) (Or.inl ⟨by rfl, ?_⟩) (by assumption) ?_; rotate_left; focus ((intro w' hSw; (try dsimp only at hSw); go_simp; (try with_reducible rfl)))); (try simp only [Act.put, List.setIfInBounds_toArray, List.set_cons_zero, List.set_cons_succ])
          (refine wpAnyH_take (i := 7) (oi := ⟨_, _, _, _, _, _⟩) (v := ?_) rfl (by kernel_rfl) (by kernel_rfl) (by kernel_rfl) (fun _ _ _ h => h) (Or.inl ⟨by rfl, ?_⟩) (by assumption) ?_; rotate_left; focus ((intro w' hSw; (try dsimp only at hSw); go_simp; (try with_reducible rfl)))); (try simp only [Act.put, List.setIfInBounds_toArray, List.set_cons_zero, List.set_cons_succ])
          (refine wpAnyH_take (i := 8) (oi := ⟨_, _, _, _, _, _⟩) (v := ?_) rfl (by kernel_rfl) (by kernel_rfl) (by kernel_rfl) (fun _ _ _ h => h) (Or.inl ⟨by rfl, ?_⟩) (by assumption) ?_; rotate_left; focus ((intro w' hSw; (try dsimp only at hSw); go_simp; (try with_reducible rfl)))); (try simp only [Act.put, List.setIfInBounds_toArray, List.set_cons_zero, List.set_cons_succ])
          (refine wpAnyH_take (i := 9) (oi := ⟨_, _, _, _, _, _⟩) (v := ?_) rfl (by kernel_rfl) (by kernel_rfl) (by kernel_rfl) (fun _ _ _ h => h) (Or.inl ⟨by rfl, ?_⟩) (by assumption) ?_; rotate_left; focus ((intro w' hSw; (try dsimp only at hSw); go_simp; (try with_reducible rfl)))); (try simp only [Act.put, List.setIfInBounds_toArray, List.set_cons_zero, List.set_cons_succ])
          refine wpAnyH_ready (rs := [10]) (by kernel_rfl) (by simp) ?_
          refine AllReadyH.cons (o := ⟨_, _, _, _, _, _⟩) rfl (fun K hK => ?_) AllReadyH.nil
          go_simp
          (first | (go_at_call 92; (with_reducible refine Calls.mono (HC1.out _ ?_) ?_); (assumption); rintro e wq ⟨rfl, hb⟩; have hB' := HTR.out _ _ (by assumption) hb; obtain ⟨k0, k1, k2, k3⟩ := HCB.out _ hB'; obtain ⟨c0, c1, c2, c3⟩ := HCY.out _ hB'))
          (try go_wp2_with fail)
          refine hK.out _ _ (by (try dsimp only); (first | go_keep | (refine ⟨by assumption, ?_⟩; go_keep))) (fun hHeld => ?_)
          clear hK K
          (try simp only [Act.put, List.setIfInBounds_toArray, List.set_cons_zero, List.set_cons_succ])
          (refine wpAnyH_take (i := 11) (oi := ⟨_, _, _, _, _, _⟩) (v := ?_) rfl (by kernel_rfl) (by kernel_rfl) (by kernel_rfl) (fun _ _ _ h => h) (Or.inl ⟨by rfl, ?_⟩) (by assumption) ?_; rotate_left; focus ((intro w' hSw; (try dsimp only at hSw); go_simp; (try with_reducible rfl)))); (try simp only [Act.put, List.setIfInBounds_toArray, List.set_cons_zero, List.set_cons_succ])
          refine wpAnyH_done (by kernel_rfl) ?_ _
          have HF : Hid (OwnX wq (.slice (some ⟨g, 0, none⟩) s.length cap) r ∧ Below w.heap.size w wq) := Lib.hid (by
            have hw := HWW.out wq (by assumption)
            rw [HYES.out (HSM.out.2 (by simpa using HQ.out))]
            exact ⟨HOWN.out.kept hw, hw⟩)
          go_wp2
          go_ret
          exact ⟨_, rfl, HF.out⟩
        | false =>
          refine wp_region_held_drew (S := (fun w' => Below wr.heap.size wr w' ∧ w'.cell? ⟨nb, 0, none⟩ = some (.int .i64 t.kind) ∧ w'.cell? ⟨nb, 1, none⟩ = some (.int .i64 t.num) ∧ w'.cell? ⟨nb, 2, none⟩ = some (.string t.name) ∧ w'.cell? ⟨nb, 3, none⟩ = some (.slice ta t.args.length tc) ∧ w'.cell? ⟨g, k * 4, none⟩ = some (.int .i64 y.kind) ∧ w'.cell? ⟨g, k * 4 + 1, none⟩ = some (.int .i64 y.num) ∧ w'.cell? ⟨g, k * 4 + 2, none⟩ = some (.string y.name) ∧ w'.cell? ⟨g, k * 4 + 3, none⟩ = some (.slice v1 y.args.length v2))) (by kernel_rfl) (by (try dsimp only); go_keep) (fun hHeld => ?_)
          (refine wpAnyH_take (i := 0) (oi := ⟨_, _, _, _, _, _⟩) (v := ?_) rfl (by kernel_rfl) (by kernel_rfl) (by kernel_rfl) (fun _ _ _ h => h) (Or.inl ⟨by rfl, ?_⟩) (by assumption) ?_; rotate_left; focus ((intro w' hSw; (try dsimp only at hSw); go_simp; (try with_reducible rfl)))); (try simp only [Act.put, List.setIfInBounds_toArray, List.set_cons_zero, List.set_cons_succ])
          (refine wpAnyH_take (i := 1) (oi := ⟨_, _, _, _, _, _⟩) (v := ?_) rfl (by kernel_rfl) (by kernel_rfl) (by kernel_rfl) (fun _ _ _ h => h) (Or.inl ⟨by rfl, ?_⟩) (by assumption) ?_; rotate_left; focus ((intro w' hSw; (try dsimp only at hSw); go_simp; (try with_reducible rfl)))); (try simp only [Act.put, List.setIfInBounds_toArray, List.set_cons_zero, List.set_cons_succ])
          (refine wpAnyH_take (i := 2) (oi := ⟨_, _, _, _, _, _⟩) (v := ?_) rfl (by kernel_rfl) (by kernel_rfl) (by kernel_rfl) (fun _ _ _ h => h) (Or.inl ⟨by rfl, ?_⟩) (by assumption) ?_; rotate_left; focus ((intro w' hSw; (try dsimp only at hSw); go_simp; (try with_reducible rfl)))); (try simp only [Act.put, List.setIfInBounds_toArray, List.set_cons_zero, List.set_cons_succ])
          (refine wpAnyH_take (i := 3) (oi := ⟨_, _, _, _, _, _⟩) (v := ?_) rfl (by kernel_rfl) (by kernel_rfl) (by kernel_rfl) (fun _ _ _ h => h) (Or.inl ⟨by rfl, ?_⟩) (by assumption) ?_; rotate_left; focus ((intro w' hSw; (try dsimp only at hSw); go_simp; (try with_reducible rfl)))); (try simp only [Act.put, List.setIfInBounds_toArray, List.set_cons_zero, List.set_cons_succ])
          (refine wpAnyH_take (i := 4) (oi := ⟨_, _, _, _, _, _⟩) (v := ?_) rfl (by kernel_rfl) (by kernel_rfl) (by kernel_rfl) (fun _ _ _ h => h) (Or.inl ⟨by rfl, ?_⟩) (by assumption) ?_; rotate_left; focus ((intro w' hSw; (try dsimp only at hSw); go_simp; (try with_reducible rfl)))); (try simp only [Act.put, List.setIfInBounds_toArray, List.set_cons_zero, List.set_cons_succ])
          (refine wpAnyH_take (i := 5) (oi := ⟨_, _, _, _, _, _⟩) (v := ?_) rfl (by kernel_rfl) (by kernel_rfl) (by kernel_rfl) (fun _ _ _ h => h) (Or.inl ⟨by rfl, ?_⟩) (by assumption) ?_; rotate_left; focus ((intro w' hSw; (try dsimp only at hSw); go_simp; (try with_reducible rfl)))); (try simp only [Act.put, List.setIfInBounds_toArray, List.set_cons_zero, List.set_cons_succ])
          (refine wpAnyH_take (i := 6) (oi := ⟨_, _, _, _, _, _⟩) (v := ?_) rfl (by kernel_rfl) (by kernel_rfl) (by kernel_rfl) (fun _ _ _ h => h) (Or.inl ⟨by rfl, ?_⟩) (by assumption) ?_; rotate_left; focus ((intro w' hSw; (try dsimp only at hSw); go_simp; (try with_reducible rfl)))); (try simp only [Act.put, List.setIfInBounds_toArray, List.set_cons_zero, List.set_cons_succ])
          (refine wpAnyH_take (i := 7) (oi := ⟨_, _, _, _, _, _⟩) (v := ?_) rfl (by kernel_rfl) (by kernel_rfl) (by kernel_rfl) (fun _ _ _ h => h) (Or.inl ⟨by rfl, ?_⟩) (by assumption) ?_; rotate_left; focus ((intro w' hSw; (try dsimp only at hSw); go_simp; (try with_reducible rfl)))); (try simp only [Act.put, List.setIfInBounds_toArray, List.set_cons_zero, List.set_cons_succ])
          (refine wpAnyH_take (i := 8) (oi := ⟨_, _, _, _, _, _⟩) (v := ?_) rfl (by kernel_rfl) (by kernel_rfl) (by kernel_rfl) (fun _ _ _ h => h) (Or.inl ⟨by rfl, ?_⟩) (by assumption) ?_; rotate_left; focus ((intro w' hSw; (try dsimp only at hSw); go_simp; (try with_reducible rfl)))); (try simp only [Act.put, List.setIfInBounds_toArray, List.set_cons_zero, List.set_cons_succ])
          (refine wpAnyH_take (i := 9) (oi := ⟨_, _, _, _, _, _⟩) (v := ?_) rfl (by kernel_rfl) (by kernel_rfl) (by kernel_rfl) (fun _ _ _ h => h) (Or.inl ⟨by rfl, ?_⟩) (by assumption) ?_; rotate_left; focus ((intro w' hSw; (try dsimp only at hSw); go_simp; (try with_reducible rfl)))); (try simp only [Act.put, List.setIfInBounds_toArray, List.set_cons_zero, List.set_cons_succ])
          refine wpAnyH_ready (rs := [10]) (by kernel_rfl) (by simp) ?_
          refine AllReadyH.cons (o := ⟨_, _, _, _, _, _⟩) rfl (fun K hK => ?_) AllReadyH.nil
          go_simp
          (first | (go_at_call 92; (with_reducible refine Calls.mono (HC1.out _ ?_) ?_); (assumption); rintro e wq ⟨rfl, hb⟩; have hB' := HTR.out _ _ (by assumption) hb; obtain ⟨k0, k1, k2, k3⟩ := HCB.out _ hB'; obtain ⟨c0, c1, c2, c3⟩ := HCY.out _ hB'))
          (try go_wp2_with fail)
          refine hK.out _ _ (by (try dsimp only); (first | go_keep | (refine ⟨by assumption, ?_⟩; go_keep))) (fun hHeld => ?_)
          clear hK K
          (try simp only [Act.put, List.setIfInBounds_toArray, List.set_cons_zero, List.set_cons_succ])
          (refine wpAnyH_take (i := 11) (oi := ⟨_, _, _, _, _, _⟩) (v := ?_) rfl (by kernel_rfl) (by kernel_rfl) (by kernel_rfl) (fun _ _ _ h => h) (Or.inl ⟨by rfl, ?_⟩) (by assumption) ?_; rotate_left; focus ((intro w' hSw; (try dsimp only at hSw); go_simp; (try with_reducible rfl)))); (try simp only [Act.put, List.setIfInBounds_toArray, List.set_cons_zero, List.set_cons_succ])
          refine wpAnyH_done (by kernel_rfl) ?_ _
          replace HWQ : Hid (Below w.heap.size w wq) := Lib.hid (HWW.out wq (by assumption))
          replace HBQ := Lib.hid (HBQ.out.read (show Below wr.heap.size wr wq by assumption))
          have HNM : Hid (¬ t ∈ s) := Lib.hid fun hm => by
            have h1 := HSM.out.1 hm
            have h2 := HQ.out
            rw [h1] at h2
            cases h2
          clear hself hdrew HTR HCB e0 e1 e2 e3 hHeld g2 g2n HWW HCY HC1 HSM HQ c0 c1 c2 c3 k0 k1 k2 k3 hB' hb m3 m4
          go_upto_region 6 with (fail)
          have HRES := Lib.hid (HINS.out k HNM.out HAT.out)
          have HLK : Hid (L.length = s.length) := Lib.hid HLN.out.symm
          have hz1 : w.heap.size + 1 ≤ wq.heap.size := by have := HBQ.out.le; have := HNB.out; omega
          have HRS := Lib.hid (rowX_start (E := tmE) (e := 46) (w := wq) (lo := w.heap.size + 1) hz1)
          have HWA : Hid (Below w.heap.size w (wq.alloc (.cells #[] 46))) := Lib.hid (HWQ.out.alloc (by omega) _)
          have HBA := Lib.hid (HBQ.out.read (belowAlloc (Below.refl _ _) (.cells #[] 46)))
          have HONE : Hid (∀ (M : List (Tm × Value)), (∀ p ∈ M, p ∈ L) → ∀ u ∈ cellsE tmE M, u.oneCell' = true) := Lib.hid fun M hM => tm_one (w := w) (Z := fun k => k < w.heap.size) fun j p hj => by
            obtain ⟨i, hi⟩ := List.getElem?_of_mem (hM p (List.mem_of_getElem? hj))
            exact HKID.out i p hi
          have HKM : Hid (∀ (W : World), Below w.heap.size w W → ∀ (M : List (Tm × Value)), (∀ p ∈ M, p ∈ L) → ∀ (j : Nat) (p : Tm × Value), M[j]? = some p → tmE.kid W (fun b => b < w.heap.size + 1) p.2 p.1) := Lib.hid fun W hW M hM j p hj => by
            obtain ⟨i, hi⟩ := List.getElem?_of_mem (hM p (List.mem_of_getElem? hj))
            exact ((HKID.out i p hi).frame hW.size fun k hk _ => hW.block k hk).sub fun k hk => Nat.lt_succ_of_lt hk
          have HTC : Hid (∀ (W : World), Below w.heap.size w W → ∀ (j : Nat) (u : Value), (cellsE tmE (L.take k))[j]? = some u → W.cell? ((⟨g, 0, none⟩ : Addr).add j) = some u) := Lib.hid fun W hW j u hj => by
            rw [addr_add, Nat.zero_add]
            refine HCELL.out W hW j u ?_
            rw [← List.take_append_drop k L, cellsE_append, List.getElem?_append_left (List.getElem?_eq_some_iff.1 hj).1]
            exact hj
          have HDC : Hid (∀ (W : World), Below w.heap.size w W → ∀ (j : Nat) (u : Value), (cellsE tmE (L.drop k))[j]? = some u → W.cell? ((⟨g, k * 4, none⟩ : Addr).add j) = some u) := Lib.hid fun W hW j u hj => by
            rw [addr_add]
            refine HCELL.out W hW _ u ?_
            have hlk : (cellsE tmE (L.take k)).length = k * 4 := by rw [cellsE_length, List.length_take, show min k L.length = k from by have := HLK.out; omega]; rfl
            rw [← List.take_append_drop k L, cellsE_append, List.getElem?_append_right (by rw [hlk]; omega), hlk, Nat.add_sub_cancel_left]
            exact hj
          have HEND2 : Hid (∀ v W, RowX tmE 46 W (w.heap.size + 1) v ((([] ++ (L.take k).map Prod.fst) ++ [(t, Value.slice ta t.args.length tc)].map Prod.fst) ++ (L.drop k).map Prod.fst) → RowX tmE 46 W (w.heap.size + 1) v r) := Lib.hid fun v W h => by
            rw [HRES.out]
            have e : (L.take k).map Prod.fst ++ t :: (L.drop k).map Prod.fst = (([] ++ (L.take k).map Prod.fst) ++ [(t, Value.slice ta t.args.length tc)].map Prod.fst) ++ (L.drop k).map Prod.fst := by simp
            rw [e]; exact h
          have hKI : (k : Int) ≤ (s.length : Int) := by omega
          have hKC : (k : Int) ≤ (cap : Int) := by omega
          have hK0 : (0 : Int) ≤ (k : Int) := by omega
          have hcI : (0 : Int) ≤ (cap : Int) := by omega
          have HZQ := Lib.hid hz1
          clear hz1 HINS HRES HATP HHAS HEL HYES HOWN
          go_upto_region 7 with (at_builtin; refine append_rowX rfl _ _ 35 rfl tmE (w.heap.size + 1) 46 i0 _ 56 Try.underlying35 HII.out.1 HII.out.2.1 HII.out.2.2.1 HII.out.2.2.2 rfl (by omega) _ _ rfl HRS.out (some ⟨g, 0, none⟩) k cap rfl (L.take k) (by have := HLK.out; rw [List.length_take]; omega) (fun h => by cases h) (fun ad h j u hj => by cases h; exact HTC.out _ HWA.out j u hj) (HONE.out _ fun p hp => List.mem_of_mem_take hp) (HKM.out _ HWA.out _ fun p hp => List.mem_of_mem_take hp) (by simp; omega) (by have := HZQ.out; simp at this ⊢; omega) ?_; intro v21 w21 hown21 hb21; have HO21 := Lib.hid hown21; have HX21 := Lib.hid hb21; clear hown21 hb21)
          have HW21 : Hid (Below w.heap.size w w21) := Lib.hid (HWA.out.trans (HX21.out.mono (Nat.le_succ _)))
          have HB21 := Lib.hid (HBA.out.of_below HX21.out (by have := HNB.out; omega))
          obtain ⟨q0, q1, q2, q3⟩ := HB21.out.cells
          have HR21 := Lib.hid (HO21.out.kept (belowAlloc (Below.refl _ _) (.cells #[.int .i64 t.kind, .int .i64 t.num, .string t.name, .slice ta t.args.length tc] 46)))
          have HWB : Hid (Below w.heap.size w (w21.alloc (.cells #[.int .i64 t.kind, .int .i64 t.num, .string t.name, .slice ta t.args.length tc] 46))) := Lib.hid (HW21.out.alloc HW21.out.size _)
          have HBB := Lib.hid (HB21.out.read (belowAlloc (Below.refl _ _) (.cells #[.int .i64 t.kind, .int .i64 t.num, .string t.name, .slice ta t.args.length tc] 46)))
          have HL21 : Hid (([] ++ (L.take k).map Prod.fst : List Tm).length ≤ 1048576) := Lib.hid (by rw [List.nil_append, List.length_map, List.length_take]; omega)
          have HZ21 : Hid (w.heap.size + 1 ≤ w21.heap.size) := Lib.hid (by have := HZQ.out; have := HX21.out.size; simp at this; omega)
          clear HRS HX21 HWA HBA HTC
          go_upto_region 8 with (at_builtin; refine append_rowX rfl _ _ 35 rfl tmE (w.heap.size + 1) 46 i0 _ 56 Try.underlying35 HII.out.1 HII.out.2.1 HII.out.2.2.1 HII.out.2.2.2 rfl (by omega) v21 _ rfl HR21.out (some ⟨w21.heap.size, 0, none⟩) 1 1 rfl [(t, Value.slice ta t.args.length tc)] rfl (fun h => by cases h) (fun ad h j u hj => by cases h; rw [cellsE_one] at hj; exact World.news_of_block (heap_alloc_new w21 _) j u hj) (tm_one (w := w) (Z := fun k => k < w.heap.size) fun j p hj => by (match j, hj with | 0, hj => (simp at hj; subst hj; exact HBK.out))) (fun j p hj => by (match j, hj with | 0, hj => (simp at hj; subst hj; exact (HBK.out.frame HWB.out.size fun k hk _ => HWB.out.block k hk).sub fun k hk => Nat.lt_succ_of_lt hk))) (by have := HL21.out; omega) (by have := HZ21.out; simp; omega) ?_; intro v22 w22 hown22 hb22; have HO22 := Lib.hid hown22; have HX22 := Lib.hid hb22; clear hown22 hb22)
          have HW22 : Hid (Below w.heap.size w w22) := Lib.hid (HWB.out.trans (HX22.out.mono (Nat.le_succ _)))
          have HL22 : Hid ((([] ++ (L.take k).map Prod.fst) ++ [(t, Value.slice ta t.args.length tc)].map Prod.fst : List Tm).length ≤ 1048577) := Lib.hid (by have := HL21.out; rw [List.length_append]; exact Nat.succ_le_succ this)
          have HZ22 : Hid (w.heap.size + 1 ≤ w22.heap.size) := Lib.hid (by have := HZ21.out; have := HX22.out.size; simp at this; omega)
          clear HR21 HX22 HWB HBB q0 q1 q2 q3
          have hck : ¬ cap = k := by omega
          have hck2 : ¬ k = cap := by omega
          have hck3 : ¬ (k : Int) = (cap : Int) := by omega
          go_wp2_with (at_builtin; refine append_rowX rfl _ _ 35 rfl tmE (w.heap.size + 1) 46 i0 _ 56 Try.underlying35 HII.out.1 HII.out.2.1 HII.out.2.2.1 HII.out.2.2.2 rfl (by omega) v22 _ rfl HO22.out _ _ _ rfl (L.drop k) (by have := HLK.out; rw [List.length_drop]; omega) (fun h => by cases h) (fun ad h j u hj => by cases h; exact HDC.out _ HW22.out j u hj) (HONE.out _ fun p hp => List.mem_of_mem_drop hp) (HKM.out _ HW22.out _ fun p hp => List.mem_of_mem_drop hp) (by have h1 := HL22.out; omega) HZ22.out ?_; intro v23 w23 hown23 hb23; have HO23 := Lib.hid hown23; have HX23 := Lib.hid hb23; clear hown23 hb23)
          go_wp2
          go_ret
          exact ⟨_, rfl, ⟨w.heap.size + 1, Nat.le_trans HZ22.out HX23.out.size, HEND2.out _ _ HO23.out⟩, HW22.out.trans (HX23.out.mono (Nat.le_succ _))⟩
    · obtain ⟨j, hj⟩ : ∃ j, k = j + 1 := ⟨k - 1, by omega⟩
      have g0 : decide ((0 : Int) < (k : Int)) = true := decide_eq_true (by omega)
      have g0n : decide (0 < k) = true := decide_eq_true (by omega)
      obtain ⟨y, hy⟩ : ∃ y, s[j]? = some y := ⟨_, List.getElem?_eq_getElem (by omega)⟩
      obtain ⟨v1, v2, hyc, hya, hyz⟩ := HEL.out j y hy
      have HCY : Hid (∀ W, Below wr.heap.size wr W → W.cell? ⟨g, j * 4, none⟩ = some (.int .i64 y.kind) ∧ W.cell? ⟨g, j * 4 + 1, none⟩ = some (.int .i64 y.num) ∧ W.cell? ⟨g, j * 4 + 2, none⟩ = some (.string y.name) ∧ W.cell? ⟨g, j * 4 + 3, none⟩ = some (.slice v1 y.args.length v2)) := Lib.hid fun W hW => hyc W (HWW.out W hW)
      have HC1 : Hid (∀ W, Below wr.heap.size wr W → Calls Try.prog 127 #[.agg #[.int .i64 y.kind, .int .i64 y.num, .string y.name, .slice v1 y.args.length v2], .agg #[.int .i64 t.kind, .int .i64 t.num, .string t.name, .slice ta t.args.length tc]] W fun e w' => e = .returned (.int .i64 (y.cmp t)) ∧ Below W.heap.size W w') := Lib.hid fun W hW => specCmp_any (y.nodes + 1) y t _ _ W (Nat.lt_succ_self _) (hya.kept (HWW.out W hW)) (HBK.out.at.kept (HWW.out W hW)) hyz hz
      have HBD := Lib.hid (cmp_bd y t)
      have HY := Lib.hid hy
      have HKJ := Lib.hid hj
      have m0 : (0 : Int) ≤ (j : Int) := by omega
      have m1 : (j : Int) < (s.length : Int) := by omega
      have m2 : IntKind.i64.wrap ((k : Int) - 1) = (j : Int) := by rw [IntWalk.i64_in _ (by omega)]; omega
      have hjk : j ≤ s.length := by omega
      obtain ⟨c0, c1, c2, c3⟩ := HCY.out wr hself
      obtain ⟨c, hcc⟩ : ∃ c, y.cmp t = c := ⟨_, rfl⟩
      rw [hcc] at HC1 HBD
      have HCC := Lib.hid hcc
      have hcb := HBD.out
      clear hkz hy hj hyc hya hyz hcc HBD
      by_cases hd : c < 0
      · have g1 : decide (0 ≤ c) = false := decide_eq_false (by omega)
        have HAT : Hid (AtT s t k) := Lib.hid (HATP.out k hk (fun i x hi hx => by (obtain rfl : i = j := by have := HKJ.out; omega); cases hx.symm.trans HY.out; have := HCC.out; omega) HSC.out)
        clear hd
        refine wp_region_held_drew (S := (fun w' => Below wr.heap.size wr w' ∧ w'.cell? ⟨nb, 0, none⟩ = some (.int .i64 t.kind) ∧ w'.cell? ⟨nb, 1, none⟩ = some (.int .i64 t.num) ∧ w'.cell? ⟨nb, 2, none⟩ = some (.string t.name) ∧ w'.cell? ⟨nb, 3, none⟩ = some (.slice ta t.args.length tc) ∧ w'.cell? ⟨g, j * 4, none⟩ = some (.int .i64 y.kind) ∧ w'.cell? ⟨g, j * 4 + 1, none⟩ = some (.int .i64 y.num) ∧ w'.cell? ⟨g, j * 4 + 2, none⟩ = some (.string y.name) ∧ w'.cell? ⟨g, j * 4 + 3, none⟩ = some (.slice v1 y.args.length v2))) (by kernel_rfl) (by (try dsimp only); go_keep) (fun hHeld => ?_)
        (refine wpAnyH_take (i := 0) (oi := ⟨_, _, _, _, _, _⟩) (v := ?_) rfl (by kernel_rfl) (by kernel_rfl) (by kernel_rfl) (fun _ _ _ h => h) (Or.inl ⟨by rfl, ?_⟩) (by assumption) ?_; rotate_left; focus ((intro w' hSw; (try dsimp only at hSw); go_simp; (try with_reducible rfl)))); (try simp only [Act.put, List.setIfInBounds_toArray, List.set_cons_zero, List.set_cons_succ])
        (refine wpAnyH_take (i := 1) (oi := ⟨_, _, _, _, _, _⟩) (v := ?_) rfl (by kernel_rfl) (by kernel_rfl) (by kernel_rfl) (fun _ _ _ h => h) (Or.inl ⟨by rfl, ?_⟩) (by assumption) ?_; rotate_left; focus ((intro w' hSw; (try dsimp only at hSw); go_simp; (try with_reducible rfl)))); (try simp only [Act.put, List.setIfInBounds_toArray, List.set_cons_zero, List.set_cons_succ])
        (refine wpAnyH_take (i := 2) (oi := ⟨_, _, _, _, _, _⟩) (v := ?_) rfl (by kernel_rfl) (by kernel_rfl) (by kernel_rfl) (fun _ _ _ h => h) (Or.inl ⟨by rfl, ?_⟩) (by assumption) ?_; rotate_left; focus ((intro w' hSw; (try dsimp only at hSw); go_simp; (try with_reducible rfl)))); (try simp only [Act.put, List.setIfInBounds_toArray, List.set_cons_zero, List.set_cons_succ])
        (refine wpAnyH_take (i := 3) (oi := ⟨_, _, _, _, _, _⟩) (v := ?_) rfl (by kernel_rfl) (by kernel_rfl) (by kernel_rfl) (fun _ _ _ h => h) (Or.inl ⟨by rfl, ?_⟩) (by assumption) ?_; rotate_left; focus ((intro w' hSw; (try dsimp only at hSw); go_simp; (try with_reducible rfl)))); (try simp only [Act.put, List.setIfInBounds_toArray, List.set_cons_zero, List.set_cons_succ])
        (refine wpAnyH_take (i := 4) (oi := ⟨_, _, _, _, _, _⟩) (v := ?_) rfl (by kernel_rfl) (by kernel_rfl) (by kernel_rfl) (fun _ _ _ h => h) (Or.inl ⟨by rfl, ?_⟩) (by assumption) ?_; rotate_left; focus ((intro w' hSw; (try dsimp only at hSw); go_simp; (try with_reducible rfl)))); (try simp only [Act.put, List.setIfInBounds_toArray, List.set_cons_zero, List.set_cons_succ])
        (refine wpAnyH_take (i := 5) (oi := ⟨_, _, _, _, _, _⟩) (v := ?_) rfl (by kernel_rfl) (by kernel_rfl) (by kernel_rfl) (fun _ _ _ h => h) (Or.inl ⟨by rfl, ?_⟩) (by assumption) ?_; rotate_left; focus ((intro w' hSw; (try dsimp only at hSw); go_simp; (try with_reducible rfl)))); (try simp only [Act.put, List.setIfInBounds_toArray, List.set_cons_zero, List.set_cons_succ])
        (refine wpAnyH_take (i := 6) (oi := ⟨_, _, _, _, _, _⟩) (v := ?_) rfl (by kernel_rfl) (by kernel_rfl) (by kernel_rfl) (fun _ _ _ h => h) (Or.inl ⟨by rfl, ?_⟩) (by assumption) ?_; rotate_left; focus ((intro w' hSw; (try dsimp only at hSw); go_simp; (try with_reducible rfl)))); (try simp only [Act.put, List.setIfInBounds_toArray, List.set_cons_zero, List.set_cons_succ])
        (refine wpAnyH_take (i := 7) (oi := ⟨_, _, _, _, _, _⟩) (v := ?_) rfl (by kernel_rfl) (by kernel_rfl) (by kernel_rfl) (fun _ _ _ h => h) (Or.inl ⟨by rfl, ?_⟩) (by assumption) ?_; rotate_left; focus ((intro w' hSw; (try dsimp only at hSw); go_simp; (try with_reducible rfl)))); (try simp only [Act.put, List.setIfInBounds_toArray, List.set_cons_zero, List.set_cons_succ])
        (refine wpAnyH_take (i := 8) (oi := ⟨_, _, _, _, _, _⟩) (v := ?_) rfl (by kernel_rfl) (by kernel_rfl) (by kernel_rfl) (fun _ _ _ h => h) (Or.inl ⟨by rfl, ?_⟩) (by assumption) ?_; rotate_left; focus ((intro w' hSw; (try dsimp only at hSw); go_simp; (try with_reducible rfl)))); (try simp only [Act.put, List.setIfInBounds_toArray, List.set_cons_zero, List.set_cons_succ])
        refine wpAnyH_ready (rs := [9]) (by kernel_rfl) (by simp) ?_
        refine AllReadyH.cons (o := ⟨_, _, _, _, _, _⟩) rfl (fun K hK => ?_) AllReadyH.nil
        go_simp
        (first | (go_at_call 127; (with_reducible refine Calls.mono (HC1.out _ ?_) ?_); (assumption); rintro e wq ⟨rfl, hb⟩; have hB' := HTR.out _ _ (by assumption) hb; obtain ⟨k0, k1, k2, k3⟩ := HCB.out _ hB'; obtain ⟨c0, c1, c2, c3⟩ := HCY.out _ hB'))
        (try go_wp2_with fail)
        refine hK.out _ _ (by (try dsimp only); (first | go_keep | (refine ⟨by assumption, ?_⟩; go_keep))) (fun hHeld => ?_)
        clear hK K
        (try simp only [Act.put, List.setIfInBounds_toArray, List.set_cons_zero, List.set_cons_succ])
        (refine wpAnyH_take (i := 10) (oi := ⟨_, _, _, _, _, _⟩) (v := ?_) rfl (by kernel_rfl) (by kernel_rfl) (by kernel_rfl) (fun _ _ _ h => h) (Or.inl ⟨by rfl, ?_⟩) (by assumption) ?_; rotate_left; focus ((intro w' hSw; (try dsimp only at hSw); go_simp; (try with_reducible rfl)))); (try simp only [Act.put, List.setIfInBounds_toArray, List.set_cons_zero, List.set_cons_succ])
        (refine wpAnyH_take (i := 11) (oi := ⟨_, _, _, _, _, _⟩) (v := ?_) rfl (by kernel_rfl) (by kernel_rfl) (by kernel_rfl) (fun _ _ _ h => h) (Or.inl ⟨by rfl, ?_⟩) (by assumption) ?_; rotate_left; focus ((intro w' hSw; (try dsimp only at hSw); go_simp; (try with_reducible rfl)))); (try simp only [Act.put, List.setIfInBounds_toArray, List.set_cons_zero, List.set_cons_succ])
        refine wpAnyH_done (by kernel_rfl) ?_ _
        have HWR2 : Hid (Below w.heap.size w wq) := Lib.hid (HWW.out _ (show Below wr.heap.size wr wq by assumption))
        have HBR2 := Lib.hid (HBR.out.read (show Below wr.heap.size wr wq by assumption))
        clear HSC HB HWR HBR HTR HCB HEND e0 e1 e2 e3 HW HBX HWW hself hdrew hHeld g0 g0n g1 m0 m1 m2 c0 c1 c2 c3 k0 k1 k2 k3 HCY HC1 HCC HY HKJ hcb hjk hB' hb
        go_upto_region 4 with (fail)
        generalize wq = wr at HWR2 HBR2 ⊢
        have HWQ := HWR2
        have HBQ := HBR2
        have hself : Below wr.heap.size wr wr := Below.refl _ _
        have hdrew : Below wr.heap.size wr wr.drew := hself.drew
        have HTR : Hid (∀ a b, Below wr.heap.size wr a → Below a.heap.size a b → Below wr.heap.size wr b) := Lib.hid fun a b h1 h2 => belowOn h1 (Nat.le_refl _) h2
        have HCB : Hid (∀ W, Below wr.heap.size wr W → W.cell? ⟨nb, 0, none⟩ = some (.int .i64 t.kind) ∧ W.cell? ⟨nb, 1, none⟩ = some (.int .i64 t.num) ∧ W.cell? ⟨nb, 2, none⟩ = some (.string t.name) ∧ W.cell? ⟨nb, 3, none⟩ = some (.slice ta t.args.length tc)) := Lib.hid fun W hW => (HBR2.out.read hW).cells
        have HWW : Hid (∀ W, Below wr.heap.size wr W → Below w.heap.size w W) := Lib.hid fun W hW => belowOn HWR2.out (Nat.le_refl _) hW
        obtain ⟨e0, e1, e2, e3⟩ := HCB.out wr hself
        clear HWR2 HBR2
        by_cases hks : k = s.length
        · have HKS := Lib.hid hks
          have g2 : decide ((k : Int) < (s.length : Int)) = false := decide_eq_false (by omega)
          have g2n : decide (k < s.length) = false := decide_eq_false (by omega)
          have HNM : Hid (¬ t ∈ s) := Lib.hid fun hm => by
            obtain ⟨x, hx, _⟩ := (HHAS.out k HAT.out).1 hm
            rw [List.getElem?_eq_none (by have := HKS.out; omega)] at hx
            cases hx
          clear hks
          refine wp_region_held_drew (S := (fun w' => Below wr.heap.size wr w' ∧ w'.cell? ⟨nb, 0, none⟩ = some (.int .i64 t.kind) ∧ w'.cell? ⟨nb, 1, none⟩ = some (.int .i64 t.num) ∧ w'.cell? ⟨nb, 2, none⟩ = some (.string t.name) ∧ w'.cell? ⟨nb, 3, none⟩ = some (.slice ta t.args.length tc))) (by kernel_rfl) (by (try dsimp only); go_keep) (fun hHeld => ?_)
          (refine wpAnyH_take (i := 0) (oi := ⟨_, _, _, _, _, _⟩) (v := ?_) rfl (by kernel_rfl) (by kernel_rfl) (by kernel_rfl) (fun _ _ _ h => h) (Or.inl ⟨by rfl, ?_⟩) (by assumption) ?_; rotate_left; focus ((intro w' hSw; (try dsimp only at hSw); go_simp; (try with_reducible rfl)))); (try simp only [Act.put, List.setIfInBounds_toArray, List.set_cons_zero, List.set_cons_succ])
          (refine wpAnyH_take (i := 1) (oi := ⟨_, _, _, _, _, _⟩) (v := ?_) rfl (by kernel_rfl) (by kernel_rfl) (by kernel_rfl) (fun _ _ _ h => h) (Or.inl ⟨by rfl, ?_⟩) (by assumption) ?_; rotate_left; focus ((intro w' hSw; (try dsimp only at hSw); go_simp; (try with_reducible rfl)))); (try simp only [Act.put, List.setIfInBounds_toArray, List.set_cons_zero, List.set_cons_succ])
          (refine wpAnyH_take (i := 2) (oi := ⟨_, _, _, _, _, _⟩) (v := ?_) rfl (by kernel_rfl) (by kernel_rfl) (by kernel_rfl) (fun _ _ _ h => h) (Or.inl ⟨by rfl, ?_⟩) (by assumption) ?_; rotate_left; focus ((intro w' hSw; (try dsimp only at hSw); go_simp; (try with_reducible rfl)))); (try simp only [Act.put, List.setIfInBounds_toArray, List.set_cons_zero, List.set_cons_succ])
          (refine wpAnyH_take (i := 3) (oi := ⟨_, _, _, _, _, _⟩) (v := ?_) rfl (by kernel_rfl) (by kernel_rfl) (by kernel_rfl) (fun _ _ _ h => h) (Or.inl ⟨by rfl, ?_⟩) (by assumption) ?_; rotate_left; focus ((intro w' hSw; (try dsimp only at hSw); go_simp; (try with_reducible rfl)))); (try simp only [Act.put, List.setIfInBounds_toArray, List.set_cons_zero, List.set_cons_succ])
          (refine wpAnyH_take (i := 4) (oi := ⟨_, _, _, _, _, _⟩) (v := ?_) rfl (by kernel_rfl) (by kernel_rfl) (by kernel_rfl) (fun _ _ _ h => h) (Or.inl ⟨by rfl, ?_⟩) (by assumption) ?_; rotate_left; focus ((intro w' hSw; (try dsimp only at hSw); go_simp; (try with_reducible rfl)))); (try simp only [Act.put, List.setIfInBounds_toArray, List.set_cons_zero, List.set_cons_succ])
          (refine wpAnyH_take (i := 5) (oi := ⟨_, _, _, _, _, _⟩) (v := undef) rfl (by kernel_rfl) (by kernel_rfl) (by kernel_rfl) (fun _ _ _ h => h) (Or.inr ⟨by rfl, rfl⟩) (by assumption) ?_); (try simp only [Act.put, List.setIfInBounds_toArray, List.set_cons_zero, List.set_cons_succ])
          (refine wpAnyH_take (i := 6) (oi := ⟨_, _, _, _, _, _⟩) (v := undef) rfl (by kernel_rfl) (by kernel_rfl) (by kernel_rfl) (fun _ _ _ h => h) (Or.inr ⟨by rfl, rfl⟩) (by assumption) ?_); (try simp only [Act.put, List.setIfInBounds_toArray, List.set_cons_zero, List.set_cons_succ])
          (refine wpAnyH_take (i := 7) (oi := ⟨_, _, _, _, _, _⟩) (v := undef) rfl (by kernel_rfl) (by kernel_rfl) (by kernel_rfl) (fun _ _ _ h => h) (Or.inr ⟨by rfl, rfl⟩) (by assumption) ?_); (try simp only [Act.put, List.setIfInBounds_toArray, List.set_cons_zero, List.set_cons_succ])
          (refine wpAnyH_take (i := 8) (oi := ⟨_, _, _, _, _, _⟩) (v := undef) rfl (by kernel_rfl) (by kernel_rfl) (by kernel_rfl) (fun _ _ _ h => h) (Or.inr ⟨by rfl, rfl⟩) (by assumption) ?_); (try simp only [Act.put, List.setIfInBounds_toArray, List.set_cons_zero, List.set_cons_succ])
          (refine wpAnyH_take (i := 9) (oi := ⟨_, _, _, _, _, _⟩) (v := undef) rfl (by kernel_rfl) (by kernel_rfl) (by kernel_rfl) (fun _ _ _ h => h) (Or.inr ⟨by rfl, rfl⟩) (by assumption) ?_); (try simp only [Act.put, List.setIfInBounds_toArray, List.set_cons_zero, List.set_cons_succ])
          (refine wpAnyH_take (i := 10) (oi := ⟨_, _, _, _, _, _⟩) (v := undef) rfl (by kernel_rfl) (by kernel_rfl) (by kernel_rfl) (fun _ _ _ h => h) (Or.inr ⟨by rfl, rfl⟩) (by assumption) ?_); (try simp only [Act.put, List.setIfInBounds_toArray, List.set_cons_zero, List.set_cons_succ])
          (refine wpAnyH_take (i := 11) (oi := ⟨_, _, _, _, _, _⟩) (v := ?_) rfl (by kernel_rfl) (by kernel_rfl) (by kernel_rfl) (fun _ _ _ h => h) (Or.inl ⟨by rfl, ?_⟩) (by assumption) ?_; rotate_left; focus ((intro w' hSw; (try dsimp only at hSw); go_simp; (try with_reducible rfl)))); (try simp only [Act.put, List.setIfInBounds_toArray, List.set_cons_zero, List.set_cons_succ])
          refine wpAnyH_done (by kernel_rfl) ?_ _
          replace HWQ := Lib.hid HWQ.out.drew
          replace HBQ := Lib.hid (HBQ.out.read hdrew)
          clear hself hdrew HTR HCB e0 e1 e2 e3 hHeld g2 g2n HWW
          go_upto_region 6 with (fail)
          generalize wr.drew = wq at HWQ HBQ ⊢
          have HRES := Lib.hid (HINS.out k HNM.out HAT.out)
          have HLK : Hid (L.length = s.length) := Lib.hid HLN.out.symm
          have hz1 : w.heap.size + 1 ≤ wq.heap.size := by have := HBQ.out.le; have := HNB.out; omega
          have HRS := Lib.hid (rowX_start (E := tmE) (e := 46) (w := wq) (lo := w.heap.size + 1) hz1)
          have HWA : Hid (Below w.heap.size w (wq.alloc (.cells #[] 46))) := Lib.hid (HWQ.out.alloc (by omega) _)
          have HBA := Lib.hid (HBQ.out.read (belowAlloc (Below.refl _ _) (.cells #[] 46)))
          have HONE : Hid (∀ (M : List (Tm × Value)), (∀ p ∈ M, p ∈ L) → ∀ u ∈ cellsE tmE M, u.oneCell' = true) := Lib.hid fun M hM => tm_one (w := w) (Z := fun k => k < w.heap.size) fun j p hj => by
            obtain ⟨i, hi⟩ := List.getElem?_of_mem (hM p (List.mem_of_getElem? hj))
            exact HKID.out i p hi
          have HKM : Hid (∀ (W : World), Below w.heap.size w W → ∀ (M : List (Tm × Value)), (∀ p ∈ M, p ∈ L) → ∀ (j : Nat) (p : Tm × Value), M[j]? = some p → tmE.kid W (fun b => b < w.heap.size + 1) p.2 p.1) := Lib.hid fun W hW M hM j p hj => by
            obtain ⟨i, hi⟩ := List.getElem?_of_mem (hM p (List.mem_of_getElem? hj))
            exact ((HKID.out i p hi).frame hW.size fun k hk _ => hW.block k hk).sub fun k hk => Nat.lt_succ_of_lt hk
          have HTC : Hid (∀ (W : World), Below w.heap.size w W → ∀ (j : Nat) (u : Value), (cellsE tmE (L.take k))[j]? = some u → W.cell? ((⟨g, 0, none⟩ : Addr).add j) = some u) := Lib.hid fun W hW j u hj => by
            rw [addr_add, Nat.zero_add]
            refine HCELL.out W hW j u ?_
            rw [← List.take_append_drop k L, cellsE_append, List.getElem?_append_left (List.getElem?_eq_some_iff.1 hj).1]
            exact hj
          have HDC : Hid (∀ (W : World), Below w.heap.size w W → ∀ (j : Nat) (u : Value), (cellsE tmE (L.drop k))[j]? = some u → W.cell? ((⟨g, k * 4, none⟩ : Addr).add j) = some u) := Lib.hid fun W hW j u hj => by
            rw [addr_add]
            refine HCELL.out W hW _ u ?_
            have hlk : (cellsE tmE (L.take k)).length = k * 4 := by rw [cellsE_length, List.length_take, show min k L.length = k from by have := HLK.out; omega]; rfl
            rw [← List.take_append_drop k L, cellsE_append, List.getElem?_append_right (by rw [hlk]; omega), hlk, Nat.add_sub_cancel_left]
            exact hj
          have HEND2 : Hid (∀ v W, RowX tmE 46 W (w.heap.size + 1) v ((([] ++ (L.take k).map Prod.fst) ++ [(t, Value.slice ta t.args.length tc)].map Prod.fst) ++ (L.drop k).map Prod.fst) → RowX tmE 46 W (w.heap.size + 1) v r) := Lib.hid fun v W h => by
            rw [HRES.out]
            have e : (L.take k).map Prod.fst ++ t :: (L.drop k).map Prod.fst = (([] ++ (L.take k).map Prod.fst) ++ [(t, Value.slice ta t.args.length tc)].map Prod.fst) ++ (L.drop k).map Prod.fst := by simp
            rw [e]; exact h
          have hKI : (k : Int) ≤ (s.length : Int) := by omega
          have hKC : (k : Int) ≤ (cap : Int) := by omega
          have hK0 : (0 : Int) ≤ (k : Int) := by omega
          have hcI : (0 : Int) ≤ (cap : Int) := by omega
          have HZQ := Lib.hid hz1
          clear hz1 HINS HRES HATP HHAS HEL HYES HOWN
          go_upto_region 7 with (at_builtin; refine append_rowX rfl _ _ 35 rfl tmE (w.heap.size + 1) 46 i0 _ 56 Try.underlying35 HII.out.1 HII.out.2.1 HII.out.2.2.1 HII.out.2.2.2 rfl (by omega) _ _ rfl HRS.out (some ⟨g, 0, none⟩) k cap rfl (L.take k) (by have := HLK.out; rw [List.length_take]; omega) (fun h => by cases h) (fun ad h j u hj => by cases h; exact HTC.out _ HWA.out j u hj) (HONE.out _ fun p hp => List.mem_of_mem_take hp) (HKM.out _ HWA.out _ fun p hp => List.mem_of_mem_take hp) (by simp; omega) (by have := HZQ.out; simp at this ⊢; omega) ?_; intro v21 w21 hown21 hb21; have HO21 := Lib.hid hown21; have HX21 := Lib.hid hb21; clear hown21 hb21)
          have HW21 : Hid (Below w.heap.size w w21) := Lib.hid (HWA.out.trans (HX21.out.mono (Nat.le_succ _)))
          have HB21 := Lib.hid (HBA.out.of_below HX21.out (by have := HNB.out; omega))
          obtain ⟨q0, q1, q2, q3⟩ := HB21.out.cells
          have HR21 := Lib.hid (HO21.out.kept (belowAlloc (Below.refl _ _) (.cells #[.int .i64 t.kind, .int .i64 t.num, .string t.name, .slice ta t.args.length tc] 46)))
          have HWB : Hid (Below w.heap.size w (w21.alloc (.cells #[.int .i64 t.kind, .int .i64 t.num, .string t.name, .slice ta t.args.length tc] 46))) := Lib.hid (HW21.out.alloc HW21.out.size _)
          have HBB := Lib.hid (HB21.out.read (belowAlloc (Below.refl _ _) (.cells #[.int .i64 t.kind, .int .i64 t.num, .string t.name, .slice ta t.args.length tc] 46)))
          have HL21 : Hid (([] ++ (L.take k).map Prod.fst : List Tm).length ≤ 1048576) := Lib.hid (by rw [List.nil_append, List.length_map, List.length_take]; omega)
          have HZ21 : Hid (w.heap.size + 1 ≤ w21.heap.size) := Lib.hid (by have := HZQ.out; have := HX21.out.size; simp at this; omega)
          clear HRS HX21 HWA HBA HTC
          go_upto_region 8 with (at_builtin; refine append_rowX rfl _ _ 35 rfl tmE (w.heap.size + 1) 46 i0 _ 56 Try.underlying35 HII.out.1 HII.out.2.1 HII.out.2.2.1 HII.out.2.2.2 rfl (by omega) v21 _ rfl HR21.out (some ⟨w21.heap.size, 0, none⟩) 1 1 rfl [(t, Value.slice ta t.args.length tc)] rfl (fun h => by cases h) (fun ad h j u hj => by cases h; rw [cellsE_one] at hj; exact World.news_of_block (heap_alloc_new w21 _) j u hj) (tm_one (w := w) (Z := fun k => k < w.heap.size) fun j p hj => by (match j, hj with | 0, hj => (simp at hj; subst hj; exact HBK.out))) (fun j p hj => by (match j, hj with | 0, hj => (simp at hj; subst hj; exact (HBK.out.frame HWB.out.size fun k hk _ => HWB.out.block k hk).sub fun k hk => Nat.lt_succ_of_lt hk))) (by have := HL21.out; omega) (by have := HZ21.out; simp; omega) ?_; intro v22 w22 hown22 hb22; have HO22 := Lib.hid hown22; have HX22 := Lib.hid hb22; clear hown22 hb22)
          have HW22 : Hid (Below w.heap.size w w22) := Lib.hid (HWB.out.trans (HX22.out.mono (Nat.le_succ _)))
          have HL22 : Hid ((([] ++ (L.take k).map Prod.fst) ++ [(t, Value.slice ta t.args.length tc)].map Prod.fst : List Tm).length ≤ 1048577) := Lib.hid (by have := HL21.out; rw [List.length_append]; exact Nat.succ_le_succ this)
          have HZ22 : Hid (w.heap.size + 1 ≤ w22.heap.size) := Lib.hid (by have := HZ21.out; have := HX22.out.size; simp at this; omega)
          clear HR21 HX22 HWB HBB q0 q1 q2 q3
          by_cases hck : cap = k
          · subst hck
            go_wp2_with (at_builtin; refine append_rowX rfl _ _ 35 rfl tmE (w.heap.size + 1) 46 i0 _ 56 Try.underlying35 HII.out.1 HII.out.2.1 HII.out.2.2.1 HII.out.2.2.2 rfl (by omega) v22 _ rfl HO22.out _ _ _ rfl (L.drop cap) (by have := HLK.out; rw [List.length_drop]; omega) (fun h => by cases h) (fun ad h j u hj => by rw [List.drop_of_length_le (by have h1 := HLK.out; have h2 := HKS.out; omega)] at hj; simp [cellsE] at hj) (HONE.out _ fun p hp => List.mem_of_mem_drop hp) (HKM.out _ HW22.out _ fun p hp => List.mem_of_mem_drop hp) (by have h1 := HL22.out; omega) HZ22.out ?_; intro v23 w23 hown23 hb23; have HO23 := Lib.hid hown23; have HX23 := Lib.hid hb23; clear hown23 hb23)
            go_wp2
            go_ret
            exact ⟨_, rfl, ⟨w.heap.size + 1, Nat.le_trans HZ22.out HX23.out.size, HEND2.out _ _ HO23.out⟩, HW22.out.trans (HX23.out.mono (Nat.le_succ _))⟩
          · have hck2 : ¬ k = cap := fun e => hck e.symm
            have hck3 : ¬ (k : Int) = (cap : Int) := by omega
            go_wp2_with (at_builtin; refine append_rowX rfl _ _ 35 rfl tmE (w.heap.size + 1) 46 i0 _ 56 Try.underlying35 HII.out.1 HII.out.2.1 HII.out.2.2.1 HII.out.2.2.2 rfl (by omega) v22 _ rfl HO22.out _ _ _ rfl (L.drop k) (by have := HLK.out; rw [List.length_drop]; omega) (fun h => by cases h) (fun ad h j u hj => by cases h; exact HDC.out _ HW22.out j u hj) (HONE.out _ fun p hp => List.mem_of_mem_drop hp) (HKM.out _ HW22.out _ fun p hp => List.mem_of_mem_drop hp) (by have h1 := HL22.out; omega) HZ22.out ?_; intro v23 w23 hown23 hb23; have HO23 := Lib.hid hown23; have HX23 := Lib.hid hb23; clear hown23 hb23)
            go_wp2
            go_ret
            exact ⟨_, rfl, ⟨w.heap.size + 1, Nat.le_trans HZ22.out HX23.out.size, HEND2.out _ _ HO23.out⟩, HW22.out.trans (HX23.out.mono (Nat.le_succ _))⟩
        · have hks2 : k < s.length := by omega
          clear hks
          have g2 : decide ((k : Int) < (s.length : Int)) = true := decide_eq_true (by omega)
          have g2n : decide (k < s.length) = true := decide_eq_true (by omega)
          have m3 : (k : Int) < (s.length : Int) := by omega
          have m4 : (0 : Int) ≤ (k : Int) := by omega
          obtain ⟨y, hy⟩ : ∃ y, s[k]? = some y := ⟨_, List.getElem?_eq_getElem hks2⟩
          obtain ⟨v1, v2, hyc, hya, hyz⟩ := HEL.out k y hy
          have HCY : Hid (∀ W, Below wr.heap.size wr W → W.cell? ⟨g, k * 4, none⟩ = some (.int .i64 y.kind) ∧ W.cell? ⟨g, k * 4 + 1, none⟩ = some (.int .i64 y.num) ∧ W.cell? ⟨g, k * 4 + 2, none⟩ = some (.string y.name) ∧ W.cell? ⟨g, k * 4 + 3, none⟩ = some (.slice v1 y.args.length v2)) := Lib.hid fun W hW => hyc W (HWW.out W hW)
          have HC1 : Hid (∀ W, Below wr.heap.size wr W → Calls Try.prog 92 #[.agg #[.int .i64 y.kind, .int .i64 y.num, .string y.name, .slice v1 y.args.length v2], .agg #[.int .i64 t.kind, .int .i64 t.num, .string t.name, .slice ta t.args.length tc]] W fun e w' => e = .returned (.bool (y.cmp t == 0)) ∧ Below W.heap.size W w') := Lib.hid fun W hW => specSame_any y t _ _ W (hya.kept (HWW.out W hW)) (HBK.out.at.kept (HWW.out W hW)) hyz hz
          have HSM : Hid (t ∈ s ↔ y.cmp t = 0) := Lib.hid ((HHAS.out k HAT.out).trans ⟨fun ⟨x, hx, h⟩ => (by cases hx.symm.trans hy; exact h), fun h => ⟨y, hy, h⟩⟩)
          obtain ⟨c0, c1, c2, c3⟩ := HCY.out wr hself
          obtain ⟨q, hq⟩ : ∃ q, (y.cmp t == 0) = q := ⟨_, rfl⟩
          rw [hq] at HC1
          have HQ := Lib.hid hq
          clear hy hyc hya hyz hq
          cases q with
          | true =>
            refine wp_region_held_drew (S := (fun w' => Below wr.heap.size wr w' ∧ w'.cell? ⟨nb, 0, none⟩ = some (.int .i64 t.kind) ∧ w'.cell? ⟨nb, 1, none⟩ = some (.int .i64 t.num) ∧ w'.cell? ⟨nb, 2, none⟩ = some (.string t.name) ∧ w'.cell? ⟨nb, 3, none⟩ = some (.slice ta t.args.length tc) ∧ w'.cell? ⟨g, k * 4, none⟩ = some (.int .i64 y.kind) ∧ w'.cell? ⟨g, k * 4 + 1, none⟩ = some (.int .i64 y.num) ∧ w'.cell? ⟨g, k * 4 + 2, none⟩ = some (.string y.name) ∧ w'.cell? ⟨g, k * 4 + 3, none⟩ = some (.slice v1 y.args.length v2))) (by kernel_rfl) (by (try dsimp only); go_keep) (fun hHeld => ?_)
            (refine wpAnyH_take (i := 0) (oi := ⟨_, _, _, _, _, _⟩) (v := ?_) rfl (by kernel_rfl) (by kernel_rfl) (by kernel_rfl) (fun _ _ _ h => h) (Or.inl ⟨by rfl, ?_⟩) (by assumption) ?_; rotate_left; focus ((intro w' hSw; (try dsimp only at hSw); go_simp; (try with_reducible rfl)))); (try simp only [Act.put, List.setIfInBounds_toArray, List.set_cons_zero, List.set_cons_succ])
            (refine wpAnyH_take (i := 1) (oi := ⟨_, _, _, _, _, _⟩) (v := ?_) rfl (by kernel_rfl) (by kernel_rfl) (by kernel_rfl) (fun _ _ _ h => h) (Or.inl ⟨by rfl, ?_⟩) (by assumption) ?_; rotate_left; focus ((intro w' hSw; (try dsimp only at hSw); go_simp; (try with_reducible rfl)))); (try simp only [Act.put, List.setIfInBounds_toArray, List.set_cons_zero, List.set_cons_succ])
            (refine wpAnyH_take (i := 2) (oi := ⟨_, _, _, _, _, _⟩) (v := ?_) rfl (by kernel_rfl) (by kernel_rfl) (by kernel_rfl) (fun _ _ _ h => h) (Or.inl ⟨by rfl, ?_⟩) (by assumption) ?_; rotate_left; focus ((intro w' hSw; (try dsimp only at hSw); go_simp; (try with_reducible rfl)))); (try simp only [Act.put, List.setIfInBounds_toArray, List.set_cons_zero, List.set_cons_succ])
            (refine wpAnyH_take (i := 3) (oi := ⟨_, _, _, _, _, _⟩) (v := ?_) rfl (by kernel_rfl) (by kernel_rfl) (by kernel_rfl) (fun _ _ _ h => h) (Or.inl ⟨by rfl, ?_⟩) (by assumption) ?_; rotate_left; focus ((intro w' hSw; (try dsimp only at hSw); go_simp; (try with_reducible rfl)))); (try simp only [Act.put, List.setIfInBounds_toArray, List.set_cons_zero, List.set_cons_succ])
            (refine wpAnyH_take (i := 4) (oi := ⟨_, _, _, _, _, _⟩) (v := ?_) rfl (by kernel_rfl) (by kernel_rfl) (by kernel_rfl) (fun _ _ _ h => h) (Or.inl ⟨by rfl, ?_⟩) (by assumption) ?_; rotate_left; focus ((intro w' hSw; (try dsimp only at hSw); go_simp; (try with_reducible rfl)))); (try simp only [Act.put, List.setIfInBounds_toArray, List.set_cons_zero, List.set_cons_succ])
            (refine wpAnyH_take (i := 5) (oi := ⟨_, _, _, _, _, _⟩) (v := ?_) rfl (by kernel_rfl) (by kernel_rfl) (by kernel_rfl) (fun _ _ _ h => h) (Or.inl ⟨by rfl, ?_⟩) (by assumption) ?_; rotate_left; focus ((intro w' hSw; (try dsimp only at hSw); go_simp; (try with_reducible rfl)))); (try simp only [Act.put, List.setIfInBounds_toArray, List.set_cons_zero, List.set_cons_succ])
            (refine wpAnyH_take (i := 6) (oi := ⟨_, _, _, _, _, _⟩) (v := ?_) rfl (by kernel_rfl) (by kernel_rfl) (by kernel_rfl) (fun _ _ _ h => h) (Or.inl ⟨by rfl, ?_⟩) (by assumption) ?_; rotate_left; focus ((intro w' hSw; (try dsimp only at hSw); go_simp; (try with_reducible rfl)))); (try simp only [Act.put, List.setIfInBounds_toArray, List.set_cons_zero, List.set_cons_succ])
            (refine wpAnyH_take (i := 7) (oi := ⟨_, _, _, _, _, _⟩) (v := ?_) rfl (by kernel_rfl) (by kernel_rfl) (by kernel_rfl) (fun _ _ _ h => h) (Or.inl ⟨by rfl, ?_⟩) (by assumption) ?_; rotate_left; focus ((intro w' hSw; (try dsimp only at hSw); go_simp; (try with_reducible rfl)))); (try simp only [Act.put, List.setIfInBounds_toArray, List.set_cons_zero, List.set_cons_succ])
            (refine wpAnyH_take (i := 8) (oi := ⟨_, _, _, _, _, _⟩) (v := ?_) rfl (by kernel_rfl) (by kernel_rfl) (by kernel_rfl) (fun _ _ _ h => h) (Or.inl ⟨by rfl, ?_⟩) (by assumption) ?_; rotate_left; focus ((intro w' hSw; (try dsimp only at hSw); go_simp; (try with_reducible rfl)))); (try simp only [Act.put, List.setIfInBounds_toArray, List.set_cons_zero, List.set_cons_succ])
            (refine wpAnyH_take (i := 9) (oi := ⟨_, _, _, _, _, _⟩) (v := ?_) rfl (by kernel_rfl) (by kernel_rfl) (by kernel_rfl) (fun _ _ _ h => h) (Or.inl ⟨by rfl, ?_⟩) (by assumption) ?_; rotate_left; focus ((intro w' hSw; (try dsimp only at hSw); go_simp; (try with_reducible rfl)))); (try simp only [Act.put, List.setIfInBounds_toArray, List.set_cons_zero, List.set_cons_succ])
            refine wpAnyH_ready (rs := [10]) (by kernel_rfl) (by simp) ?_
            refine AllReadyH.cons (o := ⟨_, _, _, _, _, _⟩) rfl (fun K hK => ?_) AllReadyH.nil
            go_simp
            (first | (go_at_call 92; (with_reducible refine Calls.mono (HC1.out _ ?_) ?_); (assumption); rintro e wq ⟨rfl, hb⟩; have hB' := HTR.out _ _ (by assumption) hb; obtain ⟨k0, k1, k2, k3⟩ := HCB.out _ hB'; obtain ⟨c0, c1, c2, c3⟩ := HCY.out _ hB'))
            (try go_wp2_with fail)
            refine hK.out _ _ (by (try dsimp only); (first | go_keep | (refine ⟨by assumption, ?_⟩; go_keep))) (fun hHeld => ?_)
            clear hK K
            (try simp only [Act.put, List.setIfInBounds_toArray, List.set_cons_zero, List.set_cons_succ])
            (refine wpAnyH_take (i := 11) (oi := ⟨_, _, _, _, _, _⟩) (v := ?_) rfl (by kernel_rfl) (by kernel_rfl) (by kernel_rfl) (fun _ _ _ h => h) (Or.inl ⟨by rfl, ?_⟩) (by assumption) ?_; rotate_left; focus ((intro w' hSw; (try dsimp only at hSw); go_simp; (try with_reducible rfl)))); (try simp only [Act.put, List.setIfInBounds_toArray, List.set_cons_zero, List.set_cons_succ])
            refine wpAnyH_done (by kernel_rfl) ?_ _
            have HF : Hid (OwnX wq (.slice (some ⟨g, 0, none⟩) s.length cap) r ∧ Below w.heap.size w wq) := Lib.hid (by
              have hw := HWW.out wq (by assumption)
              rw [HYES.out (HSM.out.2 (by simpa using HQ.out))]
              exact ⟨HOWN.out.kept hw, hw⟩)
            go_wp2
            go_ret
            exact ⟨_, rfl, HF.out⟩
          | false =>
            refine wp_region_held_drew (S := (fun w' => Below wr.heap.size wr w' ∧ w'.cell? ⟨nb, 0, none⟩ = some (.int .i64 t.kind) ∧ w'.cell? ⟨nb, 1, none⟩ = some (.int .i64 t.num) ∧ w'.cell? ⟨nb, 2, none⟩ = some (.string t.name) ∧ w'.cell? ⟨nb, 3, none⟩ = some (.slice ta t.args.length tc) ∧ w'.cell? ⟨g, k * 4, none⟩ = some (.int .i64 y.kind) ∧ w'.cell? ⟨g, k * 4 + 1, none⟩ = some (.int .i64 y.num) ∧ w'.cell? ⟨g, k * 4 + 2, none⟩ = some (.string y.name) ∧ w'.cell? ⟨g, k * 4 + 3, none⟩ = some (.slice v1 y.args.length v2))) (by kernel_rfl) (by (try dsimp only); go_keep) (fun hHeld => ?_)
            (refine wpAnyH_take (i := 0) (oi := ⟨_, _, _, _, _, _⟩) (v := ?_) rfl (by kernel_rfl) (by kernel_rfl) (by kernel_rfl) (fun _ _ _ h => h) (Or.inl ⟨by rfl, ?_⟩) (by assumption) ?_; rotate_left; focus ((intro w' hSw; (try dsimp only at hSw); go_simp; (try with_reducible rfl)))); (try simp only [Act.put, List.setIfInBounds_toArray, List.set_cons_zero, List.set_cons_succ])
            (refine wpAnyH_take (i := 1) (oi := ⟨_, _, _, _, _, _⟩) (v := ?_) rfl (by kernel_rfl) (by kernel_rfl) (by kernel_rfl) (fun _ _ _ h => h) (Or.inl ⟨by rfl, ?_⟩) (by assumption) ?_; rotate_left; focus ((intro w' hSw; (try dsimp only at hSw); go_simp; (try with_reducible rfl)))); (try simp only [Act.put, List.setIfInBounds_toArray, List.set_cons_zero, List.set_cons_succ])
            (refine wpAnyH_take (i := 2) (oi := ⟨_, _, _, _, _, _⟩) (v := ?_) rfl (by kernel_rfl) (by kernel_rfl) (by kernel_rfl) (fun _ _ _ h => h) (Or.inl ⟨by rfl, ?_⟩) (by assumption) ?_; rotate_left; focus ((intro w' hSw; (try dsimp only at hSw); go_simp; (try with_reducible rfl)))); (try simp only [Act.put, List.setIfInBounds_toArray, List.set_cons_zero, List.set_cons_succ])
            (refine wpAnyH_take (i := 3) (oi := ⟨_, _, _, _, _, _⟩) (v := ?_) rfl (by kernel_rfl) (by kernel_rfl) (by kernel_rfl) (fun _ _ _ h => h) (Or.inl ⟨by rfl, ?_⟩) (by assumption) ?_; rotate_left; focus ((intro w' hSw; (try dsimp only at hSw); go_simp; (try with_reducible rfl)))); (try simp only [Act.put, List.setIfInBounds_toArray, List.set_cons_zero, List.set_cons_succ])
            (refine wpAnyH_take (i := 4) (oi := ⟨_, _, _, _, _, _⟩) (v := ?_) rfl (by kernel_rfl) (by kernel_rfl) (by kernel_rfl) (fun _ _ _ h => h) (Or.inl ⟨by rfl, ?_⟩) (by assumption) ?_; rotate_left; focus ((intro w' hSw; (try dsimp only at hSw); go_simp; (try with_reducible rfl)))); (try simp only [Act.put, List.setIfInBounds_toArray, List.set_cons_zero, List.set_cons_succ])
            (refine wpAnyH_take (i := 5) (oi := ⟨_, _, _, _, _, _⟩) (v := ?_) rfl (by kernel_rfl) (by kernel_rfl) (by kernel_rfl) (fun _ _ _ h => h) (Or.inl ⟨by rfl, ?_⟩) (by assumption) ?_; rotate_left; focus ((intro w' hSw; (try dsimp only at hSw); go_simp; (try with_reducible rfl)))); (try simp only [Act.put, List.setIfInBounds_toArray, List.set_cons_zero, List.set_cons_succ])
            (refine wpAnyH_take (i := 6) (oi := ⟨_, _, _, _, _, _⟩) (v := ?_) rfl (by kernel_rfl) (by kernel_rfl) (by kernel_rfl) (fun _ _ _ h => h) (Or.inl ⟨by rfl, ?_⟩) (by assumption) ?_; rotate_left; focus ((intro w' hSw; (try dsimp only at hSw); go_simp; (try with_reducible rfl)))); (try simp only [Act.put, List.setIfInBounds_toArray, List.set_cons_zero, List.set_cons_succ])
            (refine wpAnyH_take (i := 7) (oi := ⟨_, _, _, _, _, _⟩) (v := ?_) rfl (by kernel_rfl) (by kernel_rfl) (by kernel_rfl) (fun _ _ _ h => h) (Or.inl ⟨by rfl, ?_⟩) (by assumption) ?_; rotate_left; focus ((intro w' hSw; (try dsimp only at hSw); go_simp; (try with_reducible rfl)))); (try simp only [Act.put, List.setIfInBounds_toArray, List.set_cons_zero, List.set_cons_succ])
            (refine wpAnyH_take (i := 8) (oi := ⟨_, _, _, _, _, _⟩) (v := ?_) rfl (by kernel_rfl) (by kernel_rfl) (by kernel_rfl) (fun _ _ _ h => h) (Or.inl ⟨by rfl, ?_⟩) (by assumption) ?_; rotate_left; focus ((intro w' hSw; (try dsimp only at hSw); go_simp; (try with_reducible rfl)))); (try simp only [Act.put, List.setIfInBounds_toArray, List.set_cons_zero, List.set_cons_succ])
            (refine wpAnyH_take (i := 9) (oi := ⟨_, _, _, _, _, _⟩) (v := ?_) rfl (by kernel_rfl) (by kernel_rfl) (by kernel_rfl) (fun _ _ _ h => h) (Or.inl ⟨by rfl, ?_⟩) (by assumption) ?_; rotate_left; focus ((intro w' hSw; (try dsimp only at hSw); go_simp; (try with_reducible rfl)))); (try simp only [Act.put, List.setIfInBounds_toArray, List.set_cons_zero, List.set_cons_succ])
            refine wpAnyH_ready (rs := [10]) (by kernel_rfl) (by simp) ?_
            refine AllReadyH.cons (o := ⟨_, _, _, _, _, _⟩) rfl (fun K hK => ?_) AllReadyH.nil
            go_simp
            (first | (go_at_call 92; (with_reducible refine Calls.mono (HC1.out _ ?_) ?_); (assumption); rintro e wq ⟨rfl, hb⟩; have hB' := HTR.out _ _ (by assumption) hb; obtain ⟨k0, k1, k2, k3⟩ := HCB.out _ hB'; obtain ⟨c0, c1, c2, c3⟩ := HCY.out _ hB'))
            (try go_wp2_with fail)
            refine hK.out _ _ (by (try dsimp only); (first | go_keep | (refine ⟨by assumption, ?_⟩; go_keep))) (fun hHeld => ?_)
            clear hK K
            (try simp only [Act.put, List.setIfInBounds_toArray, List.set_cons_zero, List.set_cons_succ])
            (refine wpAnyH_take (i := 11) (oi := ⟨_, _, _, _, _, _⟩) (v := ?_) rfl (by kernel_rfl) (by kernel_rfl) (by kernel_rfl) (fun _ _ _ h => h) (Or.inl ⟨by rfl, ?_⟩) (by assumption) ?_; rotate_left; focus ((intro w' hSw; (try dsimp only at hSw); go_simp; (try with_reducible rfl)))); (try simp only [Act.put, List.setIfInBounds_toArray, List.set_cons_zero, List.set_cons_succ])
            refine wpAnyH_done (by kernel_rfl) ?_ _
            replace HWQ : Hid (Below w.heap.size w wq) := Lib.hid (HWW.out wq (by assumption))
            replace HBQ := Lib.hid (HBQ.out.read (show Below wr.heap.size wr wq by assumption))
            have HNM : Hid (¬ t ∈ s) := Lib.hid fun hm => by
              have h1 := HSM.out.1 hm
              have h2 := HQ.out
              rw [h1] at h2
              cases h2
            clear hself hdrew HTR HCB e0 e1 e2 e3 hHeld g2 g2n HWW HCY HC1 HSM HQ c0 c1 c2 c3 k0 k1 k2 k3 hB' hb m3 m4
            go_upto_region 6 with (fail)
            have HRES := Lib.hid (HINS.out k HNM.out HAT.out)
            have HLK : Hid (L.length = s.length) := Lib.hid HLN.out.symm
            have hz1 : w.heap.size + 1 ≤ wq.heap.size := by have := HBQ.out.le; have := HNB.out; omega
            have HRS := Lib.hid (rowX_start (E := tmE) (e := 46) (w := wq) (lo := w.heap.size + 1) hz1)
            have HWA : Hid (Below w.heap.size w (wq.alloc (.cells #[] 46))) := Lib.hid (HWQ.out.alloc (by omega) _)
            have HBA := Lib.hid (HBQ.out.read (belowAlloc (Below.refl _ _) (.cells #[] 46)))
            have HONE : Hid (∀ (M : List (Tm × Value)), (∀ p ∈ M, p ∈ L) → ∀ u ∈ cellsE tmE M, u.oneCell' = true) := Lib.hid fun M hM => tm_one (w := w) (Z := fun k => k < w.heap.size) fun j p hj => by
              obtain ⟨i, hi⟩ := List.getElem?_of_mem (hM p (List.mem_of_getElem? hj))
              exact HKID.out i p hi
            have HKM : Hid (∀ (W : World), Below w.heap.size w W → ∀ (M : List (Tm × Value)), (∀ p ∈ M, p ∈ L) → ∀ (j : Nat) (p : Tm × Value), M[j]? = some p → tmE.kid W (fun b => b < w.heap.size + 1) p.2 p.1) := Lib.hid fun W hW M hM j p hj => by
              obtain ⟨i, hi⟩ := List.getElem?_of_mem (hM p (List.mem_of_getElem? hj))
              exact ((HKID.out i p hi).frame hW.size fun k hk _ => hW.block k hk).sub fun k hk => Nat.lt_succ_of_lt hk
            have HTC : Hid (∀ (W : World), Below w.heap.size w W → ∀ (j : Nat) (u : Value), (cellsE tmE (L.take k))[j]? = some u → W.cell? ((⟨g, 0, none⟩ : Addr).add j) = some u) := Lib.hid fun W hW j u hj => by
              rw [addr_add, Nat.zero_add]
              refine HCELL.out W hW j u ?_
              rw [← List.take_append_drop k L, cellsE_append, List.getElem?_append_left (List.getElem?_eq_some_iff.1 hj).1]
              exact hj
            have HDC : Hid (∀ (W : World), Below w.heap.size w W → ∀ (j : Nat) (u : Value), (cellsE tmE (L.drop k))[j]? = some u → W.cell? ((⟨g, k * 4, none⟩ : Addr).add j) = some u) := Lib.hid fun W hW j u hj => by
              rw [addr_add]
              refine HCELL.out W hW _ u ?_
              have hlk : (cellsE tmE (L.take k)).length = k * 4 := by rw [cellsE_length, List.length_take, show min k L.length = k from by have := HLK.out; omega]; rfl
              rw [← List.take_append_drop k L, cellsE_append, List.getElem?_append_right (by rw [hlk]; omega), hlk, Nat.add_sub_cancel_left]
              exact hj
            have HEND2 : Hid (∀ v W, RowX tmE 46 W (w.heap.size + 1) v ((([] ++ (L.take k).map Prod.fst) ++ [(t, Value.slice ta t.args.length tc)].map Prod.fst) ++ (L.drop k).map Prod.fst) → RowX tmE 46 W (w.heap.size + 1) v r) := Lib.hid fun v W h => by
              rw [HRES.out]
              have e : (L.take k).map Prod.fst ++ t :: (L.drop k).map Prod.fst = (([] ++ (L.take k).map Prod.fst) ++ [(t, Value.slice ta t.args.length tc)].map Prod.fst) ++ (L.drop k).map Prod.fst := by simp
              rw [e]; exact h
            have hKI : (k : Int) ≤ (s.length : Int) := by omega
            have hKC : (k : Int) ≤ (cap : Int) := by omega
            have hK0 : (0 : Int) ≤ (k : Int) := by omega
            have hcI : (0 : Int) ≤ (cap : Int) := by omega
            have HZQ := Lib.hid hz1
            clear hz1 HINS HRES HATP HHAS HEL HYES HOWN
            go_upto_region 7 with (at_builtin; refine append_rowX rfl _ _ 35 rfl tmE (w.heap.size + 1) 46 i0 _ 56 Try.underlying35 HII.out.1 HII.out.2.1 HII.out.2.2.1 HII.out.2.2.2 rfl (by omega) _ _ rfl HRS.out (some ⟨g, 0, none⟩) k cap rfl (L.take k) (by have := HLK.out; rw [List.length_take]; omega) (fun h => by cases h) (fun ad h j u hj => by cases h; exact HTC.out _ HWA.out j u hj) (HONE.out _ fun p hp => List.mem_of_mem_take hp) (HKM.out _ HWA.out _ fun p hp => List.mem_of_mem_take hp) (by simp; omega) (by have := HZQ.out; simp at this ⊢; omega) ?_; intro v21 w21 hown21 hb21; have HO21 := Lib.hid hown21; have HX21 := Lib.hid hb21; clear hown21 hb21)
            have HW21 : Hid (Below w.heap.size w w21) := Lib.hid (HWA.out.trans (HX21.out.mono (Nat.le_succ _)))
            have HB21 := Lib.hid (HBA.out.of_below HX21.out (by have := HNB.out; omega))
            obtain ⟨q0, q1, q2, q3⟩ := HB21.out.cells
            have HR21 := Lib.hid (HO21.out.kept (belowAlloc (Below.refl _ _) (.cells #[.int .i64 t.kind, .int .i64 t.num, .string t.name, .slice ta t.args.length tc] 46)))
            have HWB : Hid (Below w.heap.size w (w21.alloc (.cells #[.int .i64 t.kind, .int .i64 t.num, .string t.name, .slice ta t.args.length tc] 46))) := Lib.hid (HW21.out.alloc HW21.out.size _)
            have HBB := Lib.hid (HB21.out.read (belowAlloc (Below.refl _ _) (.cells #[.int .i64 t.kind, .int .i64 t.num, .string t.name, .slice ta t.args.length tc] 46)))
            have HL21 : Hid (([] ++ (L.take k).map Prod.fst : List Tm).length ≤ 1048576) := Lib.hid (by rw [List.nil_append, List.length_map, List.length_take]; omega)
            have HZ21 : Hid (w.heap.size + 1 ≤ w21.heap.size) := Lib.hid (by have := HZQ.out; have := HX21.out.size; simp at this; omega)
            clear HRS HX21 HWA HBA HTC
            go_upto_region 8 with (at_builtin; refine append_rowX rfl _ _ 35 rfl tmE (w.heap.size + 1) 46 i0 _ 56 Try.underlying35 HII.out.1 HII.out.2.1 HII.out.2.2.1 HII.out.2.2.2 rfl (by omega) v21 _ rfl HR21.out (some ⟨w21.heap.size, 0, none⟩) 1 1 rfl [(t, Value.slice ta t.args.length tc)] rfl (fun h => by cases h) (fun ad h j u hj => by cases h; rw [cellsE_one] at hj; exact World.news_of_block (heap_alloc_new w21 _) j u hj) (tm_one (w := w) (Z := fun k => k < w.heap.size) fun j p hj => by (match j, hj with | 0, hj => (simp at hj; subst hj; exact HBK.out))) (fun j p hj => by (match j, hj with | 0, hj => (simp at hj; subst hj; exact (HBK.out.frame HWB.out.size fun k hk _ => HWB.out.block k hk).sub fun k hk => Nat.lt_succ_of_lt hk))) (by have := HL21.out; omega) (by have := HZ21.out; simp; omega) ?_; intro v22 w22 hown22 hb22; have HO22 := Lib.hid hown22; have HX22 := Lib.hid hb22; clear hown22 hb22)
            have HW22 : Hid (Below w.heap.size w w22) := Lib.hid (HWB.out.trans (HX22.out.mono (Nat.le_succ _)))
            have HL22 : Hid ((([] ++ (L.take k).map Prod.fst) ++ [(t, Value.slice ta t.args.length tc)].map Prod.fst : List Tm).length ≤ 1048577) := Lib.hid (by have := HL21.out; rw [List.length_append]; exact Nat.succ_le_succ this)
            have HZ22 : Hid (w.heap.size + 1 ≤ w22.heap.size) := Lib.hid (by have := HZ21.out; have := HX22.out.size; simp at this; omega)
            clear HR21 HX22 HWB HBB q0 q1 q2 q3
            have hck : ¬ cap = k := by omega
            have hck2 : ¬ k = cap := by omega
            have hck3 : ¬ (k : Int) = (cap : Int) := by omega
            go_wp2_with (at_builtin; refine append_rowX rfl _ _ 35 rfl tmE (w.heap.size + 1) 46 i0 _ 56 Try.underlying35 HII.out.1 HII.out.2.1 HII.out.2.2.1 HII.out.2.2.2 rfl (by omega) v22 _ rfl HO22.out _ _ _ rfl (L.drop k) (by have := HLK.out; rw [List.length_drop]; omega) (fun h => by cases h) (fun ad h j u hj => by cases h; exact HDC.out _ HW22.out j u hj) (HONE.out _ fun p hp => List.mem_of_mem_drop hp) (HKM.out _ HW22.out _ fun p hp => List.mem_of_mem_drop hp) (by have h1 := HL22.out; omega) HZ22.out ?_; intro v23 w23 hown23 hb23; have HO23 := Lib.hid hown23; have HX23 := Lib.hid hb23; clear hown23 hb23)
            go_wp2
            go_ret
            exact ⟨_, rfl, ⟨w.heap.size + 1, Nat.le_trans HZ22.out HX23.out.size, HEND2.out _ _ HO23.out⟩, HW22.out.trans (HX23.out.mono (Nat.le_succ _))⟩
      · have g1 : decide (0 ≤ c) = true := decide_eq_true (by omega)
        have HSN : Hid (FromT s t j) := Lib.hid fun x hx => by (cases hx.symm.trans HY.out; have := HCC.out; omega)
        clear hd
        refine wp_region_held_drew (S := (fun w' => Below wr.heap.size wr w' ∧ w'.cell? ⟨nb, 0, none⟩ = some (.int .i64 t.kind) ∧ w'.cell? ⟨nb, 1, none⟩ = some (.int .i64 t.num) ∧ w'.cell? ⟨nb, 2, none⟩ = some (.string t.name) ∧ w'.cell? ⟨nb, 3, none⟩ = some (.slice ta t.args.length tc) ∧ w'.cell? ⟨g, j * 4, none⟩ = some (.int .i64 y.kind) ∧ w'.cell? ⟨g, j * 4 + 1, none⟩ = some (.int .i64 y.num) ∧ w'.cell? ⟨g, j * 4 + 2, none⟩ = some (.string y.name) ∧ w'.cell? ⟨g, j * 4 + 3, none⟩ = some (.slice v1 y.args.length v2))) (by kernel_rfl) (by (try dsimp only); go_keep) (fun hHeld => ?_)
        (refine wpAnyH_take (i := 0) (oi := ⟨_, _, _, _, _, _⟩) (v := ?_) rfl (by kernel_rfl) (by kernel_rfl) (by kernel_rfl) (fun _ _ _ h => h) (Or.inl ⟨by rfl, ?_⟩) (by assumption) ?_; rotate_left; focus ((intro w' hSw; (try dsimp only at hSw); go_simp; (try with_reducible rfl)))); (try simp only [Act.put, List.setIfInBounds_toArray, List.set_cons_zero, List.set_cons_succ])
        (refine wpAnyH_take (i := 1) (oi := ⟨_, _, _, _, _, _⟩) (v := ?_) rfl (by kernel_rfl) (by kernel_rfl) (by kernel_rfl) (fun _ _ _ h => h) (Or.inl ⟨by rfl, ?_⟩) (by assumption) ?_; rotate_left; focus ((intro w' hSw; (try dsimp only at hSw); go_simp; (try with_reducible rfl)))); (try simp only [Act.put, List.setIfInBounds_toArray, List.set_cons_zero, List.set_cons_succ])
        (refine wpAnyH_take (i := 2) (oi := ⟨_, _, _, _, _, _⟩) (v := ?_) rfl (by kernel_rfl) (by kernel_rfl) (by kernel_rfl) (fun _ _ _ h => h) (Or.inl ⟨by rfl, ?_⟩) (by assumption) ?_; rotate_left; focus ((intro w' hSw; (try dsimp only at hSw); go_simp; (try with_reducible rfl)))); (try simp only [Act.put, List.setIfInBounds_toArray, List.set_cons_zero, List.set_cons_succ])
        (refine wpAnyH_take (i := 3) (oi := ⟨_, _, _, _, _, _⟩) (v := ?_) rfl (by kernel_rfl) (by kernel_rfl) (by kernel_rfl) (fun _ _ _ h => h) (Or.inl ⟨by rfl, ?_⟩) (by assumption) ?_; rotate_left; focus ((intro w' hSw; (try dsimp only at hSw); go_simp; (try with_reducible rfl)))); (try simp only [Act.put, List.setIfInBounds_toArray, List.set_cons_zero, List.set_cons_succ])
        (refine wpAnyH_take (i := 4) (oi := ⟨_, _, _, _, _, _⟩) (v := ?_) rfl (by kernel_rfl) (by kernel_rfl) (by kernel_rfl) (fun _ _ _ h => h) (Or.inl ⟨by rfl, ?_⟩) (by assumption) ?_; rotate_left; focus ((intro w' hSw; (try dsimp only at hSw); go_simp; (try with_reducible rfl)))); (try simp only [Act.put, List.setIfInBounds_toArray, List.set_cons_zero, List.set_cons_succ])
        (refine wpAnyH_take (i := 5) (oi := ⟨_, _, _, _, _, _⟩) (v := ?_) rfl (by kernel_rfl) (by kernel_rfl) (by kernel_rfl) (fun _ _ _ h => h) (Or.inl ⟨by rfl, ?_⟩) (by assumption) ?_; rotate_left; focus ((intro w' hSw; (try dsimp only at hSw); go_simp; (try with_reducible rfl)))); (try simp only [Act.put, List.setIfInBounds_toArray, List.set_cons_zero, List.set_cons_succ])
        (refine wpAnyH_take (i := 6) (oi := ⟨_, _, _, _, _, _⟩) (v := ?_) rfl (by kernel_rfl) (by kernel_rfl) (by kernel_rfl) (fun _ _ _ h => h) (Or.inl ⟨by rfl, ?_⟩) (by assumption) ?_; rotate_left; focus ((intro w' hSw; (try dsimp only at hSw); go_simp; (try with_reducible rfl)))); (try simp only [Act.put, List.setIfInBounds_toArray, List.set_cons_zero, List.set_cons_succ])
        (refine wpAnyH_take (i := 7) (oi := ⟨_, _, _, _, _, _⟩) (v := ?_) rfl (by kernel_rfl) (by kernel_rfl) (by kernel_rfl) (fun _ _ _ h => h) (Or.inl ⟨by rfl, ?_⟩) (by assumption) ?_; rotate_left; focus ((intro w' hSw; (try dsimp only at hSw); go_simp; (try with_reducible rfl)))); (try simp only [Act.put, List.setIfInBounds_toArray, List.set_cons_zero, List.set_cons_succ])
        (refine wpAnyH_take (i := 8) (oi := ⟨_, _, _, _, _, _⟩) (v := ?_) rfl (by kernel_rfl) (by kernel_rfl) (by kernel_rfl) (fun _ _ _ h => h) (Or.inl ⟨by rfl, ?_⟩) (by assumption) ?_; rotate_left; focus ((intro w' hSw; (try dsimp only at hSw); go_simp; (try with_reducible rfl)))); (try simp only [Act.put, List.setIfInBounds_toArray, List.set_cons_zero, List.set_cons_succ])
        refine wpAnyH_ready (rs := [9]) (by kernel_rfl) (by simp) ?_
        refine AllReadyH.cons (o := ⟨_, _, _, _, _, _⟩) rfl (fun K hK => ?_) AllReadyH.nil
        go_simp
        (first | (go_at_call 127; (with_reducible refine Calls.mono (HC1.out _ ?_) ?_); (assumption); rintro e wq ⟨rfl, hb⟩; have hB' := HTR.out _ _ (by assumption) hb; obtain ⟨k0, k1, k2, k3⟩ := HCB.out _ hB'; obtain ⟨c0, c1, c2, c3⟩ := HCY.out _ hB'))
        (try go_wp2_with fail)
        refine hK.out _ _ (by (try dsimp only); (first | go_keep | (refine ⟨by assumption, ?_⟩; go_keep))) (fun hHeld => ?_)
        clear hK K
        (try simp only [Act.put, List.setIfInBounds_toArray, List.set_cons_zero, List.set_cons_succ])
        (refine wpAnyH_take (i := 10) (oi := ⟨_, _, _, _, _, _⟩) (v := ?_) rfl (by kernel_rfl) (by kernel_rfl) (by kernel_rfl) (fun _ _ _ h => h) (Or.inl ⟨by rfl, ?_⟩) (by assumption) ?_; rotate_left; focus ((intro w' hSw; (try dsimp only at hSw); go_simp; (try with_reducible rfl)))); (try simp only [Act.put, List.setIfInBounds_toArray, List.set_cons_zero, List.set_cons_succ])
        (refine wpAnyH_take (i := 11) (oi := ⟨_, _, _, _, _, _⟩) (v := ?_) rfl (by kernel_rfl) (by kernel_rfl) (by kernel_rfl) (fun _ _ _ h => h) (Or.inl ⟨by rfl, ?_⟩) (by assumption) ?_; rotate_left; focus ((intro w' hSw; (try dsimp only at hSw); go_simp; (try with_reducible rfl)))); (try simp only [Act.put, List.setIfInBounds_toArray, List.set_cons_zero, List.set_cons_succ])
        refine wpAnyH_done (by kernel_rfl) ?_ _
        have HWF := Lib.hid (HEND.out wq (by assumption))
        clear g0 g0n g1 m1
        have hkj : (k : Int) = (j : Int) + 1 := by have := HKJ.out; omega
        have HKI := Lib.hid hkj
        clear hkj
        go_wp2
        go_roundw
        case rel => exact ⟨j, hjk, by have := HKI.out; go_num, HSN, HWF⟩
        case measure => have := HKI.out; simp [intOf]; omega
end Go.Proofs.Ytjpkkhhcpcokaaa

