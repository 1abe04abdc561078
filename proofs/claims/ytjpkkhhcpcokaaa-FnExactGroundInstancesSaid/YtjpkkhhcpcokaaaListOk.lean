/-
  The model's l02AllOk; lists as terms: plain.
-/
import Derived.Test.YtjpkkhhcpcokaaaPuts
namespace Go.Proofs.Ytjpkkhhcpcokaaa
open Go.RowKit
set_option linter.unusedVariables false
set_option linter.unusedSimpArgs false

theorem sz_in {l : List Tm} {k : Nat} {x : Tm} (h : l[k]? = some x) : x.sz ≤ szL l := by
  have := sz_at h
  omega

set_option maxRecDepth 100000 in
set_option maxHeartbeats 1600000 in
theorem specAllOk_b (l : List Tm) (V : Value) (w : World) (hA : ArgsAt w V l) (hZ : szL l ≤ 1048577) :
    Calls Try.prog 63 #[V] w fun e w' => e = .returned (.bool (l.all okB)) ∧ Below w.heap.size w w' := by
  obtain ⟨a, cap, rfl⟩ := hA.slice
  have hL : l.length ≤ 1048577 := by have := length_szL l; omega
  have HA := Lib.hid hA
  clear hA
  go_enter Try.func63, Try.ntmps63
  go_wp2
  go_loopw [7] (fun i wr => ∃ k : Nat, k ≤ l.length ∧ i = .int .i64 k ∧ Hid (l.all okB = (l.drop k).all okB) ∧ Hid (Below w.heap.size w wr)) (fun i _ => l.length - (intOf i).toNat)
  case atStart => exact ⟨0, Nat.zero_le _, rfl, Lib.hid rfl, Lib.hid (Below.refl _ _)⟩
  case round =>
    obtain ⟨k, hk, rfl, HO, HB⟩ := hrel
    by_cases hlt : k < l.length
    · obtain ⟨x, hx⟩ : ∃ x, l[k]? = some x := ⟨_, List.getElem?_eq_getElem hlt⟩
      have HS := Lib.hid (sz_at hx)
      have hd : l.drop k = x :: l.drop (k + 1) := by
        rw [List.drop_eq_getElem_cons hlt]
        congr 1
        exact Option.some.inj ((List.getElem?_eq_getElem hlt).symm.trans hx)
      have HO2 : Hid (l.all okB = (okB x && (l.drop (k + 1)).all okB)) := Lib.hid (by rw [HO.out, hd, List.all_cons])
      obtain ⟨g, off, u1', u2', rfl, hg, hq, hc, hch⟩ := HA.out.elem hx
      clear hq hd HO
      obtain ⟨d0, d1, d2, d3⟩ := hc _ HB.out
      have hgw : g < wr.heap.size := Nat.lt_of_lt_of_le hg HB.out.size
      have hal : Below wr.heap.size wr (wr.alloc (.cells #[.int .i64 x.kind, .int .i64 x.num, .string x.name, .slice u1' x.args.length u2'] 46)) := (Below.refl _ _).alloc (Nat.le_refl _) _
      have HAL := Lib.hid (belowOn HB.out (Nat.le_refl _) hal)
      have HCALL := Lib.hid (specTermOk_any x _ _ (hch.kept HAL.out) (by have := HS.out; omega))
      clear hc hch hx hal
      go_wp2_with fail
      refine HCALL.out.mono ?_
      rintro e w2 ⟨rfl, hb2⟩
      have HB2 := Lib.hid (belowOn HAL.out (Nat.le_refl _) hb2)
      have hsz2 := hb2.size
      clear hb2 HCALL d0 d1 d2 d3
      simp only [World.size_alloc] at hsz2
      cases hok : okB x with
      | false =>
        have HR : Hid (l.all okB = false) := Lib.hid (by rw [HO2.out, hok]; rfl)
        clear hok
        go_wp2
        go_ret
        exact ⟨by rw [HR.out]; rfl, HB2.out⟩
      | true =>
        have HR : Hid (l.all okB = (l.drop (k + 1)).all okB) := Lib.hid (by rw [HO2.out, hok]; rfl)
        clear hok
        go_wp2
        go_roundw
        case rel => exact ⟨k + 1, by omega, by go_num, HR, HB2⟩
        case measure => simp [intOf]; omega
    · have HR : Hid (l.all okB = true) := Lib.hid (by rw [HO.out, List.drop_eq_nil_of_le (by omega)]; rfl)
      go_wp2
      go_ret
      exact ⟨by rw [HR.out]; rfl, HB.out⟩
theorem specAllOk_any (l : List Tm) (V : Value) (w : World) (hA : ArgsAt w V l) (hZ : szL l ≤ 1048576) :
    Calls Try.prog 63 #[V] w fun e w' => e = .returned (.bool (l.all okB)) ∧ Below w.heap.size w w' := specAllOk_b l V w hA (Nat.le_succ_of_le hZ)

/-- A list's term. -/
def listT : List Tm → Tm → Tm | [], t => t | x :: l, t => .mk 4 0 ⟨#[]⟩ [x, listT l t]
theorem listT_nil (t : Tm) : listT [] t = t := rfl
theorem listT_cons (x : Tm) (l : List Tm) (t : Tm) : listT (x :: l) t = .mk 4 0 ⟨#[]⟩ [x, listT l t] := rfl
theorem listT_nodes (l : List Tm) (t : Tm) : (listT l t).nodes = l.length + nodesL l + t.nodes := by
  induction l with
  | nil => simp [listT, nodesL]
  | cons x l ih => rw [listT, nodes_two, ih, nodesL, List.length_cons]; omega
theorem listT_good {l : List Tm} {t : Tm} (hl : ∀ x ∈ l, Good x) (ht : Good t) : Good (listT l t) := by
  induction l with
  | nil => exact ht
  | cons x l ih => exact .pair _ _ (hl x (by simp)) (ih fun y hy => hl y (by simp [hy]))
theorem listT_sz (l : List Tm) (t : Tm) : (listT l t).sz ≤ 13 * l.length + szL l + t.sz := by
  induction l with
  | nil => simp [listT, szL]
  | cons x l ih =>
    have e : (⟨#[]⟩ : ByteArray).size = 0 := rfl
    simp only [listT, Tm.sz, szL, List.length_cons, e]
    omega
end Go.Proofs.Ytjpkkhhcpcokaaa

