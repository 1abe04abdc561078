/-
  Lists of terms, each of a size of its own: what can be said of them however long they are together.
-/
import Derived.Test.YtjpkkhhcpcokaaaListOk
import Derived.Test.YtjpkkhhcpcokaaaLaws
namespace Go.Proofs.Ytjpkkhhcpcokaaa
open Go.RowKit
set_option linter.unusedVariables false
set_option linter.unusedSimpArgs false

def EachT (l : List Tm) : Prop := l.length ≤ 1048577 ∧ ∀ t ∈ l, t.sz ≤ 1048576
theorem eachT_of {l : List Tm} (h : szL l ≤ 1048577) : EachT l := ⟨by have := length_szL l; omega, fun t ht => by
  obtain ⟨j, hj⟩ := List.getElem?_of_mem ht
  have := sz_at hj
  omega⟩
theorem EachT.at {l : List Tm} (h : EachT l) {j : Nat} {t : Tm} (hj : l[j]? = some t) : t.sz ≤ 1048576 := h.2 t (List.mem_of_getElem? hj)
theorem eachT_one {t : Tm} (h : t.sz ≤ 1048576) : EachT [t] := ⟨by simp, fun u hu => by rw [List.mem_singleton.1 hu]; exact h⟩

set_option maxHeartbeats 400000 in
theorem eqTermE_any (l : List Tm) (V V' : Value) (w : World) (hA : ArgsAt w V l) (hA' : ArgsAt w V' l) (hE : EachT l) :
    Calls Try.prog 19 #[V, V'] w (Yes w) := by
  obtain ⟨a, cap, rfl⟩ := hA.slice
  obtain ⟨a', cap', rfl⟩ := hA'.slice
  have HA := Lib.hid hA
  have HA' := Lib.hid hA'
  have HE := Lib.hid hE
  have hL := hE.1
  clear hA hA'
  go_enter Try.func19, Try.ntmps19
  go_wp2
  go_loopw [5] (fun i wr => ∃ k : Nat, k ≤ l.length ∧ i = .int .i64 k ∧ Below w.heap.size w wr) (fun i _ => l.length - (intOf i).toNat)
  case atStart => exact ⟨0, Nat.zero_le _, rfl, Below.refl _ _⟩
  case round =>
    obtain ⟨k, hk, rfl, hb⟩ := hrel
    have HB := Lib.hid hb
    clear hb
    by_cases hlt : k < l.length
    · obtain ⟨t, ht⟩ : ∃ t, l[k]? = some t := ⟨_, List.getElem?_eq_getElem hlt⟩
      obtain ⟨g, off, cap1, V, hv, hg, hc, hch⟩ := HA.out.parts (by intro e; subst e; simp at hlt)
      obtain ⟨g', off', cap2, V', hv', hg', hc', hch'⟩ := HA'.out.parts (by intro e; subst e; simp at hlt)
      simp only [Value.slice.injEq, true_and] at hv hv'
      obtain ⟨rfl, rfl⟩ := hv
      obtain ⟨rfl, rfl⟩ := hv'
      obtain ⟨c0, c1, c2, c3⟩ := hc k t ht
      obtain ⟨c0', c1', c2', c3'⟩ := hc' k t ht
      have HCE : Hid (∀ W, Below wr.heap.size wr W → W.cell? ⟨g, off + k * 4, none⟩ = some (.int .i64 t.kind) ∧ W.cell? ⟨g, off + k * 4 + 1, none⟩ = some (.int .i64 t.num) ∧ W.cell? ⟨g, off + k * 4 + 2, none⟩ = some (.string t.name) ∧ W.cell? ⟨g, off + k * 4 + 3, none⟩ = some (V k) ∧
          W.cell? ⟨g', off' + k * 4, none⟩ = some (.int .i64 t.kind) ∧ W.cell? ⟨g', off' + k * 4 + 1, none⟩ = some (.int .i64 t.num) ∧ W.cell? ⟨g', off' + k * 4 + 2, none⟩ = some (.string t.name) ∧ W.cell? ⟨g', off' + k * 4 + 3, none⟩ = some (V' k)) := Lib.hid fun W bW => by
        have hb := HB.out.trans (bW.mono HB.out.size)
        exact ⟨(hb.cell (p := ⟨g, off + k * 4, none⟩) hg).trans c0, (hb.cell (p := ⟨g, off + k * 4 + 1, none⟩) hg).trans c1, (hb.cell (p := ⟨g, off + k * 4 + 2, none⟩) hg).trans c2, (hb.cell (p := ⟨g, off + k * 4 + 3, none⟩) hg).trans c3,
          (hb.cell (p := ⟨g', off' + k * 4, none⟩) hg').trans c0', (hb.cell (p := ⟨g', off' + k * 4 + 1, none⟩) hg').trans c1', (hb.cell (p := ⟨g', off' + k * 4 + 2, none⟩) hg').trans c2', (hb.cell (p := ⟨g', off' + k * 4 + 3, none⟩) hg').trans c3'⟩
      have HEQ : Hid (∀ W, Below wr.heap.size wr W → Calls Try.prog 26 #[.agg #[.int .i64 t.kind, .int .i64 t.num, .string t.name, V k], .agg #[.int .i64 t.kind, .int .i64 t.num, .string t.name, V' k]] W (Yes W)) := Lib.hid fun W bW => by
        have hb := HB.out.trans (bW.mono HB.out.size)
        exact eqTerm_any t _ _ W ((hch k t ht).kept hb) ((hch' k t ht).kept hb) (HE.out.2 t (List.mem_of_getElem? ht))
      clear hc hc' hch hch' c0 c1 c2 c3 c0' c1' c2' c3' ht
      have hb0 : Below wr.heap.size wr wr := Below.refl _ _
      have hbd : Below wr.heap.size wr wr.drew := hb0.drew
      obtain ⟨d0, d1, d2, d3, d0', d1', d2', d3'⟩ := HCE.out wr hb0
      have HTR : Hid (∀ a b, Below wr.heap.size wr a → Below a.heap.size a b → Below wr.heap.size wr b) := Lib.hid fun a b h1 h2 => h1.trans (h2.mono h1.size)
      generalize t.kind = tk at HCE HEQ d0 d0'
      generalize t.num = ti at HCE HEQ d1 d1'
      generalize t.name = ts at HCE HEQ d2 d2'
      generalize V k = tv at HCE HEQ d3
      generalize V' k = tv' at HCE HEQ d3'
      go_wp2_with fail
      go_region_held3 (fun w' => Below wr.heap.size wr w' ∧ w'.cell? ⟨g, off + k * 4, none⟩ = some (.int .i64 tk) ∧ w'.cell? ⟨g, off + k * 4 + 1, none⟩ = some (.int .i64 ti) ∧ w'.cell? ⟨g, off + k * 4 + 2, none⟩ = some (.string ts) ∧ w'.cell? ⟨g, off + k * 4 + 3, none⟩ = some tv ∧
          w'.cell? ⟨g', off' + k * 4, none⟩ = some (.int .i64 tk) ∧ w'.cell? ⟨g', off' + k * 4 + 1, none⟩ = some (.int .i64 ti) ∧ w'.cell? ⟨g', off' + k * 4 + 2, none⟩ = some (.string ts) ∧ w'.cell? ⟨g', off' + k * 4 + 3, none⟩ = some tv') (go_keep)
        (first
          | (go_at_call 26; refine Calls.mono (HEQ.out _ ?_) ?_; (assumption); rintro e w' ⟨rfl, hb⟩; have hB' := HTR.out _ _ (by assumption) hb; obtain ⟨k0, k1, k2, k3, k4, k5, k6, k7⟩ := HCE.out _ hB'))
      all_goals (go_wp2; go_roundw; (case rel => exact ⟨k + 1, by omega, by go_num, HB.out.trans ((by assumption : Below wr.heap.size wr _).mono HB.out.size)⟩); (case measure => simp [intOf]; omega))
    · go_wp2
      go_ret
      exact ⟨rfl, HB.out⟩

set_option maxRecDepth 100000 in
set_option maxHeartbeats 1600000 in
theorem specAllOk_e (l : List Tm) (V : Value) (w : World) (hA : ArgsAt w V l) (hE : EachT l) :
    Calls Try.prog 63 #[V] w fun e w' => e = .returned (.bool (l.all okB)) ∧ Below w.heap.size w w' := by
  obtain ⟨a, cap, rfl⟩ := hA.slice
  have hL : l.length ≤ 1048577 := hE.1
  have HE := Lib.hid hE
  have HA := Lib.hid hA
  clear hA
  go_enter Try.func63, Try.ntmps63
  go_wp2
  go_loopw [7] (fun i wr => ∃ k : Nat, k ≤ l.length ∧ i = .int .i64 k ∧ Hid (l.all okB = (l.drop k).all okB) ∧ Hid (Below w.heap.size w wr)) (fun i _ => l.length - (intOf i).toNat)
  case atStart => exact ⟨0, Nat.zero_le _, rfl, Lib.hid rfl, Lib.hid (Below.refl _ _)⟩
  case round =>
    obtain ⟨k, hk, rfl, HO, HB⟩ := hrel
    by_cases hlt : k < l.length
    · obtain ⟨x, hx⟩ : ∃ x, l[k]? = some x := ⟨_, List.getElem?_eq_getElem hlt⟩
      have HS := Lib.hid (HE.out.at hx)
      have hd : l.drop k = x :: l.drop (k + 1) := by
        rw [List.drop_eq_getElem_cons hlt]
        congr 1
        exact Option.some.inj ((List.getElem?_eq_getElem hlt).symm.trans hx)
      have HO2 : Hid (l.all okB = (okB x && (l.drop (k + 1)).all okB)) := Lib.hid (by rw [HO.out, hd, List.all_cons])
      obtain ⟨g, off, u1', u2', rfl, hg, hq, hc, hch⟩ := HA.out.elem hx
      clear hq hd HO
      obtain ⟨d0, d1, d2, d3⟩ := hc _ HB.out
      have hgw : g < wr.heap.size := Nat.lt_of_lt_of_le hg HB.out.size
      have hal : Below wr.heap.size wr (wr.alloc (.cells #[.int .i64 x.kind, .int .i64 x.num, .string x.name, .slice u1' x.args.length u2'] 46)) := (Below.refl _ _).alloc (Nat.le_refl _) _
      have HAL := Lib.hid (belowOn HB.out (Nat.le_refl _) hal)
      have HCALL := Lib.hid (specTermOk_any x _ _ (hch.kept HAL.out) HS.out)
      clear hc hch hx hal
      go_wp2_with fail
      refine HCALL.out.mono ?_
      rintro e w2 ⟨rfl, hb2⟩
      have HB2 := Lib.hid (belowOn HAL.out (Nat.le_refl _) hb2)
      have hsz2 := hb2.size
      clear hb2 HCALL d0 d1 d2 d3
      simp only [World.size_alloc] at hsz2
      cases hok : okB x with
      | false =>
        have HR : Hid (l.all okB = false) := Lib.hid (by rw [HO2.out, hok]; rfl)
        clear hok
        go_wp2
        go_ret
        exact ⟨by rw [HR.out]; rfl, HB2.out⟩
      | true =>
        have HR : Hid (l.all okB = (l.drop (k + 1)).all okB) := Lib.hid (by rw [HO2.out, hok]; rfl)
        clear hok
        go_wp2
        go_roundw
        case rel => exact ⟨k + 1, by omega, by go_num, HR, HB2⟩
        case measure => simp [intOf]; omega
    · have HR : Hid (l.all okB = true) := Lib.hid (by rw [HO.out, List.drop_eq_nil_of_le (by omega)]; rfl)
      go_wp2
      go_ret
      exact ⟨by rw [HR.out]; rfl, HB.out⟩
end Go.Proofs.Ytjpkkhhcpcokaaa

