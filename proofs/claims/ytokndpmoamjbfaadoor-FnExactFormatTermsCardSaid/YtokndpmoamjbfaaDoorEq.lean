/-
  The contracts of the laws' helpers that compare terms that are alike: eqTerm, eqTermS.
-/
import Derived.Test.YtokndpmoamjbfaaDoorTo
import Derived.WalkLawsBesides
import Derived.Deep.QuietTactic
import Derived.BigQuiet
import Derived.Deep.RegionWith
import Derived.Deep.RegionHeld3
namespace Go.Proofs.YtokndpmoamjbfaaDoor
open Go.RowKit

def Yes (w : World) (e : Ending) (w' : World) : Prop := e = .returned (.bool true) ∧ Below w.heap.size w w'

set_option maxHeartbeats 400000 in
theorem eqTerm_of (k i : Int) (s : ByteArray) (V V' : Value) (w : World)
    (HR : Hid (∀ W, Below w.heap.size w W → Calls Tryd.prog 25 #[V, V'] W (Yes W))) :
    Calls Tryd.prog 18 #[.agg #[.int .i64 k, .int .i64 i, .string s, V], .agg #[.int .i64 k, .int .i64 i, .string s, V']] w (Yes w) := by
  have B0 := Lib.hid (((Below.refl w.heap.size w).alloc (Nat.le_refl _) (.cells #[.int .i64 k, .int .i64 i, .string s, V] 26)).alloc (by simp) (.cells #[.int .i64 k, .int .i64 i, .string s, V'] 26))
  go_enter Tryd.func18, Tryd.ntmps18
  go_wp2_with fail
  refine (HR.out _ B0.out).mono ?_
  rintro e w' ⟨rfl, hb⟩
  have HB := Lib.hid (B0.out.trans (hb.mono (by simp; omega)))
  clear hb
  go_wp2
  go_ret
  exact ⟨rfl, HB.out⟩

set_option maxHeartbeats 400000 in
theorem eqTerms_any (N : Nat) : ∀ (l : List Tm) (V V' : Value) (w : World), nodesL l < N → ArgsAt w V l → ArgsAt w V' l → szL l ≤ 1048576 →
    Calls Tryd.prog 25 #[V, V'] w (Yes w) := by
  induction N with
  | zero => intro l V V' w hN; omega
  | succ N ih =>
    intro l V V' w hN hA hA' hZ
    obtain ⟨a, cap, rfl⟩ := hA.slice
    obtain ⟨a', cap', rfl⟩ := hA'.slice
    have HA := Lib.hid hA
    have HA' := Lib.hid hA'
    have HI := Lib.hid ih
    have hL := length_szL l
    clear hA hA' ih
    go_enter Tryd.func25, Tryd.ntmps25
    go_wp2
    go_loopw [5] (fun i wr => ∃ k : Nat, k ≤ l.length ∧ i = .int .i64 k ∧ Below w.heap.size w wr) (fun i _ => l.length - (intOf i).toNat)
    case atStart => exact ⟨0, Nat.zero_le _, rfl, Below.refl _ _⟩
    case round =>
      obtain ⟨k, hk, rfl, hb⟩ := hrel
      have HB := Lib.hid hb
      clear hb
      by_cases hlt : k < l.length
      · obtain ⟨t, ht⟩ : ∃ t, l[k]? = some t := ⟨_, List.getElem?_eq_getElem hlt⟩
        obtain ⟨g, off, cap1, V, hv, hg, hc, hch⟩ := HA.out.parts (by intro e; subst e; simp at hlt)
        obtain ⟨g', off', cap2, V', hv', hg', hc', hch'⟩ := HA'.out.parts (by intro e; subst e; simp at hlt)
        simp only [Value.slice.injEq, true_and] at hv hv'
        obtain ⟨rfl, rfl⟩ := hv
        obtain ⟨rfl, rfl⟩ := hv'
        obtain ⟨c0, c1, c2, c3⟩ := hc k t ht
        obtain ⟨c0', c1', c2', c3'⟩ := hc' k t ht
        have HCE : Hid (∀ W, Below wr.heap.size wr W → W.cell? ⟨g, off + k * 4, none⟩ = some (.int .i64 t.kind) ∧ W.cell? ⟨g, off + k * 4 + 1, none⟩ = some (.int .i64 t.num) ∧ W.cell? ⟨g, off + k * 4 + 2, none⟩ = some (.string t.name) ∧ W.cell? ⟨g, off + k * 4 + 3, none⟩ = some (V k) ∧
            W.cell? ⟨g', off' + k * 4, none⟩ = some (.int .i64 t.kind) ∧ W.cell? ⟨g', off' + k * 4 + 1, none⟩ = some (.int .i64 t.num) ∧ W.cell? ⟨g', off' + k * 4 + 2, none⟩ = some (.string t.name) ∧ W.cell? ⟨g', off' + k * 4 + 3, none⟩ = some (V' k)) := Lib.hid fun W bW => by
          have hb := HB.out.trans (bW.mono HB.out.size)
          exact ⟨(hb.cell (p := ⟨g, off + k * 4, none⟩) hg).trans c0, (hb.cell (p := ⟨g, off + k * 4 + 1, none⟩) hg).trans c1, (hb.cell (p := ⟨g, off + k * 4 + 2, none⟩) hg).trans c2, (hb.cell (p := ⟨g, off + k * 4 + 3, none⟩) hg).trans c3,
            (hb.cell (p := ⟨g', off' + k * 4, none⟩) hg').trans c0', (hb.cell (p := ⟨g', off' + k * 4 + 1, none⟩) hg').trans c1', (hb.cell (p := ⟨g', off' + k * 4 + 2, none⟩) hg').trans c2', (hb.cell (p := ⟨g', off' + k * 4 + 3, none⟩) hg').trans c3'⟩
        have HEQ : Hid (∀ W, Below wr.heap.size wr W → Calls Tryd.prog 18 #[.agg #[.int .i64 t.kind, .int .i64 t.num, .string t.name, V k], .agg #[.int .i64 t.kind, .int .i64 t.num, .string t.name, V' k]] W (Yes W)) := Lib.hid fun W bW => by
          have hb := HB.out.trans (bW.mono HB.out.size)
          have hN' : nodesL t.args < N := by have := nodes_at ht; rw [nodes_eq] at this; omega
          have hZ' : szL t.args ≤ 1048576 := by have h1 := sz_at ht; have h2 := sz_eq t; omega
          exact eqTerm_of _ _ _ _ _ W (Lib.hid fun W' bW' => HI.out t.args _ _ W' hN' ((hch k t ht).kept (hb.trans (bW'.mono hb.size))) ((hch' k t ht).kept (hb.trans (bW'.mono hb.size))) hZ')
        clear hc hc' hch hch' c0 c1 c2 c3 c0' c1' c2' c3' ht
        have hb0 : Below wr.heap.size wr wr := Below.refl _ _
        have hbd : Below wr.heap.size wr wr.drew := hb0.drew
        obtain ⟨d0, d1, d2, d3, d0', d1', d2', d3'⟩ := HCE.out wr hb0
        have HTR : Hid (∀ a b, Below wr.heap.size wr a → Below a.heap.size a b → Below wr.heap.size wr b) := Lib.hid fun a b h1 h2 => h1.trans (h2.mono h1.size)
        generalize t.kind = tk at HCE HEQ d0 d0'
        generalize t.num = ti at HCE HEQ d1 d1'
        generalize t.name = ts at HCE HEQ d2 d2'
        generalize V k = tv at HCE HEQ d3
        generalize V' k = tv' at HCE HEQ d3'
        go_wp2_with fail
        go_region_held3 (fun w' => Below wr.heap.size wr w' ∧ w'.cell? ⟨g, off + k * 4, none⟩ = some (.int .i64 tk) ∧ w'.cell? ⟨g, off + k * 4 + 1, none⟩ = some (.int .i64 ti) ∧ w'.cell? ⟨g, off + k * 4 + 2, none⟩ = some (.string ts) ∧ w'.cell? ⟨g, off + k * 4 + 3, none⟩ = some tv ∧
            w'.cell? ⟨g', off' + k * 4, none⟩ = some (.int .i64 tk) ∧ w'.cell? ⟨g', off' + k * 4 + 1, none⟩ = some (.int .i64 ti) ∧ w'.cell? ⟨g', off' + k * 4 + 2, none⟩ = some (.string ts) ∧ w'.cell? ⟨g', off' + k * 4 + 3, none⟩ = some tv') (go_keep)
          (first
            | (go_at_call 18; refine Calls.mono (HEQ.out _ ?_) ?_; (assumption); rintro e w' ⟨rfl, hb⟩; have hB' := HTR.out _ _ (by assumption) hb; obtain ⟨k0, k1, k2, k3, k4, k5, k6, k7⟩ := HCE.out _ hB'))
        all_goals (go_wp2; go_roundw; (case rel => exact ⟨k + 1, by omega, by go_num, HB.out.trans ((by assumption : Below wr.heap.size wr _).mono HB.out.size)⟩); (case measure => simp [intOf]; omega))
      · go_wp2
        go_ret
        exact ⟨rfl, HB.out⟩
end Go.Proofs.YtokndpmoamjbfaaDoor

