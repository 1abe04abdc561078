/-
  The program's maps of bindings: mapOf, termFor, copied bindings, a binding looked at alone, variables.
-/
import Derived.Test.YtjmmeccfjanpcaaDoorGoPlain
import Derived.Deep.RegionHeld3
namespace Go.Proofs.YtjmmeccfjanpcaaDoor
open Go.RowKit
set_option linter.unusedVariables false
set_option linter.unusedSimpArgs false

theorem Good.var_range {t : Tm} (h : Good t) (hk : t.kind = 1) : 0 ≤ t.num ∧ t.num ≤ 100000 := by
  cases h with
  | var i h0 h1 => exact ⟨h0, h1⟩
  | nil => simp [Tm.kind] at hk
  | sym s h => simp [Tm.kind] at hk
  | int i h0 h1 => simp [Tm.kind] at hk
  | pair a b ha hb => simp [Tm.kind] at hk
/-- A map of a world that holds at each variable the term that g says, with its arguments in the world. -/
def MapG (w : World) (b : Nat) (g : Int → Option Tm) : Prop := ∃ (n : Nat) (f : Ent), n ≤ 1048576 ∧ MapF w b n f ∧ (∀ v, (f v).map Prod.fst = g v) ∧ ∀ v p, f v = some p → ArgsAt w p.2 p.1.args
theorem MapG.lt {w : World} {b : Nat} {g : Int → Option Tm} (h : MapG w b g) : b < w.heap.size := by obtain ⟨n, f, _, h1, _⟩ := h; exact h1.lt
theorem MapG.kept {w w' : World} {b : Nat} {g : Int → Option Tm} (h : MapG w b g) (hb : Below w.heap.size w w') : MapG w' b g := by
  obtain ⟨n, f, hn, h1, h2, h3⟩ := h
  exact ⟨n, f, hn, h1.kept hb, h2, fun v p hp => (h3 v p hp).kept hb⟩
theorem MapG.same {w : World} {b : Nat} {g g' : Int → Option Tm} (h : MapG w b g) (hg : ∀ v, g v = g' v) : MapG w b g' := by
  have : g = g' := funext hg
  subst this
  exact h
/-- Looked up: the term and its slice, or nothing. -/
theorem MapG.look {w : World} {b : Nat} {g : Int → Option Tm} (h : MapG w b g) {v : Int} (hv : wfI v) :
    (g v = none ∧ (Instr.lookup 71 (.map (some b)) (.int .i64 v) true).run Tryd.prog w = .ok (.tuple #[.agg #[.int .i64 0, .int .i64 0, .string ⟨#[]⟩, .slice none 0 0], .bool false]) w) ∨
    ∃ t a c, g v = some t ∧ ArgsAt w (.slice a t.args.length c) t.args ∧ (Instr.lookup 71 (.map (some b)) (.int .i64 v) true).run Tryd.prog w = .ok (.tuple #[.agg #[.int .i64 t.kind, .int .i64 t.num, .string t.name, .slice a t.args.length c], .bool true]) w := by
  obtain ⟨n, f, hn, h1, h2, h3⟩ := h
  cases hf : f v with
  | none => exact .inl ⟨by rw [← h2 v, hf]; rfl, h1.look_no hv hf⟩
  | some p =>
    obtain ⟨t, U⟩ := p
    have hA := h3 v _ hf
    obtain ⟨a, c, hU⟩ := hA.slice
    have hU' : U = .slice a t.args.length c := hU
    subst hU'
    exact .inr ⟨t, a, c, by rw [← h2 v, hf]; rfl, hA, h1.look_yes hv hf⟩
theorem MapG.lookW {w : World} {b : Nat} {g : Int → Option Tm} (h : MapG w b g) {v : Int} (hv : wfI v) :
    (g v = none ∧ ∀ W, Below w.heap.size w W → (Instr.lookup 71 (.map (some b)) (.int .i64 v) true).run Tryd.prog W = .ok (.tuple #[.agg #[.int .i64 0, .int .i64 0, .string ⟨#[]⟩, .slice none 0 0], .bool false]) W) ∨
    ∃ t a c, g v = some t ∧ ArgsAt w (.slice a t.args.length c) t.args ∧ ∀ W, Below w.heap.size w W → (Instr.lookup 71 (.map (some b)) (.int .i64 v) true).run Tryd.prog W = .ok (.tuple #[.agg #[.int .i64 t.kind, .int .i64 t.num, .string t.name, .slice a t.args.length c], .bool true]) W := by
  obtain ⟨n, f, hn, h1, h2, h3⟩ := h
  cases hf : f v with
  | none => exact .inl ⟨by rw [← h2 v, hf]; rfl, fun W hW => (h1.kept hW).look_no hv hf⟩
  | some p =>
    obtain ⟨t, U⟩ := p
    have hA := h3 v _ hf
    obtain ⟨a, c, hU⟩ := hA.slice
    have hU' : U = .slice a t.args.length c := hU
    subst hU'
    exact .inr ⟨t, a, c, by rw [← h2 v, hf]; rfl, hA, fun W hW => (h1.kept hW).look_yes hv hf⟩

/-- The same, the arguments lying below lo. -/
def MapL (lo : Nat) (w : World) (b : Nat) (g : Int → Option Tm) : Prop := ∃ (n : Nat) (f : Ent), n ≤ 1048576 ∧ MapF w b n f ∧ (∀ v, (f v).map Prod.fst = g v) ∧ ∀ v p, f v = some p → ArgsS w (fun j => j < lo) p.2 p.1.args
theorem MapL.g {lo : Nat} {w : World} {b : Nat} {g : Int → Option Tm} (h : MapL lo w b g) : MapG w b g := by
  obtain ⟨n, f, h0, h1, h2, h3⟩ := h
  exact ⟨n, f, h0, h1, h2, fun v p hp => (h3 v p hp).at⟩

set_option maxRecDepth 100000 in
set_option maxHeartbeats 4000000 in
theorem mapOf_low (s : List Bd) (V : Value) (w : World) (hA : ListS bdE w Any V s) (hL : s.length ≤ 1048576) (hF : ∀ b ∈ s, wfI b.v) :
    Calls Tryd.prog 38 #[V] w fun e w' => ∃ b, e = .returned (.map (some b)) ∧ w.heap.size ≤ b ∧ MapL w.heap.size w' b (lastO s) ∧ Below w.heap.size w w' := by
  obtain ⟨a, cap, rfl⟩ := hA.slice
  have HA := Lib.hid hA
  have HF := Lib.hid hF
  have HM0 : Hid (MapF (w.alloc (.map #[] 0)) w.heap.size 0 (fun _ => none)) := Lib.hid (mapF_made w)
  have HW0 : Hid (Below w.heap.size w (w.alloc (.map #[] 0))) := Lib.hid (belowAlloc (Below.refl _ _) _)
  have hmm := @run_makeMap Tryd.prog
  clear hA hF
  go_enter Tryd.func38, Tryd.ntmps38
  go_wp2
  clear hmm
  go_loopw [9] (fun iv wr => ∃ k : Nat, k ≤ s.length ∧ iv = .int .i64 k ∧ Hid (∃ f : Ent, MapF wr w.heap.size k f ∧ (∀ v, (f v).map Prod.fst = lastO (s.take k) v) ∧ ∀ v p, f v = some p → ArgsS wr (fun j => j < w.heap.size) p.2 p.1.args) ∧ Hid (Below w.heap.size w wr)) (fun iv _ => s.length - (intOf iv).toNat)
  case atStart => exact ⟨0, Nat.zero_le _, rfl, Lib.hid ⟨_, HM0.out, fun v => rfl, fun v p h => by cases h⟩, HW0⟩
  case round =>
    obtain ⟨k, hk, rfl, HM, HB⟩ := hrel
    clear HM0 HW0
    by_cases hlt : k < s.length
    · have hltI : (k : Int) < (s.length : Int) := by omega
      obtain ⟨x, hx⟩ : ∃ x, s[k]? = some x := ⟨_, List.getElem?_eq_getElem hlt⟩
      obtain ⟨g, off, u1, u2, rfl, hg, hq, hc, hu⟩ := HA.out.bd hx
      obtain ⟨d0, d1, d2, d3, d4⟩ := hc wr HB.out
      have hwf := HF.out x (List.mem_of_getElem? hx)
      have HWF := Lib.hid hwf
      have HLT := Lib.hid (lastO_take hx)
      have HU := Lib.hid ((hu.low.sub (fun j hj => hj.2) : ArgsS w (fun j => j < w.heap.size) _ _).kept HB.out)
      clear hq hc hu hx hwf
      go_upto_region 5 with (fail)
      have hal : Below wr.heap.size wr (wr.alloc (.cells #[.int .i64 x.v, .int .i64 x.t.kind, .int .i64 x.t.num, .string x.t.name, .slice u1 x.t.args.length u2] 45)) := belowAlloc (Below.refl _ _) _
      have HBX := Lib.hid (at_box_of wr #[.int .i64 x.v, .int .i64 x.t.kind, .int .i64 x.t.num, .string x.t.name, .slice u1 x.t.args.length u2] 45 wr.heap.size rfl)
      have HB1 := Lib.hid (belowOn HB.out (Nat.le_refl _) hal)
      have HU1 := Lib.hid (HU.out.kept hal)
      have HM1 : Hid (∃ f : Ent, MapF (wr.alloc (.cells #[.int .i64 x.v, .int .i64 x.t.kind, .int .i64 x.t.num, .string x.t.name, .slice u1 x.t.args.length u2] 45)) w.heap.size k f ∧ (∀ v, (f v).map Prod.fst = lastO (s.take k) v) ∧ ∀ v p, f v = some p → ArgsS (wr.alloc (.cells #[.int .i64 x.v, .int .i64 x.t.kind, .int .i64 x.t.num, .string x.t.name, .slice u1 x.t.args.length u2] 45)) (fun j => j < w.heap.size) p.2 p.1.args) := Lib.hid (by
        obtain ⟨f, m1, m2, m3⟩ := HM.out
        exact ⟨f, m1.kept hal, m2, fun v p hp => (m3 v p hp).kept hal⟩)
      clear hal d0 d1 d2 d3 d4 HB HU HM
      generalize hw1 : wr.alloc (.cells #[.int .i64 x.v, .int .i64 x.t.kind, .int .i64 x.t.num, .string x.t.name, .slice u1 x.t.args.length u2] 45) = w1 at HBX HB1 HU1 HM1 ⊢
      clear hw1
      generalize wr.heap.size = nb at HBX ⊢
      obtain ⟨e0, e1, e2, e3, e4, ef⟩ := box_cells5 HBX.out.now
      obtain ⟨f, m1, m2, m3⟩ := HM1.out
      have HMF := Lib.hid m1
      have HM2 := Lib.hid (And.intro m2 m3)
      clear m1 m2 m3 HM1
      go_wp2_with (at_mapUpdate; refine wpList_put _ rfl _ _ _ rfl w.heap.size k f rfl HMF.out (by unfold maxLen; omega) x.v rfl HWF.out x.t (.slice u1 x.t.args.length u2) rfl ?_; intro w2 hm2 hg2; have HG := Lib.hid (And.intro hm2 hg2); clear hm2 hg2)
      have HB2 : Hid (Below w.heap.size w w2) := Lib.hid (HB1.out.trans (below_of_grown HG.out.2 HB1.out.size (fun j hj => by cases hj; exact Nat.le_refl _)))
      clear e0 e1 e2 e3 e4 ef
      go_roundw
      case rel =>
        refine ⟨k + 1, by omega, by go_num, Lib.hid ⟨_, HG.out.1, fun v => ?_, fun v p hp => ?_⟩, HB2⟩
        · rw [HLT.out v]
          by_cases hv : v = x.v
          · rw [hv, updF_self, if_pos rfl]; rfl
          · rw [updF_ne f _ hv, if_neg (fun e => hv e.symm)]; exact HM2.out.1 v
        · have hsame : ∀ j, j < w1.heap.size → ¬ j = w.heap.size → w2.heap[j]? = w1.heap[j]? := fun j hj hne => HG.out.2.block j hj (fun e => hne (by cases e; rfl))
          by_cases hv : v = x.v
          · rw [hv, updF_self] at hp
            cases hp
            exact HU1.out.frame HG.out.2.size fun j hj hjs => hsame j hjs (by omega)
          · rw [updF_ne f _ hv] at hp
            exact (HM2.out.2 v p hp).frame HG.out.2.size fun j hj hjs => hsame j hjs (by omega)
      case measure => simp [intOf]; omega
    · obtain rfl : k = s.length := by omega
      have HM2 : Hid (MapL w.heap.size wr w.heap.size (lastO s)) := Lib.hid (by
        obtain ⟨f, m1, m2, m3⟩ := HM.out
        rw [List.take_length] at m2
        exact ⟨s.length, f, hL, m1, m2, m3⟩)
      clear HM
      go_wp2
      go_ret
      exact ⟨_, rfl, Nat.le_refl _, HM2.out, HB.out⟩
theorem mapOf_any (s : List Bd) (V : Value) (w : World) (hA : ListS bdE w Any V s) (hL : s.length ≤ 1048576) (hF : ∀ b ∈ s, wfI b.v) :
    Calls Tryd.prog 38 #[V] w fun e w' => ∃ b, e = .returned (.map (some b)) ∧ w.heap.size ≤ b ∧ MapG w' b (lastO s) ∧ Below w.heap.size w w' :=
  (mapOf_low s V w hA hL hF).mono fun e w' ⟨b, h1, h2, h3, h4⟩ => ⟨b, h1, h2, h3.g, h4⟩
end Go.Proofs.YtjmmeccfjanpcaaDoor

