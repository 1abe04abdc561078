/-
  The model's l02CmpAll and l06Gen. (Written by wip/tools/gen_specgen.py.)
-/
import Derived.Test.YtoihimdfmncdoaaGenP
import Derived.Test.YtoihimdfmncdoaaPuts
import Derived.BigQuiet
import Derived.Deep.AppendLies
namespace Go.Proofs.Ytoihimdfmncdoaa
open Go.RowKit
set_option linter.unusedVariables false
set_option linter.unusedSimpArgs false

set_option maxRecDepth 100000 in
set_option maxHeartbeats 4000000 in
theorem specCmpAll_any (l m : List Tm) (Vl Vm : Value) (w : World) (hA : ArgsAt w Vl l) (hB : ArgsAt w Vm m) (hl : ∀ t ∈ l, Good t) (hm : ∀ t ∈ m, Good t) (hZl : szL l ≤ 1048576) (hZm : szL m ≤ 1048576) :
    Calls Try.prog 107 #[Vl, Vm] w fun e w' => ∃ c : Int, e = .returned (.int .i64 c) ∧ (c = 0 ↔ l = m) ∧ Below w.heap.size w w' := by
  obtain ⟨aa, ca, rfl⟩ := hA.slice
  obtain ⟨ab, cb, rfl⟩ := hB.slice
  have hLa : l.length ≤ 1048576 := by have := length_szL l; omega
  have hLb : m.length ≤ 1048576 := by have := length_szL m; omega
  have HA := Lib.hid (at_args hA)
  have HB := Lib.hid (at_args hB)
  have HG := Lib.hid (And.intro hl hm)
  have HZ := Lib.hid (And.intro hZl hZm)
  clear hA hB hl hm hZl hZm
  go_enter Try.func107, Try.ntmps107
  go_wp2
  go_loopw [5] (fun i wr => ∃ k : Nat, k ≤ l.length ∧ k ≤ m.length ∧ i = .int .i64 k ∧ Hid (l.take k = m.take k) ∧ Hid (Below w.heap.size w wr)) (fun i _ => l.length - (intOf i).toNat)
  case atStart => exact ⟨0, Nat.zero_le _, Nat.zero_le _, rfl, Lib.hid rfl, Lib.hid (Below.refl _ _)⟩
  case round =>
    obtain ⟨k, hka, hkb, rfl, HC, HQ⟩ := hrel
    by_cases hlt : k < l.length
    · by_cases hlt2 : k < m.length
      · obtain ⟨x, hx⟩ : ∃ x, l[k]? = some x := ⟨_, List.getElem?_eq_getElem hlt⟩
        obtain ⟨y, hy⟩ : ∃ y, m[k]? = some y := ⟨_, List.getElem?_eq_getElem hlt2⟩
        obtain ⟨ga, offa, u1, u2, rfl, hga, _, hcx, hax⟩ := (HA.out.read HQ.out).argsAt.elem hx
        obtain ⟨gb, offb, v1, v2, rfl, hgb, _, hcy, hay⟩ := (HB.out.read HQ.out).argsAt.elem hy
        have HAX := Lib.hid hax
        have HAY := Lib.hid hay
        have HCX := Lib.hid hcx
        have HCY := Lib.hid hcy
        have HGX := Lib.hid (And.intro (HG.out.1 x (List.mem_of_getElem? hx)) (HG.out.2 y (List.mem_of_getElem? hy)))
        have HN' : Hid (x.sz ≤ 1048576 ∧ y.sz ≤ 1048576) := Lib.hid (by have := sz_at hx; have := sz_at hy; have := HZ.out.1; have := HZ.out.2; omega)
        have HX := Lib.hid (take_snoc hx)
        have HY := Lib.hid (take_snoc hy)
        have HKL : Hid (k < l.length ∧ k < m.length) := Lib.hid ⟨hlt, hlt2⟩
        clear hx hy hax hay hcx hcy
        go_upto_region 4 with (fail)
        go_cut [6] from 7 to 30 (fun c wx => c = .int .i64 (x.cmp y) ∧ Below wr.heap.size wr wx)
        case first =>
          have hself : Below wr.heap.size wr wr := Below.refl _ _
          have hdrew : Below wr.heap.size wr wr.drew := hself.drew
          obtain ⟨d0, d1, d2, d3⟩ := HCX.out wr hself
          obtain ⟨e0, e1, e2, e3⟩ := HCY.out wr hself
          have HCE : Hid (∀ W, Below wr.heap.size wr W → W.cell? ⟨ga, offa + k * 4, none⟩ = some (.int .i64 x.kind) ∧ W.cell? ⟨ga, offa + k * 4 + 1, none⟩ = some (.int .i64 x.num) ∧ W.cell? ⟨ga, offa + k * 4 + 2, none⟩ = some (.string x.name) ∧ W.cell? ⟨ga, offa + k * 4 + 3, none⟩ = some (.slice u1 x.args.length u2) ∧ W.cell? ⟨gb, offb + k * 4, none⟩ = some (.int .i64 y.kind) ∧ W.cell? ⟨gb, offb + k * 4 + 1, none⟩ = some (.int .i64 y.num) ∧ W.cell? ⟨gb, offb + k * 4 + 2, none⟩ = some (.string y.name) ∧ W.cell? ⟨gb, offb + k * 4 + 3, none⟩ = some (.slice v1 y.args.length v2)) := Lib.hid fun W hW => by
            obtain ⟨d0, d1, d2, d3⟩ := HCX.out W hW
            obtain ⟨e0, e1, e2, e3⟩ := HCY.out W hW
            exact ⟨d0, d1, d2, d3, e0, e1, e2, e3⟩
          have HTR : Hid (∀ a b, Below wr.heap.size wr a → Below a.heap.size a b → Below wr.heap.size wr b) := Lib.hid fun a b h1 h2 => belowOn h1 (Nat.le_refl _) h2
          have HCM : Hid (∀ W, Below wr.heap.size wr W → Calls Try.prog 59 #[.agg #[.int .i64 x.kind, .int .i64 x.num, .string x.name, .slice u1 x.args.length u2], .agg #[.int .i64 y.kind, .int .i64 y.num, .string y.name, .slice v1 y.args.length v2]] W fun e w' => e = .returned (.int .i64 (x.cmp y)) ∧ Below W.heap.size W w') := Lib.hid fun W hW =>
            specCmp_any (x.nodes + 1) x y _ _ W (Nat.lt_succ_self _) (HAX.out.kept hW) (HAY.out.kept hW) HN'.out.1 HN'.out.2
          have hi0 : (0 : Int) ≤ (k : Int) := by omega
          have hi1 : (k : Int) < (l.length : Int) := by have := HKL.out.1; omega
          have hi2 : (k : Int) < (m.length : Int) := by have := HKL.out.2; omega
          clear HA HB HCX HCY HC HQ HG HZ HX HY hlt hlt2 hka hkb
          go_region_held3 (fun w' => Below wr.heap.size wr w' ∧ w'.cell? ⟨ga, offa + k * 4, none⟩ = some (.int .i64 x.kind) ∧ w'.cell? ⟨ga, offa + k * 4 + 1, none⟩ = some (.int .i64 x.num) ∧ w'.cell? ⟨ga, offa + k * 4 + 2, none⟩ = some (.string x.name) ∧ w'.cell? ⟨ga, offa + k * 4 + 3, none⟩ = some (.slice u1 x.args.length u2) ∧ w'.cell? ⟨gb, offb + k * 4, none⟩ = some (.int .i64 y.kind) ∧ w'.cell? ⟨gb, offb + k * 4 + 1, none⟩ = some (.int .i64 y.num) ∧ w'.cell? ⟨gb, offb + k * 4 + 2, none⟩ = some (.string y.name) ∧ w'.cell? ⟨gb, offb + k * 4 + 3, none⟩ = some (.slice v1 y.args.length v2)) (go_keep)
            (first
              | (go_at_call 59; refine Calls.mono (HCM.out _ ?_) ?_; (assumption); rintro e w' ⟨rfl, hb⟩; have hB' := HTR.out _ _ (by assumption) hb; obtain ⟨k0, k1, k2, k3, k4, k5, k6, k7⟩ := HCE.out _ hB'))
          all_goals (go_wp2_with fail; go_meet; exact ⟨rfl, by assumption⟩)
        case rest =>
          obtain ⟨rfl, hb⟩ := hcut
          obtain ⟨w2, rfl⟩ : ∃ x : World, x = wc := ⟨_, rfl⟩
          have HQ2 := Lib.hid (belowOn HQ.out (Nat.le_refl _) hb)
          have HLT2 := HKL
          clear hb
          by_cases hz : x.cmp y = 0
          · rw [hz]
            have HE : Hid (x = y) := Lib.hid (cmp_zero x.nodes x y (Nat.le_refl _) HGX.out.1 HGX.out.2 hz)
            clear hz
            go_wp2
            go_roundw
            case rel => exact ⟨k + 1, by have := HLT2.out.1; omega, by have := HLT2.out.2; omega, by go_num, Lib.hid (by rw [HX.out, HY.out, HC.out, HE.out]), HQ2⟩
            case measure => have := HLT2.out.1; simp [intOf]; omega
          · have HNE : Hid (¬ x = y) := Lib.hid fun h => hz (by rw [h]; exact cmp_self _)
            have HZ0 := Lib.hid hz
            go_wp2
            go_ret
            refine ⟨_, rfl, ⟨fun h => absurd h HZ0.out, fun h => absurd ?_ HNE.out⟩, HQ2.out⟩
            have h1 := HX.out
            have h2 := HY.out
            rw [h, h2] at h1
            have := List.append_inj_right' h1 rfl
            simpa using this.symm
      · have HE : Hid (¬ l = m) := Lib.hid fun h => by rw [h] at hlt; exact hlt2 hlt
        have hne : decide ((l.length : Int) = (m.length : Int)) = false := by simp; omega
        have hne' : ((l.length : Int) != (m.length : Int)) = true := by simp; omega
        have HS := Lib.hid (sign_any (decide (l.length < m.length)) wr)
        go_wp2_with fail
        refine HS.out.mono ?_
        rintro e w' ⟨rfl, rfl⟩
        go_wp2
        all_goals go_ret
        all_goals exact ⟨_, rfl, ⟨fun h => (by simp at h), fun h => absurd h HE.out⟩, HQ.out⟩
    · by_cases hlen : l.length = m.length
      · have HE : Hid (l = m) := Lib.hid (by
          have h := HC.out
          rw [List.take_of_length_le (by omega), List.take_of_length_le (by omega)] at h
          exact h)
        have hne' : ((l.length : Int) != (m.length : Int)) = false := by simp; omega
        have HLE := Lib.hid hlen
        clear hlen
        go_wp2
        go_ret
        exact ⟨0, rfl, ⟨fun _ => HE.out, fun _ => rfl⟩, HQ.out⟩
      · have HE : Hid (¬ l = m) := Lib.hid fun h => hlen (by rw [h])
        have hne' : ((l.length : Int) != (m.length : Int)) = true := by simp; omega
        have HS := Lib.hid (sign_any (decide (l.length < m.length)) wr)
        have HLE := Lib.hid hlen
        clear hlen
        go_wp2_with fail
        refine HS.out.mono ?_
        rintro e w' ⟨rfl, rfl⟩
        go_wp2
        all_goals go_ret
        all_goals exact ⟨_, rfl, ⟨fun h => (by simp at h), fun h => absurd h HE.out⟩, HQ.out⟩

/-! ### What l06Gen has known so far -/
theorem infoTermL : (Try.prog.info? 23).map (fun i => (i.zero, i.size, i.bytes)) = some (some (.slice none 0 0), 1, 24) := by kernel_rfl
/-- Blocks that are there, neither the row v nor one that is kept away. -/
def Oth (X : Nat → Prop) (w : World) (v : Value) (b : Nat) : Prop := b < w.heap.size ∧ v.ownBlock ≠ some b ∧ ¬ X b
/-- An own row of lists of parts that can be read without it. -/
def KnR (X : Nat → Prop) (w : World) (v : Value) (k : List (List Tm)) : Prop :=
  ∃ L : List (List Tm × Value), L.map Prod.fst = k ∧ Row w 0 23 v (L.map Prod.snd) ∧ ∀ (j : Nat) (p : List Tm × Value), L[j]? = some p → ArgsS w (Oth X w v) p.2 p.1 ∧ (∀ t ∈ p.1, Good t) ∧ szL p.1 ≤ 1048576
theorem KnR.frame {X X' : Nat → Prop} {w w' : World} {v : Value} {k : List (List Tm)} (h : KnR X w v k) (hs : w.heap.size ≤ w'.heap.size) (hb : ∀ j, j < w.heap.size → v.ownBlock = some j ∨ Oth X w v j → w'.heap[j]? = w.heap[j]?) (hX : ∀ j, j < w.heap.size → X' j → X j) : KnR X' w' v k := by
  obtain ⟨L, hL, hrow, hch⟩ := h
  refine ⟨L, hL, rowE_moved hrow fun j hj => hb j (World.ownsRow.lt hrow j hj).2 (.inl hj), fun j p hj => ?_⟩
  obtain ⟨h1, h2⟩ := hch j p hj
  exact ⟨(h1.frame hs fun j hj hlt => hb j hlt (.inr hj)).sub fun j hj => ⟨Nat.lt_of_lt_of_le hj.1 hs, hj.2.1, fun h => hj.2.2 (hX j hj.1 h)⟩, h2⟩
theorem KnR.kept {X : Nat → Prop} {w w' : World} {v : Value} {k : List (List Tm)} (h : KnR X w v k) (hb : Below w.heap.size w w') : KnR X w' v k := h.frame hb.size (fun j hj _ => hb.block j hj) fun _ _ h => h
theorem KnR.lt {X : Nat → Prop} {w : World} {v : Value} {k : List (List Tm)} (h : KnR X w v k) : ∀ j, v.ownBlock = some j → j < w.heap.size := by
  obtain ⟨L, hL, hrow, hch⟩ := h
  exact fun j hj => (World.ownsRow.lt hrow j hj).2
theorem KnR.slice {X : Nat → Prop} {w : World} {v : Value} {k : List (List Tm)} (h : KnR X w v k) : ∃ a c, v = .slice a k.length c := by
  obtain ⟨L, rfl, hrow, hch⟩ := h
  rcases hrow.2 with ⟨rfl, hn⟩ | ⟨g, cap, cur, rfl, _⟩
  · rw [List.length_map] at hn ⊢
    rw [hn]
    exact ⟨_, _, rfl⟩
  · rw [List.length_map, List.length_map]
    exact ⟨_, _, rfl⟩
theorem knR_nil (X : Nat → Prop) (w : World) : KnR X w (.slice none 0 0) [] := ⟨[], rfl, ⟨rfl, .inl ⟨rfl, rfl⟩⟩, fun j p hj => by simp at hj⟩
theorem KnR.elem {X : Nat → Prop} {w : World} {a : Option Addr} {n c : Nat} {k : List (List Tm)} (h : KnR X w (.slice a n c) k) {j : Nat} {x : List Tm} (hj : k[j]? = some x) :
    ∃ (g : Nat) (U : Option Addr × Nat), a = some ⟨g, 0, none⟩ ∧ n = k.length ∧ g < w.heap.size ∧ (∀ W, Below w.heap.size w W → W.cell? ⟨g, j, none⟩ = some (.slice U.1 x.length U.2)) ∧ ArgsS w (Oth X w (.slice a n c)) (.slice U.1 x.length U.2) x ∧ (∀ t ∈ x, Good t) ∧ szL x ≤ 1048576 := by
  obtain ⟨L, rfl, hrow, hch⟩ := h
  have hjl : j < L.length := by have := (List.getElem?_eq_some_iff.1 hj).1; simpa using this
  obtain ⟨p, hp⟩ : ∃ p, L[j]? = some p := ⟨_, List.getElem?_eq_getElem hjl⟩
  have hx : p.1 = x := by rw [List.getElem?_map, hp] at hj; simpa using hj
  obtain ⟨h1, h2, h3⟩ := hch j p hp
  obtain ⟨ua, uc, hU⟩ := h1.at.slice
  subst hx
  obtain ⟨g, cap, hv, _, hg, _, _, hc, _⟩ := Row.at hrow (by intro h; rw [List.map_eq_nil_iff] at h; rw [h] at hjl; simp at hjl)
  simp only [Value.slice.injEq] at hv
  obtain ⟨rfl, rfl, rfl⟩ := hv
  refine ⟨g, (ua, uc), rfl, by simp, hg, fun W hW => ?_, by rw [hU] at h1; exact h1, h2, h3⟩
  rw [← hU]
  exact (hW.cell (p := ⟨g, j, none⟩) hg).trans (hc j p.2 (by rw [List.getElem?_map, hp]; rfl))
theorem knR_append {X : Nat → Prop} {w W1 w1 : World} {v u : Value} {L : List (List Tm × Value)} {x : List Tm} {gg cap n : Nat} (hn : n = L.length)
    (hlt : ∀ j, v.ownBlock = some j → j < w.heap.size)
    (hch : ∀ (j : Nat) (p : List Tm × Value), L[j]? = some p → ArgsS w (Oth X w v) p.2 p.1 ∧ (∀ t ∈ p.1, Good t) ∧ szL p.1 ≤ 1048576)
    (hu : ArgsS w (Oth X w v) u x) (hg : ∀ t ∈ x, Good t) (hz : szL x ≤ 1048576) (hW : Below w.heap.size w W1)
    (hown : w1.ownsRow 0 23 1 (.slice (some ⟨gg, 0, none⟩) (n + 1) cap) (n + 1) (L.map Prod.snd ++ [u])) (hgr : W1.grownBy w1 v.ownBlock) (hat : v.ownBlock = some gg ∨ w.heap.size ≤ gg) :
    KnR X w1 (.slice (some ⟨gg, 0, none⟩) (n + 1) cap) (L.map Prod.fst ++ [x]) ∧ Only (fun b => v.ownBlock = some b) w w1 ∧ ∀ b, (Value.slice (some ⟨gg, 0, none⟩) (n + 1) cap).ownBlock = some b → v.ownBlock = some b ∨ w.heap.size ≤ b := by
  subst hn
  have hs : w.heap.size ≤ w1.heap.size := Nat.le_trans hW.size hgr.size
  have same : ∀ j, j < w.heap.size → v.ownBlock ≠ some j → w1.heap[j]? = w.heap[j]? := fun j hj hne => (hgr.block j (Nat.lt_of_lt_of_le hj hW.size) (fun e => hne e.symm)).trans (hW.block j hj)
  have hgg : ∀ b, (Value.slice (some ⟨gg, 0, none⟩) (L.length + 1) cap).ownBlock = some b → v.ownBlock = some b ∨ w.heap.size ≤ b := fun b hb => by
    have e : gg = b := by simpa [Value.ownBlock] using hb
    subst e
    exact hat
  have one : ∀ (U : Value) (y : List Tm), ArgsS w (Oth X w v) U y → ArgsS w1 (Oth X w1 (.slice (some ⟨gg, 0, none⟩) (L.length + 1) cap)) U y := fun U y hy =>
    (hy.frame hs fun j hj hlt => same j hlt hj.2.1).sub fun j hj => ⟨Nat.lt_of_lt_of_le hj.1 hs, fun e => by
      rcases hgg j e with h | h
      · exact hj.2.1 h
      · have := hj.1; omega, hj.2.2⟩
  refine ⟨⟨L ++ [(x, u)], by simp, by
    show w1.ownsRow 0 _ 1 _ ((L ++ [(x, u)]).map Prod.snd).length ((L ++ [(x, u)]).map Prod.snd)
    simpa using hown, fun j p hj => ?_⟩, ⟨hgr.os.trans hW.os, hgr.tape.trans hW.tape, hgr.output.trans hW.output, hs, fun j hj hn => same j hj hn⟩, hgg⟩
  by_cases hjl : j < L.length
  · rw [List.getElem?_append_left hjl] at hj
    obtain ⟨c1, c2⟩ := hch j p hj
    exact ⟨one _ _ c1, c2⟩
  · have hj' : j = L.length := by
      have := (List.getElem?_eq_some_iff.1 hj).1
      simp at this
      omega
    subst hj'
    rw [List.getElem?_append_right (Nat.le_refl _), Nat.sub_self] at hj
    simp at hj
    subst hj
    exact ⟨one _ _ hu, hg, hz⟩
/-- A row of terms that the call owns, their arguments in S. -/
def RowG (S : Nat → Prop) (w : World) (lo : Nat) (v : Value) (xs : List Tm) : Prop :=
  ∃ L : List (Tm × Value), L.map Prod.fst = xs ∧ w.ownsRow lo 25 4 v L.length (cellsL L) ∧ ∀ (j : Nat) (p : Tm × Value), L[j]? = some p → ArgsS w S p.2 p.1.args
theorem RowG.slice {S : Nat → Prop} {w : World} {lo : Nat} {v : Value} {xs : List Tm} (h : RowG S w lo v xs) : ∃ a c, v = .slice a xs.length c := by
  obtain ⟨L, rfl, h, _⟩ := h
  rw [List.length_map]
  exact row_slice h
theorem RowG.block {S : Nat → Prop} {w : World} {lo : Nat} {v : Value} {xs : List Tm} (h : RowG S w lo v xs) : ∀ k, v.ownBlock = some k → lo ≤ k ∧ k < w.heap.size := by
  obtain ⟨L, _, h, _⟩ := h
  exact fun k hk => World.ownsRow.lt h k hk
theorem RowG.grown {S : Nat → Prop} {w w' : World} {lo : Nat} {v : Value} {xs : List Tm} {row : Option Nat} (h : RowG S w lo v xs) (hS : ∀ k, S k → k < lo) (hg : w.grownBy w' row) (hne : v.ownBlock = none ∨ v.ownBlock ≠ row) (hr : ∀ k, row = some k → lo ≤ k) : RowG S w' lo v xs := by
  obtain ⟨L, h1, h2, h3⟩ := h
  exact ⟨L, h1, h2.kept hg hne, fun j p hj => (h3 j p hj).frame hg.size fun k hk hks => hg.block k hks fun e => by have := hr k e.symm; have := hS k hk; omega⟩
theorem RowG.kept {S : Nat → Prop} {w w' : World} {lo : Nat} {v : Value} {xs : List Tm} (h : RowG S w lo v xs) (hb : Below w.heap.size w w') : RowG S w' lo v xs := by
  obtain ⟨L, h1, h2, h3⟩ := h
  exact ⟨L, h1, rowE_moved h2 fun k hk => hb.block k (World.ownsRow.lt h2 k hk).2, fun j p hj => (h3 j p hj).kept hb⟩
theorem RowG.args {S S' : Nat → Prop} {w : World} {lo : Nat} {v : Value} {xs : List Tm} (h : RowG S w lo v xs) (hS : ∀ k, S k → S' k) (hv : ∀ k, v.ownBlock = some k → S' k) : ArgsS w S' v xs := by
  obtain ⟨L, rfl, hrow, hch⟩ := h
  exact argsS_row hrow hv fun j p hj => (hch j p hj).sub hS
theorem rowG_append {S : Nat → Prop} {w W1 w1 : World} {lo : Nat} {v u : Value} {L : List (Tm × Value)} {x : Tm} {gg cap n : Nat} (hn : n = L.length) (hlo : lo ≤ w.heap.size) (hS : ∀ k, S k → k < lo)
    (hch : ∀ (j : Nat) (p : Tm × Value), L[j]? = some p → ArgsS w S p.2 p.1.args) (hu : ArgsS w S u x.args) (hv : ∀ k, v.ownBlock = some k → lo ≤ k) (hW : Below w.heap.size w W1)
    (hown : w1.ownsRow lo 25 4 (.slice (some ⟨gg, 0, none⟩) (n + 1) cap) (n + 1) (cellsL L ++ cells4 x u)) (hgr : W1.grownBy w1 v.ownBlock) :
    RowG S w1 lo (.slice (some ⟨gg, 0, none⟩) (n + 1) cap) (L.map Prod.fst ++ [x]) := by
  subst hn
  have hs : w.heap.size ≤ w1.heap.size := Nat.le_trans hW.size hgr.size
  have same : ∀ j, j < lo → w1.heap[j]? = w.heap[j]? := fun j hj => (hgr.block j (by have := hW.size; omega) (fun e => by have := hv j e.symm; omega)).trans (hW.block j (by omega))
  have e1 : cellsL (L ++ [(x, u)]) = cellsL L ++ cells4 x u := by rw [cellsL_append]; simp [cellsL]
  rw [← e1] at hown
  refine ⟨L ++ [(x, u)], by simp, by simpa using hown, fun j p hj => ?_⟩
  by_cases hjl : j < L.length
  · rw [List.getElem?_append_left hjl] at hj
    exact (hch j p hj).frame hs fun k hk _ => same k (hS k hk)
  · have hj' : j = L.length := by
      have := (List.getElem?_eq_some_iff.1 hj).1
      simp at this
      omega
    subst hj'
    rw [List.getElem?_append_right (Nat.le_refl _), Nat.sub_self] at hj
    simp at hj
    subst hj
    exact hu.frame hs fun k hk _ => same k (hS k hk)
theorem rowG_start {S : Nat → Prop} {w : World} {lo : Nat} (hl : lo ≤ w.heap.size) : RowG S (w.alloc (.cells #[] 25)) lo (.slice (some ⟨w.heap.size, 0, none⟩) 0 0) [] :=
  ⟨[], rfl, ⟨by simp [cellsL], .inr ⟨w.heap.size, 0, #[], rfl, hl, heap_new w _, Nat.le_refl _, Nat.zero_le _, by simp, by simp [cellsL]⟩⟩, fun j p hj => by simp at hj⟩
/-- What l06Gen answers: a term and what is known now; nothing old is written but the row. -/
def GenR (X : Nat → Prop) (t : Tm) (k' : List (List Tm)) (Vk : Value) (w : World) (e : Ending) (w' : World) : Prop :=
  ∃ u V, e = .returned (.tuple #[.agg #[.int .i64 t.kind, .int .i64 t.num, .string t.name, u], V]) ∧ KnR X w' V k' ∧ ArgsS w' (Oth X w' V) u t.args ∧ Only (fun b => Vk.ownBlock = some b) w w' ∧ ∀ b, V.ownBlock = some b → Vk.ownBlock = some b ∨ w.heap.size ≤ b
theorem gen_end {P : Program} {fn : Func} {X : Nat → Prop} {t : Tm} {k' : List (List Tm)} {k i : Int} {s : ByteArray} {Vk V : Value} {w wE : World} {a : Act} {p q : Tmp} {x0 x1 x2 x3 u : Value} {fs : Array Field} (h1 : t.kind = k) (h2 : t.num = i) (h3 : t.name = s) (h : fn.results = #[.cell p 25, .tmp q]) (hp : a.tmps.getD p undef = .pointer (some ⟨w.heap.size, 0, none⟩)) (hq : a.tmps.getD q undef = V) (hd : a.defers = [])
    (hu : P.underlying 25 = some (.struct fs)) (hi : (P.info? 25).map (·.size) = some 4) (hb : wE.heap[w.heap.size]? = some (Obj.cells #[x0, x1, x2, x3] 25))
    (hlt : ∀ j, Vk.ownBlock = some j → j < w.heap.size) (hO : Only (fun b => Vk.ownBlock = some b) w wE) (hV : ∀ b, V.ownBlock = some b → Vk.ownBlock = some b ∨ w.heap.size < b)
    (hK : KnR (fun c => X c ∨ c = w.heap.size) wE V k') (hA : ArgsS wE (Oth (fun c => X c ∨ c = w.heap.size) wE V) u t.args) :
    bodyPost P fn (GenR X t k' Vk w) .ret a ((((wE.setCell ⟨w.heap.size, 0, none⟩ (.int .i64 k)).setCell ⟨w.heap.size, 1, none⟩ (.int .i64 i)).setCell ⟨w.heap.size, 2, none⟩ (.string s)).setCell ⟨w.heap.size, 3, none⟩ u) := by
  subst h1
  subst h2
  subst h3
  refine bodyPost_four2 h hp hq hd hu rfl hi hb fun w' hw => ⟨_, V, rfl, ?_, ?_, ?_, ?_⟩
  · refine hK.frame hw.size (fun j hj hc => hw.block j hj fun e => ?_) fun j _ h => .inl h
    subst e
    rcases hc with hc | hc
    · rcases hV _ hc with h | h
      · have := hlt _ h; omega
      · omega
    · exact hc.2.2 (.inr rfl)
  · refine (hA.frame hw.size fun j hj hlt => hw.block j hlt fun e => hj.2.2 (.inr e)).sub fun j hj => ⟨Nat.lt_of_lt_of_le hj.1 hw.size, hj.2.1, fun h => hj.2.2 (.inl h)⟩
  · exact ⟨hw.os.trans hO.os, hw.tape.trans hO.tape, hw.output.trans hO.output, Nat.le_trans hO.size hw.size, fun j hj hn => (hw.block j (Nat.lt_of_lt_of_le hj hO.size) (fun e => by omega)).trans (hO.block j hj hn)⟩
  · exact fun b hb => (hV b hb).imp id Nat.le_of_lt
/-- All are no variables and alike in their own fields. -/
def SameP (f : Tm) (l : List Tm) : Prop := ¬ f.kind = 1 ∧ ∀ t ∈ l, t.kind = f.kind ∧ t.num = f.num ∧ t.name = f.name
theorem same_snoc {f x : Tm} {l : List Tm} {k : Nat} (hx : l[k]? = some x) : SameP f (l.take (k + 1)) ↔ SameP f (l.take k) ∧ (x.kind = f.kind ∧ x.num = f.num ∧ x.name = f.name) := by
  rw [take_snoc hx]
  unfold SameP
  constructor
  · intro ⟨h1, h2⟩
    exact ⟨⟨h1, fun t ht => h2 t (List.mem_append_left _ ht)⟩, h2 x (by simp)⟩
  · intro ⟨⟨h1, h2⟩, h3⟩
    refine ⟨h1, fun t ht => ?_⟩
    rcases List.mem_append.1 ht with ht | ht
    · exact h2 t ht
    · rw [List.mem_singleton.1 ht]; exact h3
set_option maxRecDepth 100000 in
set_option maxHeartbeats 8000000 in
theorem gen_atom (X : Nat → Prop) (l : List Tm) (Vl : Value) (k : List (List Tm)) (Vk : Value) (f : Tm) (w : World) (hA : ArgsS w (Oth X w Vk) Vl l) (hK : KnR X w Vk k) (hX0 : ∀ b, X b → b < w.heap.size) (hf : l[0]? = some f) (hg : ∀ t ∈ l, Good t) (hZ : szL l ≤ 1048576) (hs : SameP f l) (h4 : ¬ f.kind = 4) :
    Calls Try.prog 53 #[Vl, Vk] w (GenR X f k Vk w) := by
  have HSA := Lib.hid hs
  have q4 : (f.kind != 4) = true := by simp [h4]
  clear hs h4
  have HA := Lib.hid hA
  obtain ⟨aa, ac, rfl⟩ := hA.at.slice
  obtain ⟨g, off, u1, u2, rfl, hgs, _, hcf, huf⟩ := hA.elem hf
  have hl0 : 0 < l.length := (List.getElem?_eq_some_iff.1 hf).1
  have hlm : l.length ≤ 1048576 := by have := length_szL l; omega
  have HFC : Hid (∀ W, Below w.heap.size w W → W.cell? ⟨g, off, none⟩ = some (.int .i64 f.kind) ∧ W.cell? ⟨g, off + 1, none⟩ = some (.int .i64 f.num) ∧ W.cell? ⟨g, off + 2, none⟩ = some (.string f.name) ∧ W.cell? ⟨g, off + 3, none⟩ = some (.slice u1 f.args.length u2)) := Lib.hid fun W hW => by simpa using hcf W hW
  have HUF := Lib.hid huf
  have HK := Lib.hid hK
  have HX0 := Lib.hid hX0
  have HF := Lib.hid hf
  have HG := Lib.hid hg
  have HZ := Lib.hid hZ
  have HL := Lib.hid (And.intro hl0 hlm)
  have HR := Lib.hid (at_box_of w #[.int .i64 0, .int .i64 0, .string ⟨#[]⟩, .slice none 0 0] 25 w.heap.size rfl)
  have HW : Hid (Below w.heap.size w (w.alloc (.cells #[.int .i64 0, .int .i64 0, .string ⟨#[]⟩, .slice none 0 0] 25))) := Lib.hid (belowAlloc (Below.refl _ _) _)
  obtain ⟨ka, kc, rfl⟩ := hK.slice
  have hi0 : (0 : Int) < (l.length : Int) := by omega
  clear hA hcf huf hK hX0 hf hg hZ
  go_enter Try.func53, Try.ntmps53
  go_upto_region 1 with (fail)
  generalize hw0 : w.alloc (.cells #[.int .i64 0, .int .i64 0, .string ⟨#[]⟩, .slice none 0 0] 25) = w0 at HW HR ⊢
  clear hw0
  obtain ⟨c0, c1, c2, c3⟩ := HFC.out w0 HW.out
  obtain ⟨b0, hb0⟩ : ∃ b0, (f.kind != 1) = b0 := ⟨_, rfl⟩
  have HB0 : Hid (b0 = true ↔ SameP f (l.take 0)) := Lib.hid (by rw [← hb0]; unfold SameP; simp)
  go_wp2
  clear c0 c1 c2 c3
  go_loopw [6, 26] (fun bv iv wr => ∃ (k : Nat) (b : Bool), k ≤ l.length ∧ iv = .int .i64 k ∧ bv = .bool b ∧ Hid (b = true ↔ SameP f (l.take k)) ∧ Hid (Below w0.heap.size w0 wr)) (fun _ iv _ => l.length - (intOf iv).toNat)
  case atStart => exact ⟨0, b0, Nat.zero_le _, rfl, rfl, HB0, Lib.hid (Below.refl _ _)⟩
  case round =>
    clear HB0 hb0
    obtain ⟨n, b, hn, rfl, rfl, HS, HB⟩ := hrel
    have HWR := Lib.hid (belowOn HW.out (Nat.le_refl _) HB.out)
    by_cases hlt : n < l.length
    · have hltI : (n : Int) < (l.length : Int) := by omega
      obtain ⟨x, hx⟩ : ∃ x, l[n]? = some x := ⟨_, List.getElem?_eq_getElem hlt⟩
      obtain ⟨g', off', v1, v2, he, _, _, hc, hu⟩ := HA.out.elem hx
      simp only [Option.some.injEq, Addr.mk.injEq, and_true] at he
      obtain ⟨rfl, rfl⟩ := he
      obtain ⟨d0, d1, d2, d3⟩ := hc wr HWR.out
      have HSN := Lib.hid (same_snoc (f := f) hx)
      clear hc hu hx
      go_upto_region 5 with (fail)
      have hal : Below wr.heap.size wr (wr.alloc (.cells #[.int .i64 x.kind, .int .i64 x.num, .string x.name, .slice v1 x.args.length v2] 25)) := belowAlloc (Below.refl _ _) _
      have HXB := Lib.hid (at_box_of wr #[.int .i64 x.kind, .int .i64 x.num, .string x.name, .slice v1 x.args.length v2] 25 wr.heap.size rfl)
      have HB1 := Lib.hid (belowOn HB.out (Nat.le_refl _) hal)
      have HW1 := Lib.hid (belowOn HWR.out (Nat.le_refl _) hal)
      clear hal d0 d1 d2 d3 HB HWR
      generalize hw1 : wr.alloc (.cells #[.int .i64 x.kind, .int .i64 x.num, .string x.name, .slice v1 x.args.length v2] 25) = wb at HXB HB1 HW1 ⊢
      clear hw1
      obtain ⟨e0, e1, e2, e3⟩ := HXB.out.cells
      obtain ⟨c0, c1, c2, c3⟩ := HFC.out wb HW1.out
      have END : Hid (∀ m, Below w0.heap.size w0 (wb.drewN m)) := Lib.hid fun m => belowOn HB1.out (Nat.le_refl _) (below_drewN (Below.refl _ _) m)
      cases b with
      | false =>
        go_quiet (fail)
        go_wp2
        go_roundw
        case rel => exact ⟨n + 1, false, by omega, by go_num, rfl, Lib.hid (by rw [HSN.out, ← HS.out]; simp), Lib.hid (END.out _)⟩
        case measure => simp [intOf]; omega
      | true =>
        by_cases h1 : x.kind = f.kind
        · have q1 : (x.kind == f.kind) = true := by simp [h1]
          by_cases h2 : x.num = f.num
          · have q2 : (x.num == f.num) = true := by simp [h2]
            by_cases h3 : x.name = f.name
            · have q3 : (x.name.toList == f.name.toList) = true := by simp [h3]
              have HQ : Hid (x.kind = f.kind ∧ x.num = f.num ∧ x.name = f.name) := Lib.hid ⟨h1, h2, h3⟩
              clear h1 h2 h3
              go_quiet (fail)
              go_wp2
              go_roundw
              case rel => exact ⟨n + 1, true, by omega, by go_num, rfl, Lib.hid (by rw [HSN.out, ← HS.out]; simp [HQ.out]), Lib.hid (END.out _)⟩
              case measure => simp [intOf]; omega
            · have q3 : (x.name.toList == f.name.toList) = false := by rw [beq_eq_false_iff_ne]; exact fun h => h3 (toList_inj h)
              have HQ := Lib.hid h3
              clear h1 h2 h3
              go_quiet (fail)
              go_wp2
              go_roundw
              case rel => exact ⟨n + 1, false, by omega, by go_num, rfl, Lib.hid (by rw [HSN.out, ← HS.out]; simp [HQ.out]), Lib.hid (END.out _)⟩
              case measure => simp [intOf]; omega
          · have q2 : (x.num == f.num) = false := by simp [h2]
            have HQ := Lib.hid h2
            clear h1 h2
            go_quiet (fail)
            go_wp2
            go_roundw
            case rel => exact ⟨n + 1, false, by omega, by go_num, rfl, Lib.hid (by rw [HSN.out, ← HS.out]; simp [HQ.out]), Lib.hid (END.out _)⟩
            case measure => simp [intOf]; omega
        · have q1 : (x.kind == f.kind) = false := by simp [h1]
          have HQ := Lib.hid h1
          clear h1
          go_quiet (fail)
          go_wp2
          go_roundw
          case rel => exact ⟨n + 1, false, by omega, by go_num, rfl, Lib.hid (by rw [HSN.out, ← HS.out]; simp [HQ.out]), Lib.hid (END.out _)⟩
          case measure => simp [intOf]; omega
    · obtain rfl : n = l.length := by omega
      rw [List.take_length] at HS
      obtain rfl : b = true := HS.out.2 HSA.out
      obtain ⟨c0, c1, c2, c3⟩ := HFC.out wr HWR.out
      have HR2 := Lib.hid (HR.out.read HB.out).now
      have HKE : Hid (KnR (fun c => X c ∨ c = w.heap.size) wr (.slice ka k.length kc) k) := Lib.hid (HK.out.frame HWR.out.size (fun j hj _ => HWR.out.block j hj) fun j hj h => h.elim id fun h => by omega)
      have HUE : Hid (ArgsS wr (Oth (fun c => X c ∨ c = w.heap.size) wr (.slice ka k.length kc)) (.slice u1 f.args.length u2) f.args) := Lib.hid ((HUF.out.kept HWR.out).sub fun j hj => ⟨Nat.lt_of_lt_of_le hj.1 HWR.out.size, hj.2.1, fun h => h.elim hj.2.2 fun h => by have := hj.1; omega⟩)
      obtain ⟨r0, r1, r2, r3, rf⟩ := box_cells HR2.out
      go_wp2
      exact gen_end (p := 4) rfl rfl rfl rfl rfl rfl rfl Try.underlying25 (by kernel_rfl) HR2.out HK.out.lt (Only.of_below HWR.out) (fun b hb => .inl hb) HKE.out HUE.out

set_option maxRecDepth 100000 in
set_option maxHeartbeats 8000000 in
theorem gen_var (X : Nat → Prop) (l : List Tm) (Vl : Value) (k : List (List Tm)) (Vk : Value) (f : Tm) (w : World) (hA : ArgsS w (Oth X w Vk) Vl l) (hK : KnR X w Vk k) (hX0 : ∀ b, X b → b < w.heap.size) (hf : l[0]? = some f) (hg : ∀ t ∈ l, Good t) (hZ : szL l ≤ 1048576) (hs : ¬ SameP f l) (hkn : k.length ≤ 1000000) :
    Calls Try.prog 53 #[Vl, Vk] w (GenR X (.mk 1 (idxL k l) ⟨#[]⟩ []) (kAdd k l) Vk w) := by
  have HSA := Lib.hid hs
  clear hs
  have HA := Lib.hid hA
  obtain ⟨aa, ac, rfl⟩ := hA.at.slice
  obtain ⟨g, off, u1, u2, rfl, hgs, _, hcf, huf⟩ := hA.elem hf
  have hl0 : 0 < l.length := (List.getElem?_eq_some_iff.1 hf).1
  have hlm : l.length ≤ 1048576 := by have := length_szL l; omega
  have HFC : Hid (∀ W, Below w.heap.size w W → W.cell? ⟨g, off, none⟩ = some (.int .i64 f.kind) ∧ W.cell? ⟨g, off + 1, none⟩ = some (.int .i64 f.num) ∧ W.cell? ⟨g, off + 2, none⟩ = some (.string f.name) ∧ W.cell? ⟨g, off + 3, none⟩ = some (.slice u1 f.args.length u2)) := Lib.hid fun W hW => by simpa using hcf W hW
  have HUF := Lib.hid huf
  have HK := Lib.hid hK
  have HX0 := Lib.hid hX0
  have HF := Lib.hid hf
  have HG := Lib.hid hg
  have HZ := Lib.hid hZ
  have HL := Lib.hid (And.intro hl0 hlm)
  have HR := Lib.hid (at_box_of w #[.int .i64 0, .int .i64 0, .string ⟨#[]⟩, .slice none 0 0] 25 w.heap.size rfl)
  have HW : Hid (Below w.heap.size w (w.alloc (.cells #[.int .i64 0, .int .i64 0, .string ⟨#[]⟩, .slice none 0 0] 25))) := Lib.hid (belowAlloc (Below.refl _ _) _)
  obtain ⟨ka, kc, rfl⟩ := hK.slice
  have hi0 : (0 : Int) < (l.length : Int) := by omega
  clear hA hcf huf hK hX0 hf hg hZ
  go_enter Try.func53, Try.ntmps53
  go_upto_region 1 with (fail)
  generalize hw0 : w.alloc (.cells #[.int .i64 0, .int .i64 0, .string ⟨#[]⟩, .slice none 0 0] 25) = w0 at HW HR ⊢
  clear hw0
  obtain ⟨c0, c1, c2, c3⟩ := HFC.out w0 HW.out
  obtain ⟨b0, hb0⟩ : ∃ b0, (f.kind != 1) = b0 := ⟨_, rfl⟩
  have HB0 : Hid (b0 = true ↔ SameP f (l.take 0)) := Lib.hid (by rw [← hb0]; unfold SameP; simp)
  go_wp2
  clear c0 c1 c2 c3
  go_loopw [6, 26] (fun bv iv wr => ∃ (k : Nat) (b : Bool), k ≤ l.length ∧ iv = .int .i64 k ∧ bv = .bool b ∧ Hid (b = true ↔ SameP f (l.take k)) ∧ Hid (Below w0.heap.size w0 wr)) (fun _ iv _ => l.length - (intOf iv).toNat)
  case atStart => exact ⟨0, b0, Nat.zero_le _, rfl, rfl, HB0, Lib.hid (Below.refl _ _)⟩
  case round =>
    clear HB0 hb0
    obtain ⟨n, b, hn, rfl, rfl, HS, HB⟩ := hrel
    have HWR := Lib.hid (belowOn HW.out (Nat.le_refl _) HB.out)
    by_cases hlt : n < l.length
    · have hltI : (n : Int) < (l.length : Int) := by omega
      obtain ⟨x, hx⟩ : ∃ x, l[n]? = some x := ⟨_, List.getElem?_eq_getElem hlt⟩
      obtain ⟨g', off', v1, v2, he, _, _, hc, hu⟩ := HA.out.elem hx
      simp only [Option.some.injEq, Addr.mk.injEq, and_true] at he
      obtain ⟨rfl, rfl⟩ := he
      obtain ⟨d0, d1, d2, d3⟩ := hc wr HWR.out
      have HSN := Lib.hid (same_snoc (f := f) hx)
      clear hc hu hx
      go_upto_region 5 with (fail)
      have hal : Below wr.heap.size wr (wr.alloc (.cells #[.int .i64 x.kind, .int .i64 x.num, .string x.name, .slice v1 x.args.length v2] 25)) := belowAlloc (Below.refl _ _) _
      have HXB := Lib.hid (at_box_of wr #[.int .i64 x.kind, .int .i64 x.num, .string x.name, .slice v1 x.args.length v2] 25 wr.heap.size rfl)
      have HB1 := Lib.hid (belowOn HB.out (Nat.le_refl _) hal)
      have HW1 := Lib.hid (belowOn HWR.out (Nat.le_refl _) hal)
      clear hal d0 d1 d2 d3 HB HWR
      generalize hw1 : wr.alloc (.cells #[.int .i64 x.kind, .int .i64 x.num, .string x.name, .slice v1 x.args.length v2] 25) = wb at HXB HB1 HW1 ⊢
      clear hw1
      obtain ⟨e0, e1, e2, e3⟩ := HXB.out.cells
      obtain ⟨c0, c1, c2, c3⟩ := HFC.out wb HW1.out
      have END : Hid (∀ m, Below w0.heap.size w0 (wb.drewN m)) := Lib.hid fun m => belowOn HB1.out (Nat.le_refl _) (below_drewN (Below.refl _ _) m)
      cases b with
      | false =>
        go_quiet (fail)
        go_wp2
        go_roundw
        case rel => exact ⟨n + 1, false, by omega, by go_num, rfl, Lib.hid (by rw [HSN.out, ← HS.out]; simp), Lib.hid (END.out _)⟩
        case measure => simp [intOf]; omega
      | true =>
        by_cases h1 : x.kind = f.kind
        · have q1 : (x.kind == f.kind) = true := by simp [h1]
          by_cases h2 : x.num = f.num
          · have q2 : (x.num == f.num) = true := by simp [h2]
            by_cases h3 : x.name = f.name
            · have q3 : (x.name.toList == f.name.toList) = true := by simp [h3]
              have HQ : Hid (x.kind = f.kind ∧ x.num = f.num ∧ x.name = f.name) := Lib.hid ⟨h1, h2, h3⟩
              clear h1 h2 h3
              go_quiet (fail)
              go_wp2
              go_roundw
              case rel => exact ⟨n + 1, true, by omega, by go_num, rfl, Lib.hid (by rw [HSN.out, ← HS.out]; simp [HQ.out]), Lib.hid (END.out _)⟩
              case measure => simp [intOf]; omega
            · have q3 : (x.name.toList == f.name.toList) = false := by rw [beq_eq_false_iff_ne]; exact fun h => h3 (toList_inj h)
              have HQ := Lib.hid h3
              clear h1 h2 h3
              go_quiet (fail)
              go_wp2
              go_roundw
              case rel => exact ⟨n + 1, false, by omega, by go_num, rfl, Lib.hid (by rw [HSN.out, ← HS.out]; simp [HQ.out]), Lib.hid (END.out _)⟩
              case measure => simp [intOf]; omega
          · have q2 : (x.num == f.num) = false := by simp [h2]
            have HQ := Lib.hid h2
            clear h1 h2
            go_quiet (fail)
            go_wp2
            go_roundw
            case rel => exact ⟨n + 1, false, by omega, by go_num, rfl, Lib.hid (by rw [HSN.out, ← HS.out]; simp [HQ.out]), Lib.hid (END.out _)⟩
            case measure => simp [intOf]; omega
        · have q1 : (x.kind == f.kind) = false := by simp [h1]
          have HQ := Lib.hid h1
          clear h1
          go_quiet (fail)
          go_wp2
          go_roundw
          case rel => exact ⟨n + 1, false, by omega, by go_num, rfl, Lib.hid (by rw [HSN.out, ← HS.out]; simp [HQ.out]), Lib.hid (END.out _)⟩
          case measure => simp [intOf]; omega
    · obtain rfl : n = l.length := by omega
      rw [List.take_length] at HS
      obtain rfl : b = false := by cases b; rfl; exact absurd (HS.out.1 rfl) HSA.out
      obtain ⟨i0, hi, hz0, hz1, hz2⟩ := info_parts infoTermL
      have HII := Lib.hid (And.intro hi (And.intro hz0 (And.intro hz1 hz2)))
      have HKE : Hid (KnR (fun c => X c ∨ c = w.heap.size) wr (.slice ka k.length kc) k) := Lib.hid (HK.out.frame HWR.out.size (fun j hj _ => HWR.out.block j hj) fun j hj h => h.elim id fun h => by omega)
      have HAE : Hid (ArgsS wr (Oth (fun c => X c ∨ c = w.heap.size) wr (.slice ka k.length kc)) (.slice (some ⟨g, off, none⟩) l.length ac) l) := Lib.hid ((HA.out.kept HWR.out).sub fun j hj => ⟨Nat.lt_of_lt_of_le hj.1 HWR.out.size, hj.2.1, fun h => h.elim hj.2.2 fun h => by have := hj.1; omega⟩)
      have HR2 := Lib.hid (HR.out.read HB.out)
      have HKL := Lib.hid HK.out.lt
      clear HK HA HFC HUF HR HB HW hi hz0 hz1 hz2 HS HF
      go_wp2
      obtain ⟨wq, hwq⟩ : ∃ wq, wr = wq := ⟨_, rfl⟩
      have HSTART : Hid (Below wr.heap.size wr wr) := Lib.hid (Below.refl _ _)
      rw [hwq] at HKE HAE HR2 HWR HSTART ⊢
      clear hwq
      go_loopw [113] (fun iv wr => ∃ j : Nat, j ≤ k.length ∧ iv = .int .i64 j ∧ Hid (∀ i, i < j → k[i]? ≠ some l) ∧ Hid (Below wq.heap.size wq wr)) (fun iv _ => k.length - (intOf iv).toNat)
      case atStart => exact ⟨0, Nat.zero_le _, rfl, Lib.hid fun i hi => absurd hi (Nat.not_lt_zero i), HSTART⟩
      case round =>
        clear HSTART
        obtain ⟨j, hj, rfl, HNO, HB⟩ := hrel
        have HWQ := Lib.hid (belowOn HWR.out (Nat.le_refl _) HB.out)
        have HKR := Lib.hid (HKE.out.kept HB.out)
        have HAR := Lib.hid ((HAE.out.kept HB.out).sub (S' := Oth (fun c => X c ∨ c = w.heap.size) wr (.slice ka k.length kc)) fun j hj => ⟨Nat.lt_of_lt_of_le hj.1 HB.out.size, hj.2⟩)
        have HRR := Lib.hid (HR2.out.read HB.out)
        by_cases hlt : j < k.length
        · have hltI : (j : Int) < (k.length : Int) := by omega
          obtain ⟨x, hx⟩ : ∃ x, k[j]? = some x := ⟨_, List.getElem?_eq_getElem hlt⟩
          obtain ⟨gk, ⟨U1, U2⟩, rfl, _, hgk, hck, hak, hgx, hzx⟩ := HKR.out.elem hx
          have hcell := hck wr (Below.refl _ _)
          dsimp only at hcell hak
          have HC := Lib.hid (specCmpAll_any x l _ _ wr hak.at HAR.out.at hgx HG.out hzx HZ.out)
          have HXJ := Lib.hid hx
          clear hck hak hgx hzx hx
          go_wp2_with fail
          refine HC.out.mono ?_
          rintro e w3 ⟨c, rfl, hcl, hb⟩
          have HCL := Lib.hid hcl
          have HB3 := Lib.hid (belowOn HB.out (Nat.le_refl _) hb)
          have HW3 := Lib.hid (belowOn HWQ.out (Nat.le_refl _) hb)
          have HK3 := Lib.hid (HKR.out.kept hb)
          have HR3 := Lib.hid (HRR.out.read hb)
          clear hb hcl HC hcell
          by_cases hz : c = 0
          · obtain rfl := HCL.out.1 hz
            subst hz
            have HIX : Hid (idxL k x = j ∧ kAdd k x = k) := Lib.hid (by
              have hm := List.mem_of_getElem? HXJ.out
              obtain ⟨h1, h2⟩ := idx_in hm
              refine ⟨?_, if_pos hm⟩
              have h3 : ¬ j < idxL k x := fun h => h2 j h HXJ.out
              have h4 : ¬ idxL k x < j := fun h => HNO.out _ h h1
              omega)
            have HV := Lib.hid (var_any (j : Int) w3)
            go_wp2_with fail
            refine HV.out.mono ?_
            rintro e w4 ⟨rfl, hb⟩
            have HW4 := Lib.hid (belowOn HW3.out (Nat.le_refl _) hb)
            have HK4 := Lib.hid (HK3.out.kept hb)
            have HR4 := Lib.hid (HR3.out.read hb).now
            clear hb HV
            obtain ⟨r0, r1, r2, r3, rf⟩ := box_cells HR4.out
            go_wp2
            exact gen_end (p := 4) rfl (congrArg Int.ofNat HIX.out.1) rfl rfl rfl rfl rfl Try.underlying25 (by kernel_rfl) HR4.out HKL.out (Only.of_below HW4.out) (fun b hb => .inl hb) (HIX.out.2.symm ▸ HK4.out) (.nil _ _)
          · have HNE : Hid (¬ x = l) := Lib.hid fun h => hz (HCL.out.2 h)
            go_wp2
            go_roundw
            case rel => exact ⟨j + 1, by omega, by go_num, Lib.hid fun i hi h => by
              rcases Nat.lt_succ_iff_lt_or_eq.1 hi with h' | h'
              · exact HNO.out i h' h
              · subst h'
                rw [HXJ.out] at h
                exact HNE.out (by simpa using h), HB3⟩
            case measure => simp [intOf]; omega
        · obtain rfl : j = k.length := by omega
          have HNM : Hid (idxL k l = k.length ∧ kAdd k l = k ++ [l]) := Lib.hid (by
            have hm : ¬ l ∈ k := fun h => by
              obtain ⟨i, hi⟩ := List.getElem?_of_mem h
              exact HNO.out i (List.getElem?_eq_some_iff.1 hi).1 hi
            exact ⟨idx_out hm, if_neg hm⟩)
          have HV := Lib.hid (var_any (k.length : Int) wr)
          go_wp2_with fail
          refine HV.out.mono ?_
          rintro e w4 ⟨rfl, hb⟩
          have HW4 := Lib.hid (belowOn HWQ.out (Nat.le_refl _) hb)
          have HK4 := Lib.hid (HKR.out.kept hb)
          have HA4 := Lib.hid ((HAR.out.kept hb).sub (S' := Oth (fun c => X c ∨ c = w.heap.size) w4 (.slice ka k.length kc)) fun j hj => ⟨Nat.lt_of_lt_of_le hj.1 hb.size, hj.2⟩)
          have HR4 := Lib.hid (HRR.out.read hb)
          clear hb HV HKR HAR HRR HWQ HKE HAE HR2 HWR
          obtain ⟨L, hL1, hL2, hL3⟩ := HK4.out
          have hLk : k.length = L.length := by rw [← hL1, List.length_map]
          have HROW : Hid (w4.ownsRow 0 23 1 (.slice ka k.length kc) k.length (L.map Prod.snd)) := Lib.hid (by
            have h : w4.ownsRow 0 23 1 (.slice ka k.length kc) (L.map Prod.snd).length (L.map Prod.snd) := hL2
            rw [List.length_map, ← hLk] at h
            exact h)
          have HPL := Lib.hid (And.intro hL1 (And.intro hLk hL3))
          have HLT := Lib.hid HK4.out.lt
          clear hL1 hL2 hL3 hLk
          obtain ⟨r0, r1, r2, r3, rf⟩ := box_cells HR4.out.now
          go_wp2_with (at_builtin; refine wpList_append_lies _ rfl _ _ 71 rfl 0 23 i0 _ 1 24 Try.underlying71 HII.out.1 HII.out.2.1 HII.out.2.2.1 HII.out.2.2.2 rfl (by omega) (.slice ka k.length kc) k.length (L.map Prod.snd) rfl (HROW.out.alloc _) ⟨w4.heap.size, 0, none⟩ 1 1 [.slice (some ⟨g, off, none⟩) l.length ac] rfl rfl (World.news_of_block (heap_alloc_new w4 _)) (by simp [Value.oneCell']) (by omega) (by unfold maxLen; omega) (by omega) (Nat.zero_le _) (w4.heap.size + 1) (by simp) ?_; intro gg cap' w5 hown1 hgrow hat hlt1; have HAP := Lib.hid (And.intro hown1 (And.intro hgrow (And.intro hat hlt1))); have HST : Hid (w5.heap[w.heap.size]? = some (.cells #[.int .i64 0, .int .i64 0, .string ⟨#[]⟩, .slice none 0 0] 25)) := Lib.hid (((hgrow.block _ (by have := HR4.out.le; simp; omega) (fun e => by have := HKL.out _ e.symm; omega)).trans ((belowAlloc (Below.refl w4.heap.size w4) (.cells #[.slice (some ⟨g, off, none⟩) l.length ac] 23)).block _ (by have := HR4.out.le; omega))).trans HR4.out.now); obtain ⟨s0, s1, s2, s3, sf⟩ := box_cells HST.out; clear hown1 hgrow hat hlt1)
          have HFIN := Lib.hid (knR_append HPL.out.2.1 HLT.out HPL.out.2.2 HA4.out HG.out HZ.out (belowAlloc (Below.refl w4.heap.size w4) (.cells #[.slice (some ⟨g, off, none⟩) l.length ac] 23)) HAP.out.1 HAP.out.2.1 (HAP.out.2.2.1.imp id fun h => by omega))
          rw [HPL.out.1] at HFIN
          have hO : Only (fun b => (Value.slice ka k.length kc).ownBlock = some b) w w5 := ((Only.of_below (S := fun b => (Value.slice ka k.length kc).ownBlock = some b) HW4.out)).trans HFIN.out.2.1
          exact gen_end (p := 4) rfl (congrArg Int.ofNat HNM.out.1) rfl rfl rfl rfl rfl Try.underlying25 (by kernel_rfl) HST.out HKL.out hO (fun b hb => (HFIN.out.2.2 b hb).imp id fun h => by have := HR4.out.le; omega) (HNM.out.2.symm ▸ HFIN.out.1) (.nil _ _)
end Go.Proofs.Ytoihimdfmncdoaa

