/-
  The model's ComposeSubst.
-/
import Derived.Test.YtjmmeccfjanpcaaSpecInsert
namespace Go.Proofs.Ytjmmeccfjanpcaa
open Go.RowKit
set_option linter.unusedVariables false
set_option linter.unusedSimpArgs false

/-- A list, and whether. -/
def OldB2 (l : List Bd) (b : Bool) (w : World) (e : Ending) (w' : World) : Prop := ∃ v, e = .returned (.tuple #[v, .bool b]) ∧ ListS bdE w' Any v l ∧ Below w.heap.size w w'
theorem RowB.size {α : Type} {E : El α} {e : TypeId} {w : World} {lo : Nat} {v : Value} {xs : List α} (h : RowB E e w lo v xs) (hp : 0 < xs.length) : lo < w.heap.size := by
  obtain ⟨L, rfl, hrow, hch⟩ := h
  rw [List.length_map] at hp
  rcases hrow.2 with ⟨_, hn⟩ | ⟨g', cap', cur, rfl, h1, h2⟩
  · omega
  · have := (World.ownsRow.lt hrow g' rfl); omega

/-! ### The composition, plain -/
def mapped (t : List Bd) (b : Bd) : Bd := ⟨b.v, putT t b.t⟩
def selfB (b : Bd) : Bool := decide (b.t.kind = 1 ∧ b.t.num = b.v)
def cmpA (s t : List Bd) : List Bd := (s.map (mapped t)).filter fun b => !selfB b
def rest (s t : List Bd) : List Bd := t.filter fun b => !getB s b.v
def cmpB (s t : List Bd) : List Bd := (rest s t).foldl insB (cmpA s t)
def CompP (s t : List Bd) : Prop := SubstP s ∧ SubstP t ∧ (∀ b ∈ s, (putT t b.t).nodes ≤ 5000) ∧ SubstP (cmpB s t)
open Classical in
noncomputable def coL (s t : List Bd) : List Bd := if CompP s t then cmpB s t else []
open Classical in
noncomputable def coB (s t : List Bd) : Bool := decide (CompP s t)
open Classical in
theorem co_yes {s t : List Bd} (h : CompP s t) : coL s t = cmpB s t ∧ coB s t = true := ⟨by rw [coL, if_pos h], by rw [coB, decide_eq_true h]⟩
open Classical in
theorem co_no {s t : List Bd} (h : ¬ CompP s t) : coL s t = [] ∧ coB s t = false := ⟨by rw [coL, if_neg h], by rw [coB, decide_eq_false h]⟩
theorem insB_mem {s : List Bd} {b x : Bd} : x ∈ insB s b ↔ x = b ∨ x ∈ s := by
  unfold insB
  rw [List.mem_append, List.mem_cons]
  constructor
  · rintro (h | h | h)
    · exact .inr (List.mem_of_mem_take h)
    · exact .inl h
    · exact .inr (List.mem_of_mem_drop h)
  · rintro (h | h)
    · exact .inr (.inl h)
    · rw [← List.take_append_drop (scanB s b.v s.length) s, List.mem_append] at h
      rcases h with h | h
      · exact .inl h
      · exact .inr (.inr h)
theorem foldB_mem {x : Bd} : ∀ (r s : List Bd), x ∈ r.foldl insB s ↔ x ∈ r ∨ x ∈ s
  | [], s => by simp
  | b :: r, s => by
    rw [List.foldl_cons, foldB_mem r, insB_mem, List.mem_cons]
    constructor
    · rintro (h | h | h)
      · exact .inl (.inr h)
      · exact .inl (.inl h)
      · exact .inr h
    · rintro ((h | h) | h)
      · exact .inr (.inl h)
      · exact .inl h
      · exact .inr (.inr h)
theorem foldB_length : ∀ (r s : List Bd), (r.foldl insB s).length = r.length + s.length
  | [], s => by simp
  | b :: r, s => by rw [List.foldl_cons, foldB_length r, insB_length, List.length_cons]; omega
theorem cmpA_yes {s t : List Bd} {k : Nat} {x : Bd} (hx : s[k]? = some x) (h : selfB (mapped t x) = false) : cmpA (s.take (k + 1)) t = cmpA (s.take k) t ++ [mapped t x] := by
  rw [cmpA, takeE hx, List.map_append, List.filter_append]
  simp [cmpA, List.filter_cons, h]
theorem cmpA_not {s t : List Bd} {k : Nat} {x : Bd} (hx : s[k]? = some x) (h : selfB (mapped t x) = true) : cmpA (s.take (k + 1)) t = cmpA (s.take k) t := by
  rw [cmpA, takeE hx, List.map_append, List.filter_append]
  simp [cmpA, List.filter_cons, h]
theorem cmpA_len (s t : List Bd) (k : Nat) : (cmpA (s.take k) t).length ≤ s.length := by
  unfold cmpA
  refine Nat.le_trans (List.length_filter_le _ _) ?_
  rw [List.length_map, List.length_take]; omega
theorem restB_yes {s t : List Bd} {k : Nat} {x : Bd} (hx : t[k]? = some x) (h : getB s x.v = false) (a : List Bd) : (rest s (t.take (k + 1))).foldl insB a = insB ((rest s (t.take k)).foldl insB a) x := by
  have : rest s (t.take (k + 1)) = rest s (t.take k) ++ [x] := by
    rw [rest, takeE hx, List.filter_append]
    simp [rest, List.filter_cons, h]
  rw [this, List.foldl_append]
  rfl
theorem rest_not {s t : List Bd} {k : Nat} {x : Bd} (hx : t[k]? = some x) (h : getB s x.v = true) (a : List Bd) : (rest s (t.take (k + 1))).foldl insB a = (rest s (t.take k)).foldl insB a := by
  have : rest s (t.take (k + 1)) = rest s (t.take k) := by
    rw [rest, takeE hx, List.filter_append]
    simp [rest, List.filter_cons, h]
  rw [this]
theorem rest_len (s t : List Bd) (k : Nat) : (rest s (t.take k)).length ≤ t.length := by
  unfold rest
  refine Nat.le_trans (List.length_filter_le _ _) ?_
  rw [List.length_take]; omega
theorem cmpB_each {s t : List Bd} (hs : SubstP s) (ht : SubstP t) (hf : ∀ b ∈ s, (putT t b.t).nodes ≤ 5000) : EachB (cmpB s t) := by
  have ls := hs.1.2.2
  have lt := ht.1.2.2
  refine ⟨?_, fun b hb => ?_⟩
  · rw [cmpB, foldB_length]
    have h1 := rest_len s t t.length
    have h2 := cmpA_len s t s.length
    rw [List.take_length] at h1 h2
    omega
  · rw [cmpB, foldB_mem] at hb
    rcases hb with hb | hb
    · have hb' := (List.mem_filter.1 hb).1
      have h1 := good_sz (ht.good b hb')
      have h2 := ht.nodes b hb'
      omega
    · obtain ⟨hb, _⟩ := List.mem_filter.1 hb
      obtain ⟨x, hx, rfl⟩ := List.mem_map.1 hb
      have h1 := good_sz (putT_good ht.good x.t.nodes x.t (Nat.le_refl _) (hs.good x hx))
      have h2 := hf x hx
      show (putT t x.t).sz ≤ 1048575
      omega

set_option maxRecDepth 100000 in
set_option maxHeartbeats 16000000 in
theorem specCompose_any (s t : List Bd) (Vs Vt : Value) (w : World) (hA : ListS bdE w Any Vs s) (hE : EachB s) (hT : ListS bdE w Any Vt t) (hF : EachB t) :
    Calls Try.prog 30 #[Vs, Vt] w (OldB2 (coL s t) (coB s t) w) := by
  obtain ⟨i0, hi, hz0, hz1, hz2⟩ := info_parts infoBinding
  have HII := Lib.hid (And.intro hi (And.intro hz0 (And.intro hz1 hz2)))
  obtain ⟨a, cap, rfl⟩ := hA.slice
  obtain ⟨ta, tc, rfl⟩ := hT.slice
  have hL : s.length ≤ 1048576 := hE.1
  have hLt : t.length ≤ 1048576 := hF.1
  have HA := Lib.hid hA.lowB
  have HT := Lib.hid hT.lowB
  have HNO := Lib.hid (fun (h : ¬ CompP s t) => co_no h)
  have HYES := Lib.hid (fun (h : CompP s t) => co_yes h)
  generalize coL s t = r at HYES HNO ⊢
  generalize coB s t = rb at HYES HNO ⊢
  have HC := Lib.hid (specSubstOk_any s _ w hA hE)
  clear hA hT hi hz0 hz1 hz2
  go_enter Try.func30, Try.ntmps30
  go_wp2_with fail
  refine HC.out.mono ?_
  rintro e w0 ⟨rfl, hb⟩
  have HW := Lib.hid hb
  clear hb HC
  cases hs : substB s with
  | false =>
    obtain ⟨rfl, rfl⟩ := HNO.out fun h => substB_false.1 hs h.1
    clear hs
    go_wp2
    go_ret2
    exact ⟨_, rfl, .nil _ _, HW.out⟩
  | true =>
  have HSP := Lib.hid (substB_true.1 hs)
  have HC := Lib.hid (specSubstOk_any t _ w0 (HT.out.any.kept HW.out) hF)
  clear hs
  go_wp2_with fail
  refine HC.out.mono ?_
  rintro e w1 ⟨rfl, hb⟩
  have HW1 := Lib.hid (belowOn HW.out (Nat.le_refl _) hb)
  clear hb HC HW
  cases ht : substB t with
  | false =>
    obtain ⟨rfl, rfl⟩ := HNO.out fun h => substB_false.1 ht h.2.1
    clear ht
    go_wp2
    go_ret2
    exact ⟨_, rfl, .nil _ _, HW1.out⟩
  | true =>
  have HTP := Lib.hid (substB_true.1 ht)
  have hls : s.length ≤ 400 := HSP.out.1.2.2
  have hlt4 : t.length ≤ 400 := HTP.out.1.2.2
  have hw1z : w.heap.size ≤ w1.heap.size := HW1.out.size
  have HR0 : Hid (RowK bdE 58 (w1.alloc (.cells #[] 58)) w.heap.size (.slice (some ⟨w1.heap.size, 0, none⟩) 0 0) []) := Lib.hid
    ⟨[], rfl, ⟨by simp [cellsE], .inr ⟨w1.heap.size, 0, #[], rfl, hw1z, heap_new w1 _, Nat.le_refl _, Nat.zero_le _, by simp, by simp [cellsE]⟩⟩, fun j p hj => by simp at hj⟩
  have HW2 : Hid (Below w.heap.size w (w1.alloc (.cells #[] 58))) := Lib.hid (HW1.out.alloc hw1z _)
  clear ht
  go_wp2
  go_loopw [6, 26] (fun lv iv wr => ∃ (k : Nat) (g c : Nat), k ≤ s.length ∧ iv = .int .i64 k ∧ lv = .slice (some ⟨g, 0, none⟩) (cmpA (s.take k) t).length c ∧ Hid (RowK bdE 58 wr w.heap.size lv (cmpA (s.take k) t)) ∧ Hid (∀ (i : Nat) (b : Bd), i < k → s[i]? = some b → (putT t b.t).nodes ≤ 5000) ∧ Hid (Below w.heap.size w wr)) (fun _ iv _ => s.length - (intOf iv).toNat)
  case atStart => exact ⟨0, w1.heap.size, 0, Nat.zero_le _, rfl, rfl, HR0, Lib.hid (fun i b hi => absurd hi (Nat.not_lt_zero _)), HW2⟩
  case round =>
    obtain ⟨k, og, oc, hk, rfl, rfl, HO, HN, HB⟩ := hrel
    clear HR0 HW1 HW2 hw1z
    obtain ⟨m, hm⟩ : ∃ m, m = (cmpA (s.take k) t).length := ⟨_, rfl⟩
    have hmk : m ≤ 1048576 := by have := cmpA_len s t k; omega
    rw [← hm] at HO ⊢
    have HM := Lib.hid hm
    clear hm
    by_cases hlt : k < s.length
    · have hltI : (k : Int) < (s.length : Int) := by omega
      obtain ⟨x, hx⟩ : ∃ x, s[k]? = some x := ⟨_, List.getElem?_eq_getElem hlt⟩
      obtain ⟨g, off, u1, u2, rfl, hg, hq, hc, hu⟩ := HA.out.bd hx
      obtain ⟨d0, d1, d2, d3, d4⟩ := hc wr HB.out
      have HX := Lib.hid hx
      have HXO := Lib.hid (HSP.out.1.1 k x hx)
      have HFX := Lib.hid (putT_fine HTP.out (HSP.out.1.1 k x hx).2)
      have HU := Lib.hid (hu.kept HB.out)
      have hxz : x.t.sz ≤ 1048576 := by have := hE.2 x (List.mem_of_getElem? hx); omega
      clear hq hc hu hx
      go_upto_region 7 with (fail)
      have hal : Below wr.heap.size wr (wr.alloc (.cells #[.int .i64 x.v, .int .i64 x.t.kind, .int .i64 x.t.num, .string x.t.name, .slice u1 x.t.args.length u2] 58)) := belowAlloc (Below.refl _ _) _
      have HBX := Lib.hid (at_box_of wr #[.int .i64 x.v, .int .i64 x.t.kind, .int .i64 x.t.num, .string x.t.name, .slice u1 x.t.args.length u2] 58 wr.heap.size rfl)
      have HO1 := Lib.hid (HO.out.kept hal)
      have HB1 := Lib.hid (belowOn HB.out (Nat.le_refl _) hal)
      have HU1 := Lib.hid (HU.out.kept hal)
      clear hal d0 d1 d2 d3 d4 HB HU HO
      generalize hw1 : wr.alloc (.cells #[.int .i64 x.v, .int .i64 x.t.kind, .int .i64 x.t.num, .string x.t.name, .slice u1 x.t.args.length u2] 58) = w2 at HBX HB1 HU1 HO1 ⊢
      clear hw1
      generalize wr.heap.size = nb at HBX ⊢
      obtain ⟨e0, e1, e2, e3, e4, ef⟩ := box_cells5 HBX.out.now
      have HQ := Lib.hid (specApply4_any t x.t _ _ (fun j => j < w.heap.size) w2 HTP.out HXO.out.2 hLt (fun j hj => Nat.lt_of_lt_of_le hj HB1.out.size) (HT.out.kept HB1.out) HU1.out hxz)
      generalize hr2 : putT t x.t = y at HQ HFX
      have HY := Lib.hid hr2
      clear hr2
      go_wp2_with fail
      refine HQ.out.mono ?_
      rintro e w3 ⟨v, rfl, hv, hb⟩
      obtain ⟨qa, qc, rfl⟩ := hv.at.slice
      have hal : Below w3.heap.size w3 (w3.alloc (.cells #[.int .i64 y.kind, .int .i64 y.num, .string y.name, .slice qa y.args.length qc] 31)) := belowAlloc (Below.refl _ _) _
      have HP2 := Lib.hid (hv.kept hal)
      have HT2 := Lib.hid (at_box_of w3 #[.int .i64 y.kind, .int .i64 y.num, .string y.name, .slice qa y.args.length qc] 31 w3.heap.size rfl)
      have HO2 := Lib.hid ((HO1.out.kept hb).kept hal)
      have HB2 := Lib.hid (belowOn HB1.out (Nat.le_refl _) (belowOn hb (Nat.le_refl _) hal))
      have HBX2 := Lib.hid ((HBX.out.read hb).read hal)
      have HNE := Lib.hid (rowK_block HO1.out)
      have hz12 : w3.heap.size ≤ (w3.alloc (.cells #[.int .i64 y.kind, .int .i64 y.num, .string y.name, .slice qa y.args.length qc] 31)).heap.size := by simp
      have HZ12 := Lib.hid hz12
      have HWZ2 := Lib.hid HB1.out.size
      clear hv hb hal HQ HB1 HBX HU1 HO1 hz12 e0 e1 e2 e3 e4 ef
      go_upto_region 8 with (fail)
      generalize hw1 : w3.alloc (.cells #[.int .i64 y.kind, .int .i64 y.num, .string y.name, .slice qa y.args.length qc] 31) = w4 at HP2 HT2 HO2 HB2 HBX2 HZ12 ⊢
      clear hw1
      generalize hn3 : w3.heap.size = n3 at HT2 HP2 HZ12 ⊢
      obtain ⟨e0, e1, e2, e3, e4, ef⟩ := box_cells5 HBX2.out.now
      obtain ⟨b0, b1, b2, b3, _⟩ := box_cells HT2.out.now
      have HN3 := Lib.hid hn3
      clear hn3
      cases h2 : decide (y.nodes ≤ 5000) with
      | false =>
        obtain ⟨rfl, rfl⟩ := HNO.out fun h => by
          have := h.2.2.1 x (List.mem_of_getElem? HX.out)
          rw [HY.out] at this
          exact of_decide_eq_false h2 this
        clear h2
        go_wp2
        go_ret2
        exact ⟨_, rfl, .nil _ _, HB2.out⟩
      | true =>
        have HD2 := Lib.hid (of_decide_eq_true h2)
        have HNN : Hid (∀ (i : Nat) (b : Bd), i < k + 1 → s[i]? = some b → (putT t b.t).nodes ≤ 5000) := Lib.hid fun i b hi hb => by
          by_cases q : i = k
          · subst q
            cases hb.symm.trans HX.out
            rw [HY.out]; exact HD2.out
          · exact HN.out i b (by omega) hb
        have HMY : Hid (mapped t x = ⟨x.v, y⟩) := Lib.hid (by unfold mapped; rw [HY.out])
        clear h2
        by_cases hself : y.kind = 1 ∧ y.num = x.v
        · have HK : Hid (cmpA (s.take (k + 1)) t = cmpA (s.take k) t) := Lib.hid (cmpA_not HX.out (by rw [HMY.out]; exact decide_eq_true hself))
          have g1 : (y.kind == 1) = true := by rw [hself.1]; rfl
          have g1' : (y.kind != 1) = false := by rw [hself.1]; rfl
          have g2 : (y.num == x.v) = true := by rw [hself.2]; exact beq_self_eq_true _
          have g2' : (y.num != x.v) = false := by rw [hself.2]; exact bne_self_eq_false _
          clear hself
          go_wp2
          go_roundw
          case rel => exact ⟨k + 1, og, oc, by omega, by go_num, by rw [HK.out, ← HM.out], Lib.hid (by rw [HK.out]; exact HO2.out), HNN, HB2⟩
          case measure => simp [intOf]; omega
        · have HK : Hid (cmpA (s.take (k + 1)) t = cmpA (s.take k) t ++ [⟨x.v, y⟩]) := Lib.hid (by rw [cmpA_yes HX.out (by rw [HMY.out]; exact decide_eq_false hself), HMY.out])
          have HCS : (((y.kind == 1) = false ∧ (y.kind != 1) = true) ∨ ((y.kind == 1) = true ∧ (y.kind != 1) = false ∧ (y.num == x.v) = false ∧ (y.num != x.v) = true)) := by
            by_cases q : y.kind = 1
            · have q2 : ¬ y.num = x.v := fun e => hself ⟨q, e⟩
              exact .inr ⟨by rw [q]; rfl, by rw [q]; rfl, beq_eq_false_iff_ne.2 q2, bne_iff_ne.2 q2⟩
            · exact .inl ⟨beq_eq_false_iff_ne.2 q, bne_iff_ne.2 q⟩
          obtain ⟨L, hL1, hrow, hch⟩ := HO2.out
          have hLn : m = L.length := by have := congrArg List.length hL1; rw [List.length_map, ← HM.out] at this; exact this
          rw [← hLn] at hrow
          have HROW := Lib.hid hrow
          have HPA := Lib.hid (And.intro hL1 (And.intro hLn hch))
          have hwz : w.heap.size ≤ w4.heap.size := HB2.out.size
          clear hL1 hLn hrow hch hself
          rcases HCS with ⟨g1, g1'⟩ | ⟨g1, g1', g2, g2'⟩
          all_goals
            go_wp2_with (at_builtin; refine wpList_append_lies _ rfl _ _ 25 rfl w.heap.size 58 i0 _ 5 64 Try.underlying25 HII.out.1 HII.out.2.1 HII.out.2.2.1 HII.out.2.2.2 rfl (by omega) (.slice (some ⟨og, 0, none⟩) m oc) m (cellsE bdE L) rfl (HROW.out.alloc _) ⟨w4.heap.size, 0, none⟩ 1 1 (bdE.cells ⟨x.v, y⟩ (.slice qa y.args.length qc)) rfl rfl (World.news_of_block (heap_alloc_new w4 _)) (by simp [bdE, Value.oneCell']) (by omega) (by unfold maxLen; omega) (by omega) (by simp; omega) (w4.heap.size + 1) (by simp) ?_; intro gg cap' w5 hown1 hgrow hat hlt1; have HAP := Lib.hid (And.intro hown1 (And.intro hgrow (And.intro hat hlt1))); clear hown1 hgrow hat hlt1)
            have HBF := Lib.hid ((belowAlloc HB2.out (.cells #[.int .i64 x.v, .int .i64 y.kind, .int .i64 y.num, .string y.name, .slice qa y.args.length qc] 58)).trans (below_of_grown HAP.out.2.1 (by simp; omega) (fun j hj => (HNE.out j hj).1)))
            have HNR : Hid (RowK bdE 58 w5 w.heap.size (.slice (some ⟨gg, 0, none⟩) (m + 1) cap') (cmpA (s.take (k + 1)) t)) := Lib.hid (by
              have h := rowK_append (E := bdE) (x := ⟨x.v, y⟩) HPA.out.2.1 HROW.out HPA.out.2.2 HP2.out (fun b hb => ⟨by rcases hb with hb | hb
                                                                                                                         · have h1 : b < w.heap.size := hb; omega
                                                                                                                         · have := HZ12.out; omega, fun e => by
                                                                                                                          have h1 := HNE.out b e
                                                                                                                          rcases hb with hb | hb
                                                                                                                          · have h2 : b < w.heap.size := hb; omega
                                                                                                                          · omega⟩) (belowAlloc (Below.refl _ _) _) HAP.out.1 HAP.out.2.1 (HAP.out.2.2.1.imp id (fun h => by omega))
              rw [← HPA.out.1, ← HK.out] at h
              exact h)
            have HML : Hid ((cmpA (s.take (k + 1)) t).length = m + 1) := Lib.hid (by rw [HK.out, List.length_append, ← HM.out]; rfl)
            clear HAP HPA HROW HP2 e0 e1 e2 e3 e4 ef b0 b1 b2 b3
            go_wp2
            go_roundw
            case rel => exact ⟨k + 1, gg, cap', by omega, by go_num, by rw [HML.out], HNR, HNN, HBF⟩
            case measure => simp [intOf]; omega
    · obtain rfl : k = s.length := by omega
      have HFT : Hid (∀ b ∈ s, (putT t b.t).nodes ≤ 5000) := Lib.hid fun b hb => by
        obtain ⟨i, hi⟩ := List.getElem?_of_mem hb
        exact HN.out i b (List.getElem?_eq_some_iff.1 hi).1 hi
      have HO1 : Hid (RowK bdE 58 wr w.heap.size (.slice (some ⟨og, 0, none⟩) m oc) (cmpA s t)) := Lib.hid (by have := HO.out; rw [List.take_length] at this; exact this)
      have HM1 : Hid (m = (cmpA s t).length) := Lib.hid (by have := HM.out; rw [List.take_length] at this; exact this)
      have HEC := Lib.hid (cmpB_each HSP.out HTP.out HFT.out)
      clear HO HM HN
      obtain ⟨wo, rfl⟩ : ∃ wo : World, wo = wr := ⟨_, rfl⟩
      go_wp2
      go_loopw [6, 59] (fun lv iv wq => ∃ (j : Nat) (g c : Nat), j ≤ t.length ∧ iv = .int .i64 j ∧ lv = .slice (some ⟨g, 0, none⟩) ((rest s (t.take j)).foldl insB (cmpA s t)).length c ∧ Hid (RowK bdE 58 wq w.heap.size lv ((rest s (t.take j)).foldl insB (cmpA s t))) ∧ Hid (Below w.heap.size w wq)) (fun _ iv _ => t.length - (intOf iv).toNat)
      case atStart => exact ⟨0, og, oc, Nat.zero_le _, rfl, by rw [HM1.out]; rfl, HO1, HB⟩
      case round =>
        obtain ⟨j, pg, pc, hj, rfl, rfl, HP, HQ⟩ := hrel
        obtain ⟨q, hq⟩ : ∃ q, q = (rest s (t.take j)).foldl insB (cmpA s t) := ⟨_, rfl⟩
        have hql : q.length ≤ 1048575 := by
          rw [hq, foldB_length]
          have h1 := rest_len s t j
          have h2 := cmpA_len s t s.length
          rw [List.take_length] at h2
          omega
        rw [← hq] at HP ⊢
        have HQE := Lib.hid hq
        clear hq HO1 HB HM1
        by_cases hjt : j < t.length
        · have hjI : (j : Int) < (t.length : Int) := by omega
          obtain ⟨x, hx⟩ : ∃ x, t[j]? = some x := ⟨_, List.getElem?_eq_getElem hjt⟩
          obtain ⟨g, off, u1, u2, rfl, hg, hqq, hc, hu⟩ := HT.out.bd hx
          obtain ⟨d0, d1, d2, d3, d4⟩ := hc wr HQ.out
          have HX := Lib.hid hx
          have HU := Lib.hid (hu.kept HQ.out)
          clear hqq hc hu hx
          go_upto_region 16 with (fail)
          have hal : Below wr.heap.size wr (wr.alloc (.cells #[.int .i64 x.v, .int .i64 x.t.kind, .int .i64 x.t.num, .string x.t.name, .slice u1 x.t.args.length u2] 58)) := belowAlloc (Below.refl _ _) _
          have HBX := Lib.hid (at_box_of wr #[.int .i64 x.v, .int .i64 x.t.kind, .int .i64 x.t.num, .string x.t.name, .slice u1 x.t.args.length u2] 58 wr.heap.size rfl)
          have HP1 := Lib.hid (HP.out.kept hal)
          have HQ1 := Lib.hid (belowOn HQ.out (Nat.le_refl _) hal)
          have HU1 := Lib.hid (HU.out.kept hal)
          clear hal d0 d1 d2 d3 d4 HQ HU HP
          generalize hw1 : wr.alloc (.cells #[.int .i64 x.v, .int .i64 x.t.kind, .int .i64 x.t.num, .string x.t.name, .slice u1 x.t.args.length u2] 58) = w2 at HBX HQ1 HU1 HP1 ⊢
          clear hw1
          generalize wr.heap.size = nb at HBX ⊢
          obtain ⟨e0, e1, e2, e3, e4, ef⟩ := box_cells5 HBX.out.now
          have HG := Lib.hid (specGet_any s _ x.v Any w2 (HA.out.any.kept HQ1.out) hL)
          go_wp2_with fail
          refine HG.out.mono ?_
          rintro e w3 ⟨v, rfl, hv, hb⟩
          obtain ⟨va, vc, rfl⟩ := hv.at.slice
          have hal : Below w3.heap.size w3 (w3.alloc (.cells #[.int .i64 (getT s x.v).kind, .int .i64 (getT s x.v).num, .string (getT s x.v).name, .slice va (getT s x.v).args.length vc] 31)) := belowAlloc (Below.refl _ _) _
          have HP3 := Lib.hid ((HP1.out.kept hb).kept hal)
          have HQ3 := Lib.hid (belowOn HQ1.out (Nat.le_refl _) (belowOn hb (Nat.le_refl _) hal))
          have HU3 := Lib.hid ((HU1.out.kept hb).kept hal)
          have HBX3 := Lib.hid ((HBX.out.read hb).read hal)
          clear hv hb hal HG HP1 HQ1 HU1 HBX e0 e1 e2 e3 e4 ef
          go_upto_region 17 with (fail)
          generalize hw1 : w3.alloc (.cells #[.int .i64 (getT s x.v).kind, .int .i64 (getT s x.v).num, .string (getT s x.v).name, .slice va (getT s x.v).args.length vc] 31) = w4 at HP3 HQ3 HU3 HBX3 ⊢
          clear hw1
          obtain ⟨e0, e1, e2, e3, e4, ef⟩ := box_cells5 HBX3.out.now
          cases hgb : getB s x.v with
          | true =>
            have HK := Lib.hid (rest_not HX.out hgb (cmpA s t))
            clear hgb
            go_wp2
            go_roundw
            case rel => exact ⟨j + 1, pg, pc, by omega, by go_num, by rw [HK.out, ← HQE.out], Lib.hid (by rw [HK.out, ← HQE.out]; exact HP3.out), HQ3⟩
            case measure => simp [intOf]; omega
          | false =>
            have HK := Lib.hid (restB_yes HX.out hgb (cmpA s t))
            have HI := Lib.hid (specInsert_any q pg pc w.heap.size x _ _ w4 HP3.out HU3.out (by omega))
            clear hgb
            go_wp2_with fail
            refine HI.out.mono ?_
            rintro e w5 ⟨v5, rfl, hr5, hb⟩
            have h1 : 0 < (insB q x).length := by rw [insB_length]; omega
            obtain ⟨g5, c5, rfl⟩ := hr5.some h1
            have HR5 : Hid (RowK bdE 58 w5 w.heap.size (.slice (some ⟨g5, 0, none⟩) (insB q x).length c5) (insB q x)) := Lib.hid (hr5.rowK (by have := HQ3.out.size; omega) (by have := hr5.size h1; omega))
            have HQ5 := Lib.hid (belowOn HQ3.out (Nat.le_refl _) hb)
            clear hr5 hb h1 HI e0 e1 e2 e3 e4 ef
            go_wp2
            go_roundw
            case rel => exact ⟨j + 1, g5, c5, by omega, by go_num, by rw [HK.out, ← HQE.out], Lib.hid (by rw [HK.out, ← HQE.out]; exact HR5.out), HQ5⟩
            case measure => simp [intOf]; omega
        · obtain rfl : j = t.length := by omega
          have HQB : Hid (q = cmpB s t) := Lib.hid (by rw [HQE.out, List.take_length]; rfl)
          have HS := Lib.hid (specSubstOk_any q _ wr HP.out.inS (by rw [HQB.out]; exact HEC.out))
          go_wp2_with fail
          refine HS.out.mono ?_
          rintro e w2 ⟨rfl, hb⟩
          have HQ2 := Lib.hid (belowOn HQ.out (Nat.le_refl _) hb)
          have HL2 := Lib.hid (HP.out.inS.kept hb)
          clear hb HS
          cases hs : substB q with
          | false =>
            obtain ⟨rfl, rfl⟩ := HNO.out fun h => by
              have := h.2.2.2
              rw [← HQB.out] at this
              exact substB_false.1 hs this
            clear hs
            go_wp2
            go_ret2
            exact ⟨_, rfl, .nil _ _, HQ2.out⟩
          | true =>
            obtain ⟨rfl, rfl⟩ := HYES.out ⟨HSP.out, HTP.out, HFT.out, by rw [← HQB.out]; exact substB_true.1 hs⟩
            have HC := Lib.hid (specCopyB_any q _ w2 HL2.out (by rw [HQB.out]; exact HEC.out))
            clear hs
            go_wp2_with fail
            refine HC.out.mono ?_
            rintro e w3 ⟨v, rfl, hv, hb⟩
            have HQ3 := Lib.hid (belowOn HQ2.out (Nat.le_refl _) hb)
            have HV3 := Lib.hid hv
            clear hv hb HC
            go_wp2
            go_ret2
            exact ⟨_, rfl, by rw [← HQB.out]; exact HV3.out, HQ3.out⟩
end Go.Proofs.Ytjmmeccfjanpcaa

