/-
  The model's l07Names, Canonical, l07Apply, Reify.
-/
import Derived.Test.YtdgkhimledcfbaaSpecName
import Derived.Test.YtdgkhimledcfbaaSpecMatch
import Derived.Deep.RegionLaw
import Derived.Deep.AppendLies
namespace Go.Proofs.Ytdgkhimledcfbaa
open Go.RowKit
set_option linter.unusedVariables false
set_option linter.unusedSimpArgs false

/-! ### The names as bindings -/
def namesB (k : List Int) : Nat → List Bd
  | 0 => []
  | j + 1 => insB (namesB k j) ⟨k.getD j 0, varTm j⟩
theorem namesB_len (k : List Int) : ∀ j, (namesB k j).length = j
  | 0 => rfl
  | j + 1 => by rw [namesB, insB_length, namesB_len k j]
theorem namesB_step {k : List Int} {j : Nat} {v : Int} (h : k[j]? = some v) : namesB k (j + 1) = insB (namesB k j) ⟨v, varTm j⟩ := by
  rw [namesB, List.getD_eq_getElem?_getD, h]; rfl
theorem names_get {k : List Int} (hn : k.Nodup) : ∀ j, j ≤ k.length → (namesB k j).Pairwise (fun a b => a.v < b.v) ∧ (∀ v, getO (namesB k j) v = if idxI k v < j then some (varTm (idxI k v)) else none)
  | 0, _ => ⟨List.Pairwise.nil, fun v => by rw [if_neg (Nat.not_lt_zero _)]; rfl⟩
  | j + 1, hj => by
    obtain ⟨h1, h2⟩ := names_get hn j (by omega)
    obtain ⟨v, hv⟩ : ∃ v, k[j]? = some v := ⟨_, List.getElem?_eq_getElem (by omega)⟩
    have hi := idxI_at hn hv
    rw [namesB_step hv]
    have h0 : getO (namesB k j) v = none := by rw [h2, if_neg (by omega)]
    obtain ⟨h3, h4⟩ := insB_get (b := ⟨v, varTm j⟩) h1 h0
    refine ⟨h3, fun u => ?_⟩
    rw [h4]
    by_cases e : u = v
    · subst e
      rw [updO_self, hi, if_pos (Nat.lt_succ_self _)]
    · rw [updO_ne _ _ e, h2]
      have hne : ¬ idxI k u = j := fun h => by
        by_cases hu : u ∈ k
        · have := idxI_in hu
          rw [h, hv] at this
          cases this
          exact e rfl
        · have := idxI_out hu
          omega
      by_cases hlt : idxI k u < j
      · rw [if_pos hlt, if_pos (by omega)]
      · rw [if_neg hlt, if_neg (by omega)]
/-- The names put into a term number its variables. -/
theorem names_put {k : List Int} (hn : k.Nodup) {t : Tm} (h : Good t) (hv : ∀ v ∈ t.vl, v ∈ k) : putT (namesB k k.length) t = canT k t := by
  rw [put_ev h]
  refine ev_congr h fun v hvt => ?_
  have := (names_get hn k.length (Nat.le_refl _)).2 v
  rw [if_pos (idxI_lt (hv v hvt))] at this
  exact sgm_bound this
theorem names_fit (k : List Int) (hk : k.length ≤ 100001) : ∀ j, j ≤ k.length → ∀ b ∈ namesB k j, Good b.t ∧ b.t.nodes = 1
  | 0, _ => fun b hb => by cases hb
  | j + 1, hj => fun b hb => by
    rw [namesB] at hb
    rcases insB_mem.1 hb with rfl | hb
    · exact ⟨.var _ (by show (0 : Int) ≤ (j : Int); omega) (by show (j : Int) ≤ 100000; omega), rfl⟩
    · exact names_fit k hk j (by omega) b hb

theorem Vals.ints {w : World} {V : Value} {k : List Int} (h : Vals w V (k.map (Value.int .i64))) : ∃ a c, V = .slice a k.length c := by
  obtain ⟨a, c, hv, _⟩ := h
  exact ⟨a, c, by rw [hv, List.length_map]⟩
theorem Vals.at {w : World} {a : Option Addr} {n c : Nat} {k : List Int} (h : Vals w (.slice a n c) (k.map (Value.int .i64))) {j : Nat} {v : Int} (hv : k[j]? = some v) :
    ∃ g off, a = some ⟨g, off, none⟩ ∧ g < w.heap.size ∧ ∀ W, Below w.heap.size w W → W.cell? ⟨g, off + j, none⟩ = some (.int .i64 v) := by
  obtain ⟨a', c', he, hk⟩ := h
  simp only [Value.slice.injEq] at he
  obtain ⟨rfl, _, _⟩ := he
  rcases hk with hk | ⟨g, off, rfl, hg, hc⟩
  · rw [List.map_eq_nil_iff] at hk
    rw [hk] at hv
    simp at hv
  · exact ⟨g, off, rfl, hg, fun W hW => (hW.cell (p := ⟨g, off + j, none⟩) hg).trans (hc j _ (by rw [List.getElem?_map, hv]; rfl))⟩

set_option maxRecDepth 100000 in
set_option maxHeartbeats 2000000 in
theorem specNames_any (k : List Int) (V : Value) (w : World) (hV : Vals w V (k.map (Value.int .i64))) (hk : k.length ≤ 100001) :
    Calls Try.prog 79 #[V] w fun e w' => ∃ u, e = .returned u ∧ ListS bdE w' Any u (namesB k k.length) ∧ Below w.heap.size w w' := by
  obtain ⟨va, vc, rfl⟩ := hV.ints
  have HV := Lib.hid hV
  have HL0 : Hid (VL (w.alloc (.cells #[] 40)) (.slice (some ⟨w.heap.size, 0, none⟩) 0 0) []) := Lib.hid (.inr ⟨w.heap.size, 0, w.heap.size, rfl, rowK_start⟩)
  have HB0 : Hid (Below w.heap.size w (w.alloc (.cells #[] 40))) := Lib.hid (belowAlloc (Below.refl _ _) _)
  clear hV
  go_enter Try.func79, Try.ntmps79
  go_wp2
  go_loopw [3, 9] (fun lv i wr => ∃ (j : Nat), j ≤ k.length ∧ i = .int .i64 j ∧ Hid (VL wr lv (namesB k j)) ∧ Hid (Below w.heap.size w wr))
      (fun _ i _ => k.length - (intOf i).toNat)
  case atStart => exact ⟨0, Nat.zero_le _, rfl, HL0, HB0⟩
  case round =>
    obtain ⟨j, hj, rfl, HL, HB⟩ := hrel
    clear HL0 HB0
    by_cases hlt : j < k.length
    · obtain ⟨v, hv⟩ : ∃ v, k[j]? = some v := ⟨_, List.getElem?_eq_getElem hlt⟩
      obtain ⟨g, off, rfl, hg, hc⟩ := HV.out.at hv
      have d0 := hc wr HB.out
      have hgw : g < wr.heap.size := Nat.lt_of_lt_of_le hg HB.out.size
      have HST := Lib.hid (namesB_step hv)
      have HLN := Lib.hid (namesB_len k j)
      have HC1 := Lib.hid (var_any (j : Int) wr)
      clear hv
      go_wp2_with fail
      refine HC1.out.mono ?_
      rintro e w1 ⟨rfl, hb⟩
      have HL1 := Lib.hid (HL.out.kept hb)
      have HB1 := Lib.hid (belowOn HB.out (Nat.le_refl _) hb)
      clear hb HC1 hc HL HB d0 hgw
      have HC := Lib.hid (specInsertV_any (namesB k j) u3 ⟨v, varTm j⟩ (.slice none 0 0) (fun _ => False) w1 HL1.out (.nil _ _) (by rw [HLN.out]; omega))
      go_wp2_with fail
      refine HC.out.mono ?_
      rintro e w2 ⟨u, rfl, hl, hb⟩
      have HL2 := Lib.hid hl
      have HB2 := Lib.hid (belowOn HB1.out (Nat.le_refl _) hb)
      clear hl hb HC HL1 HB1
      go_wp2
      go_roundw
      case rel => exact ⟨j + 1, by omega, by go_num, Lib.hid (by rw [HST.out]; exact HL2.out), HB2⟩
      case measure => simp [intOf]; omega
    · obtain rfl : j = k.length := by omega
      have HLL := Lib.hid HL.out.inS
      go_wp2
      go_ret
      exact ⟨_, rfl, HLL.out, HB.out⟩

/-! ### Rows of terms that hold what lies anywhere -/
def tmE : El Tm where
  n := 4
  cells := cells4
  kid := fun w S U t => ArgsS w S U t.args
  own := fun w S U t => Own w 25 S U t.args
  pos := by decide
  len := fun _ _ => rfl
  kidFrame := fun h hs hb => h.frame hs hb
  kidSub := fun h hS => h.sub hS
  ownFrame := fun h hb => h.frame hb
  ownSub := fun h hS => h.sub hS
  ownKid := fun h => h.inS
theorem cellsE_tm (L : List (Tm × Value)) : cellsE tmE L = cellsL L := rfl
theorem ListS.tms {w : World} {S : Nat → Prop} {v : Value} {l : List Tm} (h : ListS tmE w S v l) : ArgsS w S v l := by
  cases h with
  | nil a cap => exact .nil a cap
  | row g off n cap L l hl hn hS hg hc hr =>
    subst hl
    refine .row g off n cap (fun j => ((L[j]?).map Prod.snd).getD (.slice none 0 0)) _ (by rw [hn, List.length_map]) hS hg (fun j t hj i u hu => ?_) (fun j t hj => ?_)
    · rw [List.getElem?_map] at hj
      cases hp : L[j]? with
      | none => rw [hp] at hj; cases hj
      | some p =>
        rw [hp] at hj
        cases hj
        rw [hp] at hu
        exact hc _ _ (cellsE_at (E := tmE) hp hu)
    · rw [List.getElem?_map] at hj
      cases hp : L[j]? with
      | none => rw [hp] at hj; cases hj
      | some p =>
        rw [hp] at hj
        cases hj
        exact hr j p hp

set_option maxRecDepth 100000 in
set_option maxHeartbeats 4000000 in
theorem specCanonical_e (l : List Tm) (V : Value) (w : World) (hA : ArgsAt w V l) (hE : EachT l) :
    Calls Try.prog 43 #[V] w fun e w' => ∃ u, e = .returned u ∧ ArgsAt w' u (cnL l) ∧ Below w.heap.size w w' := by
  obtain ⟨i0, hi, hz0, hz1, hz2⟩ := info_parts infoTerm
  have HII := Lib.hid (And.intro hi (And.intro hz0 (And.intro hz1 hz2)))
  obtain ⟨a, cap, rfl⟩ := hA.slice
  have HO := Lib.hid (specAllOk_e l _ w hA hE)
  have HA := Lib.hid hA
  have HE := Lib.hid hE
  have hL := hE.1
  obtain ⟨q, hq⟩ : ∃ q, l.all okB = q := ⟨_, rfl⟩
  rw [hq] at HO
  have HQ := Lib.hid hq
  clear hA hE hq hi hz0 hz1 hz2
  go_enter Try.func43, Try.ntmps43
  go_wp2_with fail
  refine HO.out.mono ?_
  rintro e w1 ⟨rfl, hb⟩
  have HB1 := Lib.hid hb
  clear hb HO
  cases q with
  | false =>
    go_wp2
    go_ret
    exact ⟨_, rfl, by rw [cn_no HQ.out]; exact .nil _ _, HB1.out⟩
  | true =>
    have HV : Hid (cnL l = l.map (canT (ordOf l))) := Lib.hid (cn_yes HQ.out)
    have HC := Lib.hid (specOrdered_any l _ w1 (HA.out.kept HB1.out) HE.out)
    rw [ov_yes HQ.out] at HC
    have HPUT : Hid (∀ t ∈ l, putT (namesB (ordOf l) (ordOf l).length) t = canT (ordOf l) t) := Lib.hid fun t ht => names_put (ordL_nodup _ _ List.nodup_nil) (all_ok HQ.out t ht).2 fun v hv => (ordL_mem _ _).2 (.inr (mem_vlL.2 ⟨t, ht, hv⟩))
    have hol := ord_len HQ.out
    obtain ⟨o, ho⟩ : ∃ o, ordOf l = o := ⟨_, rfl⟩
    rw [ho] at HC HV HPUT hol
    clear ho
    go_wp2_with fail
    refine HC.out.mono ?_
    rintro e w2 ⟨u, rfl, hr, hb⟩
    have HB2 := Lib.hid (belowOn HB1.out (Nat.le_refl _) hb)
    have HC2 := Lib.hid (specNames_any o u w2 hr.vals hol)
    clear hr hb HC HB1
    go_wp2_with fail
    refine HC2.out.mono ?_
    rintro e w3 ⟨s, rfl, hs, hb⟩
    obtain ⟨sa, sc, rfl⟩ := hs.slice
    have HNS := Lib.hid hs
    have HB3 := Lib.hid (belowOn HB2.out (Nat.le_refl _) hb)
    have HNL : Hid ((namesB o o.length).length = o.length) := Lib.hid (namesB_len o o.length)
    have hw3 : w.heap.size ≤ w3.heap.size := HB3.out.size
    clear hs hb HC2 HB2
    obtain ⟨s, hs⟩ : ∃ s, namesB o o.length = s := ⟨_, rfl⟩
    rw [hs] at HNS HNL HPUT ⊢
    clear hs
    have HR0 := Lib.hid (rowK_start (E := tmE) (e := 25) (w := w3))
    have HB4 : Hid (Below w3.heap.size w3 (w3.alloc (.cells #[] 25))) := Lib.hid (belowAlloc (Below.refl _ _) _)
    go_wp2
    go_loopw [4, 16] (fun lv iv wr => ∃ k : Nat, k ≤ l.length ∧ iv = .int .i64 k ∧ Hid (RowK tmE 25 wr w3.heap.size lv ((l.take k).map (canT o))) ∧ Hid (Below w3.heap.size w3 wr)) (fun _ iv _ => l.length - (intOf iv).toNat)
    case atStart => exact ⟨0, Nat.zero_le _, rfl, HR0, HB4⟩
    case round =>
      obtain ⟨k, hk, rfl, HO, HB⟩ := hrel
      obtain ⟨oa, oc, rfl⟩ := HO.out.slice
      clear HR0 HB4
      by_cases hlt : k < l.length
      · obtain ⟨x, hx⟩ : ∃ x, l[k]? = some x := ⟨_, List.getElem?_eq_getElem hlt⟩
        have HWB3 := Lib.hid (belowOn HB3.out (Nat.le_refl _) HB.out)
        obtain ⟨g, off, u1, u2, rfl, hg, hq, hc, hu⟩ := HA.out.elem hx
        obtain ⟨d0, d1, d2, d3⟩ := hc wr HWB3.out
        have hgw : g < wr.heap.size := Nat.lt_of_lt_of_le hg HWB3.out.size
        have HTK : Hid ((l.take (k + 1)).map (canT o) = (l.take k).map (canT o) ++ [canT o x]) := Lib.hid (by rw [takeE hx, List.map_append]; rfl)
        have HU := Lib.hid (at_args (hu.kept HWB3.out))
        have HOX := Lib.hid (all_ok HQ.out x (List.mem_of_getElem? hx))
        have HZX := Lib.hid (HE.out.at hx)
        have HPX := Lib.hid (HPUT.out x (List.mem_of_getElem? hx))
        have hkl : ((l.take k).map (canT o)).length = k := by rw [List.length_map, List.length_take]; omega
        have HKL := Lib.hid hkl
        clear hq hc hu hx hkl
        go_upto_region 8 with (fail)
        have hal : Below wr.heap.size wr (wr.alloc (.cells #[.int .i64 x.kind, .int .i64 x.num, .string x.name, .slice u1 x.args.length u2] 25)) := belowAlloc (Below.refl _ _) _
        have HBX := Lib.hid (at_box_of wr #[.int .i64 x.kind, .int .i64 x.num, .string x.name, .slice u1 x.args.length u2] 25 wr.heap.size rfl)
        have HO1 := Lib.hid (HO.out.kept hal)
        have HB1 := Lib.hid (belowOn HB.out (Nat.le_refl _) hal)
        have HU1 := Lib.hid (HU.out.read hal)
        clear hal d0 d1 d2 d3 HO HB HU HWB3
        generalize hw1 : wr.alloc (.cells #[.int .i64 x.kind, .int .i64 x.num, .string x.name, .slice u1 x.args.length u2] 25) = w5 at HBX HO1 HB1 HU1 ⊢
        clear hw1
        generalize wr.heap.size = nb at HBX ⊢
        have HCP := Lib.hid (specPut4_any s (by have := HNL.out; omega) (x.nodes + 1) x _ _ (fun k => k < w5.heap.size) w5 (Nat.lt_succ_self _) (fun k hk => hk) (HNS.out.kept HB1.out).lowB HU1.out.argsAt.inS HZX.out HOX.out.2)
        obtain ⟨e0, e1, e2, e3⟩ := HBX.out.cells
        have ze := HBX.out.le
        obtain ⟨L, hL1, hrow, hch⟩ := HO1.out
        have hLn : k = L.length := by have := congrArg List.length hL1; rw [HKL.out, List.length_map] at this; exact this
        rw [← hLn] at hrow
        have HROW := Lib.hid hrow
        have HPA := Lib.hid (And.intro hL1 (And.intro hLn hch))
        have HNE := Lib.hid (rowK_block HO1.out)
        have HWZ := Lib.hid HB1.out.size
        have hwz : w3.heap.size ≤ w5.heap.size := HB1.out.size
        rw [HKL.out] at HROW HNE HPA ⊢
        clear hL1 hLn hrow hch HU1 HBX HO1
        go_wp2_with fail
        refine HCP.out.mono ?_
        rintro e w6 ⟨p, rfl, hp, hb6⟩
        obtain ⟨pa, pc, rfl⟩ := hp.at.slice
        have HP6 := Lib.hid hp.at
        have HB6 := Lib.hid hb6
        have hwz6 : w3.heap.size ≤ w6.heap.size := Nat.le_trans hwz hb6.size
        have HPS : Hid ((putT s x).sz ≤ 1048576 ∧ (putT s x).nodes ≤ 5000) := Lib.hid (by
          rw [HPX.out]
          unfold canT
          rw [ren_sz HOX.out.2, ren_nodes HOX.out.2]
          exact ⟨HZX.out, HOX.out.1⟩)
        clear hp hb6 HCP e0 e1 e2 e3 ze
        rw [HPX.out] at HP6 HPS ⊢
        obtain ⟨y, hy⟩ : ∃ y, canT o x = y := ⟨_, rfl⟩
        rw [hy] at HP6 HPS HTK ⊢
        clear hy HPX
        have HCC := Lib.hid (specCopy_any (y.nodes + 1) y _ w6 (Nat.lt_succ_self _) HP6.out (by have := HPS.out.1; omega))
        go_wp2_with fail
        refine HCC.out.mono ?_
        rintro e wB ⟨u, rfl, hu, hbB⟩
        obtain ⟨ua, uc, rfl⟩ := hu.at.slice
        have HU := Lib.hid hu
        have HWB := Lib.hid (belowOn HB6.out (Nat.le_refl _) hbB)
        have HS6 := Lib.hid (And.intro HB6.out.size hbB.size)
        have hwzB : w3.heap.size ≤ wB.heap.size := Nat.le_trans hwz6 hbB.size
        clear hu hbB HCC
        go_wp2_with (at_builtin; refine wpList_append_lies _ rfl _ _ 23 rfl w3.heap.size 25 i0 _ 4 56 Try.underlying23 HII.out.1 HII.out.2.1 HII.out.2.2.1 HII.out.2.2.2 rfl (by omega) (.slice oa k oc) k (cellsE tmE L) rfl ((row_kept HROW.out HWB.out).alloc _) ⟨wB.heap.size, 0, none⟩ 1 1 (tmE.cells y (.slice ua y.args.length uc)) rfl rfl (World.news_of_block (heap_alloc_new wB _)) (by simp [tmE, cells4, Value.oneCell']) (by omega) (by unfold maxLen; omega) (by omega) (by simp; omega) (wB.heap.size + 1) (by simp) ?_; intro gg cap w2' hown1 hgrow hat hlt1; have HAP := Lib.hid (And.intro hown1 (And.intro hgrow (And.intro hat hlt1))); clear hown1 hgrow hat hlt1)
        have HBF := Lib.hid ((belowAlloc (belowOn HB1.out (Nat.le_refl _) HWB.out) (.cells #[.int .i64 y.kind, .int .i64 y.num, .string y.name, .slice ua y.args.length uc] 25)).trans (below_of_grown HAP.out.2.1 (by have := HWB.out.size; simp; omega) (fun j hj => (HNE.out j hj).1)))
        have HN : Hid (RowK tmE 25 w2' w3.heap.size (.slice (some ⟨gg, 0, none⟩) (k + 1) cap) ((l.take (k + 1)).map (canT o))) := Lib.hid (by
          have h := rowK_append (E := tmE) (x := y) HPA.out.2.1 (row_kept HROW.out HWB.out) (fun j p hj => by
            obtain ⟨C, c1, c2⟩ := HPA.out.2.2 j p hj
            exact ⟨C, tmE.kidFrame c1 HWB.out.size fun b _ hb => HWB.out.block b hb, fun b hb => ⟨Nat.lt_of_lt_of_le (c2 b hb).1 HWB.out.size, (c2 b hb).2⟩⟩) (C := iv w6.heap.size wB.heap.size) HU.out (fun b hb => ⟨hb.2, fun e => by have h1 := (HNE.out b e).2; have h2 := hb.1; have h3 := HS6.out.1; omega⟩) (belowAlloc (Below.refl _ _) _) HAP.out.1 HAP.out.2.1 (HAP.out.2.2.1.imp id (fun h => by omega))
          rw [← HPA.out.1, ← HTK.out] at h
          exact h)
        clear HAP HPA HROW HU HNE
        go_wp2
        go_roundw
        case rel => exact ⟨k + 1, by omega, by go_num, HN, HBF⟩
        case measure => simp [intOf]; omega
      · obtain rfl : k = l.length := by omega
        have HL : Hid (ArgsAt wr (.slice oa ((l.take l.length).map (canT o)).length oc) (cnL l)) := Lib.hid (by
          have h := HO.out.inS.tms.at
          have e : (l.take l.length).map (canT o) = cnL l := by rw [List.take_length, HV.out]
          rw [e] at h ⊢
          exact h)
        have HBW := Lib.hid (belowOn HB3.out (Nat.le_refl _) HB.out)
        clear HO
        go_wp2
        go_ret
        exact ⟨_, rfl, HL.out, HBW.out⟩
end Go.Proofs.Ytdgkhimledcfbaa

