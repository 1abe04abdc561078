/-
  The program's OrderedVars and VarBound.
-/
import Derived.Test.YtjpkkhhcpcokaaaNaming
import Derived.Test.YtjpkkhhcpcokaaaTermsOk
import Derived.Test.YtjpkkhhcpcokaaaAppendV
import Derived.Deep.AppendLies
import Derived.Lib.MinMax
namespace Go.Proofs.Ytjpkkhhcpcokaaa
open Go.RowKit
set_option linter.unusedVariables false
set_option linter.unusedSimpArgs false

theorem Row.only {w w' : World} {S : Nat → Prop} {base : Nat} {e : TypeId} {v : Value} {xs : List Value} (h : Row w base e v xs) (ho : Only S w w') (hS : ∀ k, v.ownBlock = some k → ¬ S k) : Row w' base e v xs :=
  rowE_moved h fun k hk => ho.block k (h.lt k hk) (hS k hk)
theorem only_grown_own {w w' : World} {r : Option Nat} (h : w.grownBy w' r) : Only (fun j => r = some j) w w' := ⟨h.os, h.tape, h.output, h.size, fun k hk hn => h.block k hk fun e => hn e.symm⟩
theorem ord_sub {k vs : List Int} {v : Int} (h : v ∈ k) : ordL k (v :: vs) = ordL k vs := by rw [ordL_cons, ordAdd_in h]
/-- Whether a variable is new: its number is the length of the order so far. -/
theorem new_iff {o rest : List Int} {v : Int} {K : List Int} (hK : ordL o (v :: rest) = K) : (((idxI K v : Nat) : Int) == (o.length : Int)) = decide (¬ v ∈ o) := by
  have h : idxI K v = idxI o v := by rw [← hK, idxI_first]
  by_cases hv : v ∈ o
  · have := idxI_lt hv
    rw [decide_eq_false (by simpa using hv), beq_eq_false_iff_ne]
    omega
  · have := idxI_out hv
    rw [decide_eq_true hv, beq_iff_eq]
    omega
theorem drop_consT {l : List Tm} {k : Nat} {x : Tm} (h : l[k]? = some x) : l.drop k = x :: l.drop (k + 1) := by
  obtain ⟨h1, h2⟩ := List.getElem?_eq_some_iff.1 h
  rw [List.drop_eq_getElem_cons h1, h2]
theorem drop_consI {l : List Int} {k : Nat} {x : Int} (h : l[k]? = some x) : l.drop k = x :: l.drop (k + 1) := by
  obtain ⟨h1, h2⟩ := List.getElem?_eq_some_iff.1 h
  rw [List.drop_eq_getElem_cons h1, h2]
theorem take_snocJ {l : List Int} {j : Nat} {t : Int} (h : l[j]? = some t) : l.take (j + 1) = l.take j ++ [t] := by
  rw [List.take_add_one, h]; rfl
theorem vlL_cons (t : Tm) (l : List Tm) : vlL (t :: l) = t.vl ++ vlL l := by rw [vlL]

set_option maxRecDepth 100000 in
set_option maxHeartbeats 4000000 in
theorem implOrdered_e (l : List Tm) (V : Value) (w : World) (hA : ArgsAt w V l) (hE : EachT l) :
    Calls Try.prog 82 #[V] w fun e w' => ∃ u, e = .returned u ∧ Row w' w.heap.size 3 u ((ovL l).map (Value.int .i64)) ∧ Below w.heap.size w w' := by
  obtain ⟨i0, hi, hz0, hz1, hz2⟩ := info_parts infoInt
  have HII := Lib.hid (And.intro hi (And.intro hz0 (And.intro hz1 hz2)))
  obtain ⟨a, cap, rfl⟩ := hA.slice
  have HO := Lib.hid (termsOk_e l _ w hA hE)
  have HA := Lib.hid hA
  have HE := Lib.hid hE
  have hL := hE.1
  obtain ⟨q, hq⟩ : ∃ q, l.all okB = q := ⟨_, rfl⟩
  unfold allOkB at HO
  rw [hq] at HO
  have HQ := Lib.hid hq
  clear hA hE hq hi hz0 hz1 hz2
  go_enter Try.func82, Try.ntmps82
  go_wp2_with fail
  refine HO.out.mono ?_
  rintro e w1 ⟨rfl, hb⟩
  have HB1 := Lib.hid hb
  clear hb HO
  cases q with
  | false =>
    go_wp2
    go_ret
    exact ⟨_, rfl, by rw [ov_no HQ.out]; exact Row.nil _ _ _, HB1.out⟩
  | true =>
    have HV := Lib.hid (ov_yes HQ.out)
    have hol := ord_len HQ.out
    have HNM := Lib.hid (numbering_any (vlL l) w1)
    go_wp2_with fail
    refine HNM.out.mono ?_
    rintro e w2 ⟨nb, b, rfl, hN, ⟨hl1, hl2⟩, hb⟩
    have HN := Lib.hid hN
    have HBB : Hid (nb < w2.heap.size ∧ b < w2.heap.size ∧ w1.heap.size ≤ nb ∧ w1.heap.size ≤ b) := Lib.hid ⟨hN.lt.1, hN.lt.2, hl1, hl2⟩
    have HB2 := Lib.hid (belowOn HB1.out (Nat.le_refl _) hb)
    have HB12 := Lib.hid (And.intro HB1.out.size hb.size)
    clear hN hl1 hl2 hb HNM HB1
    obtain ⟨K, hK⟩ : ∃ K, ordL [] (vlL l) = K := ⟨_, rfl⟩
    have HK := Lib.hid hK
    have HKL : Hid (K.length ≤ 100001) := Lib.hid (by rw [← hK]; exact hol)
    rw [hK] at HN
    clear hK hol
    have HVR : Hid (∀ v ∈ vlL l, 0 ≤ v ∧ v ≤ 100000) := Lib.hid (vl_range HQ.out)
    go_wp2
    go_loopw [3, 15] (fun vv i wr => ∃ (k : Nat), k ≤ l.length ∧ i = .int .i64 k ∧ Hid (Row wr w2.heap.size 3 vv ((ordL [] (vlL (l.take k))).map (Value.int .i64))) ∧ Hid (NumW nb b K (vlL (l.drop k)) wr) ∧ Hid (Only (fun j => j = b) w2 wr))
        (fun _ i _ => l.length - (intOf i).toNat)
    case atStart => exact ⟨0, Nat.zero_le _, rfl, Lib.hid (Row.nil _ _ _), HN, Lib.hid (Only.refl _ _)⟩
    case round =>
      obtain ⟨k, hk, rfl, HR, HNR, HOR⟩ := hrel
      clear HN
      have HWR : Hid (Below w.heap.size w wr) := Lib.hid (by
        have h1 := HOR.out
        have h2 := HBB.out
        have h3 := HB12.out
        exact HB2.out.trans ⟨h1.os, h1.tape, h1.output, by have := h1.size; omega, fun j hj => h1.block j (by omega) (by omega)⟩)
      obtain ⟨ra, rc, rfl⟩ := HR.out.slice
      by_cases hlt : k < l.length
      · obtain ⟨x, hx⟩ : ∃ x, l[k]? = some x := ⟨_, List.getElem?_eq_getElem hlt⟩
        obtain ⟨g, off, u1', u2', rfl, hg, hq, hc, hch⟩ := HA.out.elem hx
        clear hq
        obtain ⟨d0, d1, d2, d3⟩ := hc _ HWR.out
        have hgw : g < wr.heap.size := Nat.lt_of_lt_of_le hg HWR.out.size
        have HVT : Hid (vlL (l.take (k + 1)) = vlL (l.take k) ++ x.vl ∧ vlL (l.drop k) = x.vl ++ vlL (l.drop (k + 1))) := Lib.hid ⟨vl_take hx, by rw [drop_consT hx, vlL_cons]⟩
        have HOX := Lib.hid (all_ok HQ.out x (List.mem_of_getElem? hx))
        have HZX := Lib.hid (HE.out.at hx)
        have HXR : Hid (∀ v ∈ x.vl, 0 ≤ v ∧ v ≤ 100000) := Lib.hid (good_vrange HOX.out.2)
        have hxl : x.vl.length ≤ 5000 := by have := vl_len x; have := HOX.out.1; omega
        have hal : Below wr.heap.size wr (wr.alloc (.cells #[.int .i64 x.kind, .int .i64 x.num, .string x.name, .slice u1' x.args.length u2'] 46)) := (Below.refl _ _).alloc (Nat.le_refl _) _
        have HCALL := Lib.hid (appendVars_any (x.nodes + 1) x _ w (wr.alloc (.cells #[.int .i64 x.kind, .int .i64 x.num, .string x.name, .slice u1' x.args.length u2'] 46)).heap.size (.slice none 0 0) [] _ (Nat.lt_succ_self _) hch (Nat.le_trans HWR.out.size hal.size) (belowOn HWR.out (Nat.le_refl _) hal) (Nat.le_refl _) (Row.nil _ _ _) (by have := HOX.out.1; simp; omega) HZX.out)
        have HAL := Lib.hid hal
        clear hal hc hch hx
        go_wp2_with fail
        refine HCALL.out.mono ?_
        rintro e w4 ⟨u, rfl, hr4, hb4⟩
        rw [List.nil_append] at hr4
        obtain ⟨ua, uc, rfl⟩ := hr4.slice
        have HX4 := Lib.hid hr4
        have HB4 : Hid (Below wr.heap.size wr w4) := Lib.hid (belowOn HAL.out (Nat.le_refl _) hb4)
        have HLO : Hid (wr.heap.size ≤ (wr.alloc (.cells #[.int .i64 x.kind, .int .i64 x.num, .string x.name, .slice u1' x.args.length u2'] 46)).heap.size) := Lib.hid HAL.out.size
        clear hr4 hb4 HCALL d0 d1 d2 d3 HAL hgw
        generalize (wr.alloc (.cells #[.int .i64 x.kind, .int .i64 x.num, .string x.name, .slice u1' x.args.length u2'] 46)).heap.size = lo4 at HX4 HLO
        have HR4 := Lib.hid (HR.out.kept HB4.out)
        have HN4 := Lib.hid (HNR.out.kept HB4.out)
        have HO4 : Hid (Only (fun j => j = b) w2 w4) := Lib.hid (HOR.out.trans (Only.of_below HB4.out))
        have HS4 : Hid (∀ g, (Value.slice ra (ordL [] (vlL (l.take k))).length rc).ownBlock = some g → g < wr.heap.size) := Lib.hid HR.out.lt
        have HSZ : Hid (w2.heap.size ≤ wr.heap.size) := Lib.hid HOR.out.size
        clear HR HNR HOR
        go_wp2
        go_loopw [3, 22] (fun vv i wq => ∃ (j : Nat), j ≤ x.vl.length ∧ i = .int .i64 j ∧ Hid (Row wq w2.heap.size 3 vv ((ordL [] (vlL (l.take k) ++ x.vl.take j)).map (Value.int .i64))) ∧ Hid (NumW nb b K (x.vl.drop j ++ vlL (l.drop (k + 1))) wq) ∧ Hid (Only (fun j => j = b) w2 wq) ∧ Hid (Row wq lo4 3 (.slice ua x.vl.length uc) (x.vl.map (Value.int .i64))) ∧
            Hid (∀ g, vv.ownBlock = some g → ¬ (Value.slice ua x.vl.length uc).ownBlock = some g))
            (fun _ i _ => x.vl.length - (intOf i).toNat)
        case atStart =>
          refine ⟨0, Nat.zero_le _, rfl, Lib.hid (by rw [List.take_zero, List.append_nil]; exact HR4.out), Lib.hid (by rw [List.drop_zero, ← HVT.out.2]; exact HN4.out), HO4, HX4, Lib.hid fun g hg hx => ?_⟩
          have h1 := HS4.out g hg
          have h2 := HX4.out.ge g hx
          have h3 := HLO.out
          omega
        case round =>
          obtain ⟨j, hj, rfl, HRq, HNq, HOq, HXq, HSq⟩ := hrel
          clear HR4 HN4 HO4 HX4 HS4
          obtain ⟨qa, qc, rfl⟩ := HRq.out.slice
          by_cases hjl : j < x.vl.length
          · obtain ⟨v, hv⟩ : ∃ v, x.vl[j]? = some v := ⟨_, List.getElem?_eq_getElem hjl⟩
            rcases HXq.out.at (by intro e; rw [List.map_eq_nil_iff] at e; rw [e] at hjl; simp at hjl) with ⟨gx, cap', heq, hlow, hgx, hlen, hcm, hcells, hfr⟩
            simp only [Value.slice.injEq] at heq
            obtain ⟨rfl, -, -⟩ := heq
            have hck : wr.cell? ⟨gx, j, none⟩ = some (.int .i64 v) := hcells j _ (by rw [List.getElem?_map, hv]; rfl)
            have hvr := HXR.out v (List.mem_of_getElem? hv)
            have HTJ := Lib.hid (take_snocJ hv)
            have HDJ := Lib.hid (drop_consI hv)
            have HNV : Hid (NumW nb b K (v :: (x.vl.drop (j + 1) ++ vlL (l.drop (k + 1)))) wr) := Lib.hid (by have h := HNq.out; rw [HDJ.out, List.cons_append] at h; exact h)
            have HNEW : Hid ((((idxI K v : Nat) : Int) == ((ordL [] (vlL (l.take k) ++ x.vl.take j)).length : Int)) = decide (¬ v ∈ ordL [] (vlL (l.take k) ++ x.vl.take j))) := Lib.hid (new_iff (rest := x.vl.drop (j + 1) ++ vlL (l.drop (k + 1))) (by
              rw [← HK.out, ← ordL_append]
              congr 1
              rw [List.append_assoc, ← List.cons_append, ← HDJ.out, ← List.append_assoc (x.vl.take j), List.take_append_drop, ← HVT.out.2, ← vlL_append, List.take_append_drop]))
            have HOS : Hid (ordL [] (vlL (l.take k) ++ x.vl.take (j + 1)) = ordAdd (ordL [] (vlL (l.take k) ++ x.vl.take j)) v) := Lib.hid (by rw [HTJ.out, ← List.append_assoc, ordL_append _ _ [v]]; rfl)
            have hon : (ordL [] (vlL (l.take k) ++ x.vl.take j)).length ≤ 100001 := ord_short fun y hy => by
              rcases List.mem_append.1 hy with hy | hy
              · exact HVR.out y (by obtain ⟨t, ht, hyt⟩ := mem_vlL.1 hy; exact mem_vlL.2 ⟨t, List.mem_of_mem_take ht, hyt⟩)
              · exact HXR.out y (List.mem_of_mem_take hy)
            have hwf : wfI v := wfI_of (by omega) (by omega)
            have HC := Lib.hid (number_any nb b K _ v wr HNV.out hwf (by have := HKL.out; omega))
            obtain ⟨o, ho⟩ : ∃ o, ordL [] (vlL (l.take k) ++ x.vl.take j) = o := ⟨_, rfl⟩
            rw [ho] at HRq HSq HNEW HOS hon ⊢
            clear ho hv hcells hlow hlen hcm hfr HNV HNq hwf
            go_wp2_with fail
            refine HC.out.mono ?_
            rintro e w5 ⟨rfl, hn5, ho5⟩
            have hbl : b < w2.heap.size := HBB.out.2.1
            have HR5 := Lib.hid (HRq.out.only ho5 fun g hg => by have := HRq.out.ge g hg; omega)
            have HX5 := Lib.hid (HXq.out.only ho5 fun g hg => by have := HXq.out.ge g hg; have := HLO.out; have := HSZ.out; omega)
            have HO5 := Lib.hid (HOq.out.trans ho5)
            have HN5 := Lib.hid hn5
            have HS5 : Hid (w2.heap.size ≤ w5.heap.size) := Lib.hid (Nat.le_trans HOq.out.size ho5.size)
            clear hn5 ho5 HC hck hgx HRq HXq HOq
            by_cases hin : v ∈ o
            · have q1 : (((idxI K v : Nat) : Int) == (o.length : Int)) = false := by rw [HNEW.out]; simp [hin]
              have HOS2 : Hid (ordL [] (vlL (l.take k) ++ x.vl.take (j + 1)) = o) := Lib.hid (by rw [HOS.out, ordAdd_in hin])
              clear hin
              go_wp2
              go_roundw
              case rel => exact ⟨j + 1, by omega, by go_num, Lib.hid (by rw [HOS2.out]; exact HR5.out), HN5, HO5, HX5, HSq⟩
              case measure => simp [intOf]; omega
            · have q1 : (((idxI K v : Nat) : Int) == (o.length : Int)) = true := by rw [HNEW.out]; simp [hin]
              have HOS2 : Hid (ordL [] (vlL (l.take k) ++ x.vl.take (j + 1)) = o ++ [v]) := Lib.hid (by rw [HOS.out, ordAdd_out hin])
              have hs5 := HS5.out
              have HRW : Hid (w5.ownsRow w2.heap.size 3 1 (.slice qa o.length qc) o.length (o.map (Value.int .i64))) := Lib.hid (by have h := HR5.out; unfold Row at h; rwa [List.length_map] at h)
              clear hin
              go_wp2_with (at_builtin; refine wpList_append_lies _ rfl _ _ 109 rfl w2.heap.size 3 i0 _ 1 8 Try.underlying109 HII.out.1 HII.out.2.1 HII.out.2.2.1 HII.out.2.2.2 rfl (by omega) (.slice qa o.length qc) o.length (o.map (Value.int .i64)) rfl (HRW.out.alloc _) ⟨w5.heap.size, 0, none⟩ 1 1 [.int .i64 v] rfl rfl (World.news_of_block (heap_alloc_new w5 _)) (by simp [Value.oneCell']) (by omega) (by unfold maxLen; omega) (by omega) (by simp; omega) (w5.heap.size + 1) (by simp) ?_; intro gg cap w6 hown1 hgrow hat hlt1; have HAP := Lib.hid (And.intro hown1 (And.intro hgrow (And.intro hat hlt1))); clear hown1 hgrow hat hlt1)
              have HAL5 : Hid (Below w5.heap.size w5 (w5.alloc (.cells #[.int .i64 v] 3))) := Lib.hid (belowAlloc (Below.refl _ _) _)
              have HO6 : Hid (Only (fun j => (Value.slice qa o.length qc).ownBlock = some j) w5 w6) := Lib.hid ((Only.of_below HAL5.out).trans (only_grown_own HAP.out.2.1))
              have HR6 : Hid (Row w6 w2.heap.size 3 (.slice (some ⟨gg, 0, none⟩) (o.length + 1) cap) ((o ++ [v]).map (Value.int .i64))) := Lib.hid (by
                have h := HAP.out.1
                unfold Row
                rw [List.map_append]
                have e : (o.map (Value.int .i64) ++ [v].map (Value.int .i64)).length = o.length + 1 := by simp
                rw [e]
                exact h)
              have HBN : Hid (nb < w2.heap.size ∧ b < w2.heap.size) := Lib.hid ⟨HBB.out.1, HBB.out.2.1⟩
              have HRG : Hid (∀ g, (Value.slice qa o.length qc).ownBlock = some g → w2.heap.size ≤ g ∧ g < w5.heap.size) := Lib.hid fun g hg => ⟨HR5.out.ge g hg, HR5.out.lt g hg⟩
              have HXG : Hid (∀ g, (Value.slice (some ⟨gx, 0, none⟩) x.vl.length uc).ownBlock = some g → g < w5.heap.size) := Lib.hid fun g hg => HX5.out.lt g hg
              have HN6 := Lib.hid (HN5.out.off HO6.out (fun h => by have := HRG.out _ h; have := HBN.out; omega) (fun h => by have := HRG.out _ h; have := HBN.out; omega))
              have HX6 := Lib.hid (HX5.out.only HO6.out fun g hg hs => HSq.out g hs hg)
              have HO7 : Hid (Only (fun j => j = b) w2 w6) := Lib.hid ⟨HO6.out.os.trans HO5.out.os, HO6.out.tape.trans HO5.out.tape, HO6.out.output.trans HO5.out.output, Nat.le_trans HO5.out.size HO6.out.size, fun j hj hn => (HO6.out.block j (Nat.lt_of_lt_of_le hj HO5.out.size) (fun h => by have := HRG.out _ h; omega)).trans (HO5.out.block j hj hn)⟩
              have HS7 : Hid (∀ g, (Value.slice (some ⟨gg, 0, none⟩) (o.length + 1) cap).ownBlock = some g → ¬ (Value.slice (some ⟨gx, 0, none⟩) x.vl.length uc).ownBlock = some g) := Lib.hid fun g hg hx => by
                have hgg : gg = g := by simpa [Value.ownBlock] using hg
                subst hgg
                rcases HAP.out.2.2.1 with h | h
                · exact HSq.out _ h hx
                · have := HXG.out _ hx; omega
              clear HAP HR5 HX5 HN5 HO5 HSq HRW HO6
              go_roundw
              case rel => exact ⟨j + 1, by omega, by go_num, Lib.hid (by rw [HOS2.out]; exact HR6.out), HN6, HO7, HX6, HS7⟩
              case measure => simp [intOf]; omega
          · obtain rfl : j = x.vl.length := by omega
            have HRR : Hid (Row wr w2.heap.size 3 (.slice qa (ordL [] (vlL (l.take k) ++ x.vl.take x.vl.length)).length qc) ((ordL [] (vlL (l.take (k + 1)))).map (Value.int .i64))) := Lib.hid (by
              have h := HRq.out
              have e : vlL (l.take k) ++ x.vl.take x.vl.length = vlL (l.take (k + 1)) := by rw [List.take_length, HVT.out.1]
              rw [e] at h ⊢
              exact h)
            have HNN : Hid (NumW nb b K (vlL (l.drop (k + 1))) wr) := Lib.hid (by have h := HNq.out; rw [List.drop_length, List.nil_append] at h; exact h)
            clear HRq HNq HXq HSq
            go_wp2
            go_roundw
            case rel => exact ⟨k + 1, by omega, by go_num, HRR, HNN, HOq⟩
            case measure => simp [intOf]; omega
      · obtain rfl : k = l.length := by omega
        have HRR : Hid (Row wr w.heap.size 3 (.slice ra (ordL [] (vlL (l.take l.length))).length rc) ((ovL l).map (Value.int .i64))) := Lib.hid (by
          have h := HR.out
          have e : ordL [] (vlL (l.take l.length)) = ovL l := by rw [List.take_length, HV.out]; rfl
          rw [e] at h ⊢
          exact h.base (by have := HB12.out; omega))
        clear HR HNR HOR
        go_wp2
        go_ret
        exact ⟨_, rfl, HRR.out, HWR.out⟩
theorem implOrderedVars_any (l : List Tm) (V : Value) (w : World) (hA : ArgsAt w V l) (hZ : szL l ≤ 1048576) :
    Calls Try.prog 82 #[V] w fun e w' => ∃ u, e = .returned u ∧ Row w' w.heap.size 3 u ((ovL l).map (Value.int .i64)) ∧ Below w.heap.size w w' := implOrdered_e l V w hA (eachT_of (by omega))

theorem bnd_max2 (a : List Int) (v : Int) : bndL (a ++ [v]) = max (bndL a) (v + 1) := by
  rw [bnd_snoc, Int.max_def]
  split <;> split <;> omega

end Go.Proofs.Ytjpkkhhcpcokaaa

