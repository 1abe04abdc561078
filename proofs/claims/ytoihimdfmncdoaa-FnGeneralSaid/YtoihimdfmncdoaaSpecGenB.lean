/-
  The model's l06Gen of pairs. (Written by wip/tools/gen_specgen.py.)
-/
import Derived.Test.YtoihimdfmncdoaaSpecGen
namespace Go.Proofs.Ytoihimdfmncdoaa
open Go.RowKit
set_option linter.unusedVariables false
set_option linter.unusedSimpArgs false

set_option maxRecDepth 100000 in
set_option maxHeartbeats 8000000 in
theorem gen_pair (X : Nat → Prop) (l : List Tm) (Vl : Value) (k : List (List Tm)) (Vk : Value) (f : Tm) (w : World) (hA : ArgsS w (Oth X w Vk) Vl l) (hK : KnR X w Vk k) (hX0 : ∀ b, X b → b < w.heap.size) (hf : l[0]? = some f) (hg : ∀ t ∈ l, Good t) (hZ : szL l ≤ 1048576) (hs : SameP f l) (h4 : f.kind = 4) (n : Nat) (hkn : k.length + f.nodes ≤ 1000000)
    (IH : ∀ (X : Nat → Prop) (l : List Tm) (Vl : Value) (k : List (List Tm)) (Vk : Value) (f : Tm) (w : World), ArgsS w (Oth X w Vk) Vl l → KnR X w Vk k → (∀ b, X b → b < w.heap.size) → l[0]? = some f → (∀ t ∈ l, Good t) → szL l ≤ 1048576 → f.nodes ≤ n → k.length + f.nodes ≤ 1000000 →
      Calls Try.prog 53 #[Vl, Vk] w (GenR X (genF n l k).1 (genF n l k).2 Vk w)) (hn : f.nodes ≤ n + 1) :
    Calls Try.prog 53 #[Vl, Vk] w (GenR X (genF (n + 1) l k).1 (genF (n + 1) l k).2 Vk w) := by
  have HSA := Lib.hid hs
  have HH4 := Lib.hid h4
  have HI := Lib.hid IH
  have HNN := Lib.hid (And.intro hn hkn)
  have q4 : (f.kind != 4) = false := by simp [h4]
  clear hs h4 IH hn hkn
  have HA := Lib.hid hA
  obtain ⟨aa, ac, rfl⟩ := hA.at.slice
  obtain ⟨g, off, u1, u2, rfl, hgs, _, hcf, huf⟩ := hA.elem hf
  have hl0 : 0 < l.length := (List.getElem?_eq_some_iff.1 hf).1
  have hlm : l.length ≤ 1048576 := by have := length_szL l; omega
  have HFC : Hid (∀ W, Below w.heap.size w W → W.cell? ⟨g, off, none⟩ = some (.int .i64 f.kind) ∧ W.cell? ⟨g, off + 1, none⟩ = some (.int .i64 f.num) ∧ W.cell? ⟨g, off + 2, none⟩ = some (.string f.name) ∧ W.cell? ⟨g, off + 3, none⟩ = some (.slice u1 f.args.length u2)) := Lib.hid fun W hW => by simpa using hcf W hW
  have HUF := Lib.hid huf
  have HK := Lib.hid hK
  have HX0 := Lib.hid hX0
  have HF := Lib.hid hf
  have HG := Lib.hid hg
  have HZ := Lib.hid hZ
  have HL := Lib.hid (And.intro hl0 hlm)
  have HR := Lib.hid (at_box_of w #[.int .i64 0, .int .i64 0, .string ⟨#[]⟩, .slice none 0 0] 25 w.heap.size rfl)
  have HW : Hid (Below w.heap.size w (w.alloc (.cells #[.int .i64 0, .int .i64 0, .string ⟨#[]⟩, .slice none 0 0] 25))) := Lib.hid (belowAlloc (Below.refl _ _) _)
  obtain ⟨ka, kc, rfl⟩ := hK.slice
  have hi0 : (0 : Int) < (l.length : Int) := by omega
  clear hA hcf huf hK hX0 hf hg hZ
  go_enter Try.func53, Try.ntmps53
  go_upto_region 1 with (fail)
  generalize hw0 : w.alloc (.cells #[.int .i64 0, .int .i64 0, .string ⟨#[]⟩, .slice none 0 0] 25) = w0 at HW HR ⊢
  clear hw0
  obtain ⟨c0, c1, c2, c3⟩ := HFC.out w0 HW.out
  obtain ⟨b0, hb0⟩ : ∃ b0, (f.kind != 1) = b0 := ⟨_, rfl⟩
  have HB0 : Hid (b0 = true ↔ SameP f (l.take 0)) := Lib.hid (by rw [← hb0]; unfold SameP; simp)
  go_wp2
  clear c0 c1 c2 c3
  go_loopw [6, 26] (fun bv iv wr => ∃ (k : Nat) (b : Bool), k ≤ l.length ∧ iv = .int .i64 k ∧ bv = .bool b ∧ Hid (b = true ↔ SameP f (l.take k)) ∧ Hid (Below w0.heap.size w0 wr)) (fun _ iv _ => l.length - (intOf iv).toNat)
  case atStart => exact ⟨0, b0, Nat.zero_le _, rfl, rfl, HB0, Lib.hid (Below.refl _ _)⟩
  case round =>
    clear HB0 hb0
    obtain ⟨n, b, hn, rfl, rfl, HS, HB⟩ := hrel
    have HWR := Lib.hid (belowOn HW.out (Nat.le_refl _) HB.out)
    by_cases hlt : n < l.length
    · have hltI : (n : Int) < (l.length : Int) := by omega
      obtain ⟨x, hx⟩ : ∃ x, l[n]? = some x := ⟨_, List.getElem?_eq_getElem hlt⟩
      obtain ⟨g', off', v1, v2, he, _, _, hc, hu⟩ := HA.out.elem hx
      simp only [Option.some.injEq, Addr.mk.injEq, and_true] at he
      obtain ⟨rfl, rfl⟩ := he
      obtain ⟨d0, d1, d2, d3⟩ := hc wr HWR.out
      have HSN := Lib.hid (same_snoc (f := f) hx)
      clear hc hu hx
      go_upto_region 5 with (fail)
      have hal : Below wr.heap.size wr (wr.alloc (.cells #[.int .i64 x.kind, .int .i64 x.num, .string x.name, .slice v1 x.args.length v2] 25)) := belowAlloc (Below.refl _ _) _
      have HXB := Lib.hid (at_box_of wr #[.int .i64 x.kind, .int .i64 x.num, .string x.name, .slice v1 x.args.length v2] 25 wr.heap.size rfl)
      have HB1 := Lib.hid (belowOn HB.out (Nat.le_refl _) hal)
      have HW1 := Lib.hid (belowOn HWR.out (Nat.le_refl _) hal)
      clear hal d0 d1 d2 d3 HB HWR
      generalize hw1 : wr.alloc (.cells #[.int .i64 x.kind, .int .i64 x.num, .string x.name, .slice v1 x.args.length v2] 25) = wb at HXB HB1 HW1 ⊢
      clear hw1
      obtain ⟨e0, e1, e2, e3⟩ := HXB.out.cells
      obtain ⟨c0, c1, c2, c3⟩ := HFC.out wb HW1.out
      have END : Hid (∀ m, Below w0.heap.size w0 (wb.drewN m)) := Lib.hid fun m => belowOn HB1.out (Nat.le_refl _) (below_drewN (Below.refl _ _) m)
      cases b with
      | false =>
        go_quiet (fail)
        go_wp2
        go_roundw
        case rel => exact ⟨n + 1, false, by omega, by go_num, rfl, Lib.hid (by rw [HSN.out, ← HS.out]; simp), Lib.hid (END.out _)⟩
        case measure => simp [intOf]; omega
      | true =>
        by_cases h1 : x.kind = f.kind
        · have q1 : (x.kind == f.kind) = true := by simp [h1]
          by_cases h2 : x.num = f.num
          · have q2 : (x.num == f.num) = true := by simp [h2]
            by_cases h3 : x.name = f.name
            · have q3 : (x.name.toList == f.name.toList) = true := by simp [h3]
              have HQ : Hid (x.kind = f.kind ∧ x.num = f.num ∧ x.name = f.name) := Lib.hid ⟨h1, h2, h3⟩
              clear h1 h2 h3
              go_quiet (fail)
              go_wp2
              go_roundw
              case rel => exact ⟨n + 1, true, by omega, by go_num, rfl, Lib.hid (by rw [HSN.out, ← HS.out]; simp [HQ.out]), Lib.hid (END.out _)⟩
              case measure => simp [intOf]; omega
            · have q3 : (x.name.toList == f.name.toList) = false := by rw [beq_eq_false_iff_ne]; exact fun h => h3 (toList_inj h)
              have HQ := Lib.hid h3
              clear h1 h2 h3
              go_quiet (fail)
              go_wp2
              go_roundw
              case rel => exact ⟨n + 1, false, by omega, by go_num, rfl, Lib.hid (by rw [HSN.out, ← HS.out]; simp [HQ.out]), Lib.hid (END.out _)⟩
              case measure => simp [intOf]; omega
          · have q2 : (x.num == f.num) = false := by simp [h2]
            have HQ := Lib.hid h2
            clear h1 h2
            go_quiet (fail)
            go_wp2
            go_roundw
            case rel => exact ⟨n + 1, false, by omega, by go_num, rfl, Lib.hid (by rw [HSN.out, ← HS.out]; simp [HQ.out]), Lib.hid (END.out _)⟩
            case measure => simp [intOf]; omega
        · have q1 : (x.kind == f.kind) = false := by simp [h1]
          have HQ := Lib.hid h1
          clear h1
          go_quiet (fail)
          go_wp2
          go_roundw
          case rel => exact ⟨n + 1, false, by omega, by go_num, rfl, Lib.hid (by rw [HSN.out, ← HS.out]; simp [HQ.out]), Lib.hid (END.out _)⟩
          case measure => simp [intOf]; omega
    · obtain rfl : n = l.length := by omega
      rw [List.take_length] at HS
      obtain rfl : b = true := HS.out.2 HSA.out
      obtain ⟨i0, hi, hz0, hz1, hz2⟩ := info_parts infoTerm
      have HII := Lib.hid (And.intro hi (And.intro hz0 (And.intro hz1 hz2)))
      have HAP : Hid (∀ t ∈ l, ∃ y z, t.args = [y, z] ∧ headT t = y ∧ tailT t = z ∧ Good y ∧ Good z ∧ t.nodes = 1 + (y.nodes + z.nodes)) := Lib.hid fun t ht => by
        obtain ⟨y, z, rfl, hy, hz⟩ := good_pair (HG.out t ht) (by rw [(HSA.out.2 t ht).1]; exact HH4.out)
        refine ⟨y, z, rfl, rfl, rfl, hy, hz, ?_⟩
        rw [nodes_eq]
        show 1 + nodesL [y, z] = _
        rw [nodesL, nodesL, nodesL]
        omega
      have HX4 : Hid (∀ b, Oth X w (.slice ka k.length kc) b → b < w.heap.size ∧ (Value.slice ka k.length kc).ownBlock ≠ some b ∧ ¬ (X b ∨ b = w.heap.size)) := Lib.hid fun b hb => ⟨hb.1, hb.2.1, fun h => h.elim hb.2.2 fun h => by have := hb.1; omega⟩
      have HKL := Lib.hid HK.out.lt
      obtain ⟨c0, c1, c2, c3⟩ := HFC.out wr HWR.out
      have HRA := Lib.hid (HR.out.read HB.out)
      have HKW := Lib.hid (HK.out.kept HWR.out)
      clear HS HB hi hz0 hz1 hz2 HR
      have hsz : w.heap.size + 1 ≤ wr.heap.size := HRA.out.le
      obtain ⟨lo, hlo⟩ : ∃ lo, lo = w.heap.size + 1 := ⟨_, rfl⟩
      have HLO := Lib.hid hlo
      have HR1 := Lib.hid ((rowG_start (S := Oth X w (.slice ka k.length kc)) (w := wr) (lo := lo) (by omega)).kept (belowAlloc (Below.refl _ _) (.cells #[] 25)))
      have HR2 := Lib.hid (rowG_start (S := Oth X w (.slice ka k.length kc)) (w := wr.alloc (.cells #[] 25)) (lo := lo) (by simp; omega))
      have HB0 := Lib.hid (belowAlloc (belowAlloc HWR.out (.cells #[] 25)) (.cells #[] 25))
      have HBL := Lib.hid ((((Below.refl lo wr).alloc (by omega) (.cells #[] 25)).alloc (by simp; omega) (.cells #[] 25)))
      have hsz0 : (wr.alloc (.cells #[] 25)).heap.size = wr.heap.size + 1 := by simp
      rw [hsz0] at HR2
      clear hsz0 hsz hlo
      go_wp2
      clear c0 c1 c2 c3
      obtain ⟨wq, hwq⟩ : ∃ wq, wr = wq := ⟨_, rfl⟩
      rw [hwq] at HR1 HR2 HB0 HBL HRA HKW HWR ⊢
      clear hwq
      go_loopw [9, 10, 76] (fun lv rv iv wr => ∃ j : Nat, j ≤ l.length ∧ iv = .int .i64 j ∧ Hid (RowG (Oth X w (.slice ka k.length kc)) wr lo lv ((l.take j).map headT)) ∧ Hid (RowG (Oth X w (.slice ka k.length kc)) wr lo rv ((l.take j).map tailT)) ∧ Hid (∀ j, lv.ownBlock = some j → rv.ownBlock ≠ some j) ∧ Hid (Below lo wq wr)) (fun _ _ iv _ => l.length - (intOf iv).toNat)
      case atStart => exact ⟨0, Nat.zero_le _, rfl, HR1, HR2, Lib.hid (fun j hj h => by simp [Value.ownBlock] at hj h; omega), HBL⟩
      case round =>
        obtain ⟨j, hj, rfl, HLR, HRR, HDJ, HB⟩ := hrel
        clear HR1 HR2 HB0 HBL
        have HWW : Hid (Below w.heap.size w wr) := Lib.hid (HWR.out.trans (HB.out.mono (by have := HLO.out; omega)))
        have HLW : Hid (lo ≤ wr.heap.size) := Lib.hid (by have := HB.out.size; have := HRA.out.le; have := HLO.out; omega)
        by_cases hlt : j < l.length
        · have hltI : (j : Int) < (l.length : Int) := by omega
          obtain ⟨x, hx⟩ : ∃ x, l[j]? = some x := ⟨_, List.getElem?_eq_getElem hlt⟩
          obtain ⟨y, z, hyz, hhy, htz, _, _, _⟩ := HAP.out x (List.mem_of_getElem? hx)
          obtain ⟨g', off', v1, v2, he, _, _, hc, hu⟩ := HA.out.elem hx
          simp only [Option.some.injEq, Addr.mk.injEq, and_true] at he
          obtain ⟨rfl, rfl⟩ := he
          obtain ⟨d0, d1, d2, d3⟩ := hc wr HWW.out
          obtain ⟨ga, offa, y1, y2, z1, z2, rfl, hga, hn2, hcy, hcz, hay, haz⟩ := hu.two hyz
          have hxl : x.args.length = 2 := hn2
          rw [hxl] at d3
          have HCY := Lib.hid hcy
          have HCZ := Lib.hid hcz
          have HAY := Lib.hid hay
          have HAZ := Lib.hid haz
          have HTK := Lib.hid (And.intro (by rw [take_snoc hx, List.map_append, List.map_cons, List.map_nil, hhy] : (l.take (j + 1)).map headT = (l.take j).map headT ++ [y]) (by rw [take_snoc hx, List.map_append, List.map_cons, List.map_nil, htz] : (l.take (j + 1)).map tailT = (l.take j).map tailT ++ [z]))
          obtain ⟨la, lc, rfl⟩ := HLR.out.slice
          obtain ⟨ra, rc, rfl⟩ := HRR.out.slice
          have hkl : ((l.take j).map headT).length = j := by rw [List.length_map, List.length_take]; omega
          have hkr : ((l.take j).map tailT).length = j := by rw [List.length_map, List.length_take]; omega
          rw [hkl] at HLR HDJ ⊢
          rw [hkr] at HRR HDJ ⊢
          have hgw : g < wr.heap.size := Nat.lt_of_lt_of_le hgs HWW.out.size
          clear hkl hkr hc hu hx hcy hcz hay haz hyz hhy htz hn2
          go_upto_region 15 with (fail)
          have hal : Below wr.heap.size wr (wr.alloc (.cells #[.int .i64 x.kind, .int .i64 x.num, .string x.name, .slice (some ⟨ga, offa, none⟩) 2 v2] 25)) := belowAlloc (Below.refl _ _) _
          have HBX := Lib.hid (at_box_of wr #[.int .i64 x.kind, .int .i64 x.num, .string x.name, .slice (some ⟨ga, offa, none⟩) 2 v2] 25 wr.heap.size rfl)
          have HB1 := Lib.hid (HB.out.alloc HLW.out (.cells #[.int .i64 x.kind, .int .i64 x.num, .string x.name, .slice (some ⟨ga, offa, none⟩) 2 v2] 25))
          have HL1 := Lib.hid (HLR.out.kept hal)
          have HR1 := Lib.hid (HRR.out.kept hal)
          have HLT := Lib.hid (And.intro (fun j hj => (HLR.out.block j hj).2) (fun j hj => (HRR.out.block j hj).2))
          clear hal d0 d1 d2 d3 HB HLR HRR hxl hgw
          generalize hw1 : wr.alloc (.cells #[.int .i64 x.kind, .int .i64 x.num, .string x.name, .slice (some ⟨ga, offa, none⟩) 2 v2] 25) = w3 at HBX HB1 HL1 HR1 ⊢
          clear hw1
          have HNB := HLW
          generalize wr.heap.size = nb at HBX HLT HNB ⊢
          clear HWW HLW
          have HW3 : Hid (Below w.heap.size w w3) := Lib.hid (HWR.out.trans (HB1.out.mono (by have := HLO.out; omega)))
          have HL3 : Hid (lo ≤ w3.heap.size) := Lib.hid (by have := HBX.out.le; have := HNB.out; omega)
          obtain ⟨e0, e1, e2, e3⟩ := HBX.out.cells
          obtain ⟨p0, p1, p2, p3⟩ := HCY.out w3 HW3.out
          have hg3 : ga < w3.heap.size := Nat.lt_of_lt_of_le hga HW3.out.size
          obtain ⟨L, hL1, hL2, hL3⟩ := HL1.out
          have hLk : j = L.length := by have := congrArg List.length hL1; rw [List.length_map, List.length_map, List.length_take] at this; omega
          rw [← hLk] at hL2
          have HROW := Lib.hid hL2
          have HPL := Lib.hid (And.intro hL1 (And.intro hLk hL3))
          have hwz : lo ≤ w3.heap.size := HL3.out
          have HPC : Hid (∀ W5 : World, (w3.alloc (.cells #[.int .i64 y.kind, .int .i64 y.num, .string y.name, .slice y1 y.args.length y2] 25)).grownBy W5 (Value.slice la j lc).ownBlock → Below lo w3 W5 ∧ W5.heap[nb]? = some (Obj.cells #[.int .i64 x.kind, .int .i64 x.num, .string x.name, .slice (some ⟨ga, offa, none⟩) 2 v2] 25)) := Lib.hid fun W5 hg => by
            have hnb4 : nb < w3.heap.size := HBX.out.le
            refine ⟨((Below.refl lo w3).alloc HL3.out _).trans (below_of_grown hg (by have := HL3.out; simp; omega) (fun j hj => (HL1.out.block j hj).1)), ?_⟩
            exact ((hg.block nb (by simp; omega) (fun e => by have := HLT.out.1 nb e.symm; omega)).trans ((belowAlloc (Below.refl w3.heap.size w3) (.cells #[.int .i64 y.kind, .int .i64 y.num, .string y.name, .slice y1 y.args.length y2] 25)).block nb hnb4)).trans HBX.out.now
          have hj1 : j ≤ 1048576 := by have := HL.out.2; omega
          clear hL1 hL2 hL3 hLk
          go_upto_region 16 with (at_builtin; refine wpList_append_lies _ rfl _ _ 23 rfl lo 25 i0 _ 4 56 Try.underlying23 HII.out.1 HII.out.2.1 HII.out.2.2.1 HII.out.2.2.2 rfl (by omega) (.slice la j lc) j (cellsL L) rfl (HROW.out.alloc _) ⟨w3.heap.size, 0, none⟩ 1 1 (cells4 y (.slice y1 y.args.length y2)) rfl rfl (World.news_of_block (heap_alloc_new w3 _)) (by simp [cells4, Value.oneCell']) (by omega) (by unfold maxLen; omega) (by omega) (by simp; omega) (w3.heap.size + 1) (by simp) ?_; intro gg cap' w5 hown1 hgrow hat hlt1; have HAP5 := Lib.hid (And.intro hown1 (And.intro hgrow (And.intro hat hlt1))); have HPC5 := Lib.hid (HPC.out _ hgrow); clear hown1 hgrow hat hlt1)
          have HB5 := Lib.hid (HB1.out.trans HPC5.out.1)
          have HBX5 := Lib.hid HPC5.out.2
          have HR5 : Hid (RowG (Oth X w (.slice ka k.length kc)) w5 lo (.slice ra j rc) ((l.take j).map tailT)) := Lib.hid (by
            refine (HR1.out.kept (belowAlloc (Below.refl w3.heap.size w3) (.cells #[.int .i64 y.kind, .int .i64 y.num, .string y.name, .slice y1 y.args.length y2] 25))).grown (fun b hb => by have := hb.1; have := HLO.out; omega) HAP5.out.2.1 ?_ (fun j hj => (HL1.out.block j hj).1)
            cases hrb : (Value.slice ra j rc).ownBlock with
            | none => exact .inl rfl
            | some i => exact .inr fun e => HDJ.out i e.symm hrb)
          have HL5 : Hid (RowG (Oth X w (.slice ka k.length kc)) w5 lo (.slice (some ⟨gg, 0, none⟩) (j + 1) cap') ((l.take (j + 1)).map headT)) := Lib.hid (by
            have h := rowG_append (x := y) HPL.out.2.1 hwz (fun b hb => by have := hb.1; have := HLO.out; omega) HPL.out.2.2 (HAY.out.kept HW3.out) (fun j hj => (HL1.out.block j hj).1) (belowAlloc (Below.refl _ _) _) HAP5.out.1 HAP5.out.2.1
            rw [HPL.out.1, ← HTK.out.1] at h
            exact h)
          have HDJ5 : Hid (∀ i, (Value.slice (some ⟨gg, 0, none⟩) (j + 1) cap').ownBlock = some i → (Value.slice ra j rc).ownBlock ≠ some i) := Lib.hid fun i hi hri => by
            have e : gg = i := by simpa [Value.ownBlock] using hi
            subst e
            rcases HAP5.out.2.2.1 with h | h
            · exact HDJ.out _ h hri
            · have := (HR1.out.block _ hri).2; omega
          have HW5 : Hid (Below w.heap.size w w5) := Lib.hid (HWR.out.trans (HB5.out.mono (by have := HLO.out; omega)))
          have HL5w : Hid (lo ≤ w5.heap.size) := Lib.hid (Nat.le_trans HL3.out HPC5.out.1.size)
          have hgg5 : gg < w5.heap.size := HAP5.out.2.2.2
          clear HAP5 HPL HROW HL1 HR1 HBX HB1 HDJ hwz HLT HPC HPC5 e0 e1 e2 e3 p0 p1 p2 p3 hg3 HW3 HL3
          obtain ⟨_, _, _, e3, _⟩ := box_cells HBX5.out
          obtain ⟨p0, p1, p2, p3⟩ := HCZ.out w5 HW5.out
          have hg5 : ga < w5.heap.size := Nat.lt_of_lt_of_le hga HW5.out.size
          have hnb5 : nb < w5.heap.size := (Array.getElem?_eq_some_iff.1 HBX5.out).1
          obtain ⟨L, hL1, hL2, hL3⟩ := HR5.out
          have hLk : j = L.length := by have := congrArg List.length hL1; rw [List.length_map, List.length_map, List.length_take] at this; omega
          rw [← hLk] at hL2
          have HROW := Lib.hid hL2
          have HPL := Lib.hid (And.intro hL1 (And.intro hLk hL3))
          have hwz : lo ≤ w5.heap.size := HL5w.out
          clear hL1 hL2 hL3 hLk
          go_wp2_with (at_builtin; refine wpList_append_lies _ rfl _ _ 23 rfl lo 25 i0 _ 4 56 Try.underlying23 HII.out.1 HII.out.2.1 HII.out.2.2.1 HII.out.2.2.2 rfl (by omega) (.slice ra j rc) j (cellsL L) rfl (HROW.out.alloc _) ⟨w5.heap.size, 0, none⟩ 1 1 (cells4 z (.slice z1 z.args.length z2)) rfl rfl (World.news_of_block (heap_alloc_new w5 _)) (by simp [cells4, Value.oneCell']) (by omega) (by unfold maxLen; omega) (by omega) (by simp; omega) (w5.heap.size + 1) (by simp) ?_; intro gg2 cap2 w6 hown1 hgrow hat hlt1; have HAP6 := Lib.hid (And.intro hown1 (And.intro hgrow (And.intro hat hlt1))); clear hown1 hgrow hat hlt1)
          have HB6 := Lib.hid (HB5.out.trans (((Below.refl lo w5).alloc HL5w.out (.cells #[.int .i64 z.kind, .int .i64 z.num, .string z.name, .slice z1 z.args.length z2] 25)).trans (below_of_grown HAP6.out.2.1 (by simp; omega) (fun j hj => (HR5.out.block j hj).1))))
          have HL6 : Hid (RowG (Oth X w (.slice ka k.length kc)) w6 lo (.slice (some ⟨gg, 0, none⟩) (j + 1) cap') ((l.take (j + 1)).map headT)) := Lib.hid (by
            refine (HL5.out.kept (belowAlloc (Below.refl w5.heap.size w5) (.cells #[.int .i64 z.kind, .int .i64 z.num, .string z.name, .slice z1 z.args.length z2] 25))).grown (fun b hb => by have := hb.1; have := HLO.out; omega) HAP6.out.2.1 (.inr fun e => HDJ5.out gg rfl ?_) (fun j hj => (HR5.out.block j hj).1)
            rw [← e]; rfl)
          have HR6 : Hid (RowG (Oth X w (.slice ka k.length kc)) w6 lo (.slice (some ⟨gg2, 0, none⟩) (j + 1) cap2) ((l.take (j + 1)).map tailT)) := Lib.hid (by
            have h := rowG_append (x := z) HPL.out.2.1 hwz (fun b hb => by have := hb.1; have := HLO.out; omega) HPL.out.2.2 (HAZ.out.kept HW5.out) (fun j hj => (HR5.out.block j hj).1) (belowAlloc (Below.refl _ _) _) HAP6.out.1 HAP6.out.2.1
            rw [HPL.out.1, ← HTK.out.2] at h
            exact h)
          have HDJ6 : Hid (∀ i, (Value.slice (some ⟨gg, 0, none⟩) (j + 1) cap').ownBlock = some i → (Value.slice (some ⟨gg2, 0, none⟩) (j + 1) cap2).ownBlock ≠ some i) := Lib.hid fun i hi hri => by
            have e : gg = i := by simpa [Value.ownBlock] using hi
            have e2 : gg2 = i := by simpa [Value.ownBlock] using hri
            subst e
            subst e2
            rcases HAP6.out.2.2.1 with h | h
            · exact HDJ5.out _ rfl h
            · omega
          clear HAP6 HPL HROW HL5 HR5 HBX5 HB5 HDJ5 e3 p0 p1 p2 p3 hg5 hnb5
          go_wp2
          go_roundw
          case rel => exact ⟨j + 1, by omega, by go_num, HL6, HR6, HDJ6, HB6⟩
          case measure => simp [intOf]; omega
        · obtain rfl : j = l.length := by omega
          obtain ⟨la, lc, rfl⟩ := HLR.out.slice
          obtain ⟨ra, rc, rfl⟩ := HRR.out.slice
          rw [List.take_length] at HLR HRR HDJ ⊢
          have HP : Hid (AllPair l) := Lib.hid fun t ht => by rw [(HSA.out.2 t ht).1]; exact HH4.out
          have HGF : Hid ((genF (n + 1) l k).1 = .mk 4 0 ⟨#[]⟩ [(genF n (l.map headT) k).1, (genF n (l.map tailT) (genF n (l.map headT) k).2).1] ∧ (genF (n + 1) l k).2 = (genF n (l.map tailT) (genF n (l.map headT) k).2).2) := Lib.hid (by rw [genF, if_pos HP.out]; exact ⟨rfl, rfl⟩)
          obtain ⟨y, z, hyz, hhy, htz, hgy, hgz, hnyz⟩ := HAP.out f (List.mem_of_getElem? HF.out)
          have HFN : Hid (y.nodes ≤ n ∧ z.nodes ≤ n ∧ k.length + y.nodes ≤ 1000000 ∧ (genF n (l.map headT) k).2.length ≤ k.length + y.nodes ∧ (genF n (l.map headT) k).2.length + z.nodes ≤ 1000000) := Lib.hid (by
            have h1 := gen_len n (l.map headT) k y (by rw [List.getElem?_map, HF.out, Option.map_some, hhy]) (fun t ht => by obtain ⟨u, hu, rfl⟩ := List.mem_map.1 ht; obtain ⟨_, _, _, h1, _, h2, _⟩ := HAP.out u hu; rw [h1]; exact h2)
            have := HNN.out
            have := nodes_pos y
            have := nodes_pos z
            omega)
          have HHD : Hid ((l.map headT)[0]? = some y ∧ (l.map tailT)[0]? = some z ∧ (∀ t ∈ l.map headT, Good t) ∧ (∀ t ∈ l.map tailT, Good t) ∧ szL (l.map headT) ≤ 1048576 ∧ szL (l.map tailT) ≤ 1048576) := Lib.hid (by
            refine ⟨by rw [List.getElem?_map, HF.out, Option.map_some, hhy], by rw [List.getElem?_map, HF.out, Option.map_some, htz], fun t ht => ?_, fun t ht => ?_, ?_⟩
            · obtain ⟨u, hu, rfl⟩ := List.mem_map.1 ht; obtain ⟨_, _, _, h1, _, h2, _⟩ := HAP.out u hu; rw [h1]; exact h2
            · obtain ⟨u, hu, rfl⟩ := List.mem_map.1 ht; obtain ⟨_, _, _, _, h1, _, h2, _⟩ := HAP.out u hu; rw [h1]; exact h2
            · have := szL_parts l fun t ht => by obtain ⟨y, z, h, _⟩ := HAP.out t ht; exact ⟨y, z, h⟩
              have := HZ.out
              omega)
          have HX1 : Hid (∀ b, (X b ∨ b = w.heap.size) → b < wr.heap.size) := Lib.hid fun b h => by
            have := HLW.out
            have := HLO.out
            rcases h with h | h
            · have := HX0.out b h; omega
            · omega
          have HLH : Hid (ArgsS wr (Oth (fun b => X b ∨ b = w.heap.size) wr (.slice ka k.length kc)) (.slice la (l.map headT).length lc) (l.map headT)) := Lib.hid (HLR.out.args (fun b hb => ⟨by have := hb.1; have := HWW.out.size; omega, (HX4.out b hb).2⟩) fun b hb => by
            have h := HLR.out.block b hb
            have := HLO.out
            refine ⟨h.2, fun e => by have := HKL.out b e; omega, fun e => ?_⟩
            rcases e with e | e
            · have := HX0.out b e; omega
            · omega)
          have HLT : Hid (ArgsS wr (Oth (fun b => X b ∨ b = w.heap.size) wr (.slice ka k.length kc)) (.slice ra (l.map tailT).length rc) (l.map tailT)) := Lib.hid (HRR.out.args (fun b hb => ⟨by have := hb.1; have := HWW.out.size; omega, (HX4.out b hb).2⟩) fun b hb => by
            have h := HRR.out.block b hb
            have := HLO.out
            refine ⟨h.2, fun e => by have := HKL.out b e; omega, fun e => ?_⟩
            rcases e with e | e
            · have := HX0.out b e; omega
            · omega)
          have HK1 : Hid (KnR (fun b => X b ∨ b = w.heap.size) wr (.slice ka k.length kc) k) := Lib.hid (HK.out.frame HWW.out.size (fun j hj _ => HWW.out.block j hj) fun j hj h => h.elim id fun h => by omega)
          have HRB : Hid (wr.heap[w.heap.size]? = some (.cells #[.int .i64 0, .int .i64 0, .string ⟨#[]⟩, .slice none 0 0] 25)) := Lib.hid (((HB.out.block _ (by have := HLO.out; omega))).trans HRA.out.now)
          have HC1 := Lib.hid (HI.out _ _ _ k _ y wr HLH.out HK1.out HX1.out HHD.out.1 HHD.out.2.2.1 HHD.out.2.2.2.2.1 HFN.out.1 HFN.out.2.2.1)
          have HL0 : Hid (w.heap.size < wr.heap.size) := Lib.hid (by have := HLW.out; have := HLO.out; omega)
          clear HLR HRR HDJ HB HLW HA HFC HUF HRA HKW HWR HK HAP HX4 HP hyz hhy htz hgy hgz hnyz HLH HK1
          simp only [List.length_map] at HC1 HLT ⊢
          go_wp2_with fail
          refine HC1.out.mono ?_
          rintro e w7 ⟨u0, V1, rfl, hk1, hu1, ho1, hv1⟩
          have HK7 := Lib.hid hk1
          have HU7 := Lib.hid hu1
          have HO7 := Lib.hid ho1
          have HV7 := Lib.hid hv1
          clear hk1 hu1 ho1 hv1 HC1
          obtain ⟨v7a, v7c, rfl⟩ := HK7.out.slice
          obtain ⟨p7a, p7c, rfl⟩ := HU7.out.at.slice
          go_upto_region 19 with (fail)
          obtain ⟨T0, hT0⟩ : ∃ t, (genF n (l.map headT) k).1 = t := ⟨_, rfl⟩
          obtain ⟨K1, hK1⟩ : ∃ t, (genF n (l.map headT) k).2 = t := ⟨_, rfl⟩
          rw [hT0] at HU7 HGF ⊢
          rw [hK1] at HK7 HGF HFN HV7 HU7 ⊢
          clear hT0 hK1
          have HBX := Lib.hid (at_box_of w7 #[.int .i64 T0.kind, .int .i64 T0.num, .string T0.name, .slice p7a T0.args.length p7c] 25 w7.heap.size rfl)
          have hal : Below w7.heap.size w7 (w7.alloc (.cells #[.int .i64 T0.kind, .int .i64 T0.num, .string T0.name, .slice p7a T0.args.length p7c] 25)) := belowAlloc (Below.refl _ _) _
          have HAL := Lib.hid hal
          clear hal
          generalize hw8 : w7.alloc (.cells #[.int .i64 T0.kind, .int .i64 T0.num, .string T0.name, .slice p7a T0.args.length p7c] 25) = w8 at HBX HAL ⊢
          clear hw8
          have HK8 : Hid (KnR (fun b => (X b ∨ b = w.heap.size) ∨ b = w7.heap.size) w8 (.slice v7a K1.length v7c) K1) := Lib.hid (HK7.out.frame HAL.out.size (fun j hj _ => HAL.out.block j hj) fun j hj h => h.elim id fun h => by omega)
          have HLT8 : Hid (ArgsS w8 (Oth (fun b => (X b ∨ b = w.heap.size) ∨ b = w7.heap.size) w8 (.slice v7a K1.length v7c)) (.slice ra l.length rc) (l.map tailT)) := Lib.hid (((HLT.out.frame HO7.out.size fun j hj hlt => HO7.out.block j hlt hj.2.1).kept HAL.out).sub fun j hj => by
            have h7 := HO7.out.size
            have h8 := HAL.out.size
            have hj1 := hj.1
            refine ⟨by omega, fun e => ?_, fun e => ?_⟩
            · rcases HV7.out j e with h | h
              · exact hj.2.1 h
              · omega
            · rcases e with e | e
              · exact hj.2.2 e
              · omega)
          have HX8 : Hid (∀ b, ((X b ∨ b = w.heap.size) ∨ b = w7.heap.size) → b < w8.heap.size) := Lib.hid fun b h => by
            have h7 := HO7.out.size
            have h8 := HBX.out.le
            rcases h with h | h
            · have := HX1.out b h; omega
            · omega
          have HC2 := Lib.hid (HI.out _ _ _ K1 _ z w8 HLT8.out HK8.out HX8.out HHD.out.2.1 HHD.out.2.2.2.1 HHD.out.2.2.2.2.2 HFN.out.2.1 HFN.out.2.2.2.2)
          clear HK8 HLT8 HLT
          go_wp2_with fail
          refine HC2.out.mono ?_
          rintro e w9 ⟨u1', V2, rfl, hk1, hu1, ho1, hv1⟩
          have HK9 := Lib.hid hk1
          have HU9 := Lib.hid hu1
          have HO9 := Lib.hid ho1
          have HV9 := Lib.hid hv1
          clear hk1 hu1 ho1 hv1 HC2
          obtain ⟨v9a, v9c, rfl⟩ := HK9.out.slice
          obtain ⟨p9a, p9c, rfl⟩ := HU9.out.at.slice
          go_upto_region 20 with (fail)
          obtain ⟨T1, hT1⟩ : ∃ t, (genF n (l.map tailT) K1).1 = t := ⟨_, rfl⟩
          obtain ⟨K2, hK2⟩ : ∃ t, (genF n (l.map tailT) K1).2 = t := ⟨_, rfl⟩
          rw [hT1] at HU9 HGF ⊢
          rw [hK2] at HK9 HGF HV9 HU9 ⊢
          clear hT1 hK2
          have HB7 : Hid (∀ b, (Value.slice v7a K1.length v7c).ownBlock = some b → b < w7.heap.size) := Lib.hid HK7.out.lt
          have HBX9 : Hid (w9.heap[w7.heap.size]? = some (.cells #[.int .i64 T0.kind, .int .i64 T0.num, .string T0.name, .slice p7a T0.args.length p7c] 25)) := Lib.hid ((HO9.out.block _ HBX.out.le fun e => by have := HB7.out _ e; omega).trans HBX.out.now)
          have HRB9 : Hid (w9.heap[w.heap.size]? = some (.cells #[.int .i64 0, .int .i64 0, .string ⟨#[]⟩, .slice none 0 0] 25)) := Lib.hid (by
            have h7 := HO7.out.size
            have h0 := HL0.out
            have h8 := HAL.out.size
            refine (HO9.out.block _ (by omega) fun e => ?_).trans ((HAL.out.block _ (by omega)).trans ((HO7.out.block _ h0 fun e => ?_).trans HRB.out))
            · rcases HV7.out _ e with h | h
              · have := HKL.out _ h; omega
              · omega
            · have := HKL.out _ e; omega)
          have HON : Hid (Only (fun b => (Value.slice ka k.length kc).ownBlock = some b) w w9) := Lib.hid (by
            have h1 := ((Only.of_below (S := fun b => (Value.slice ka k.length kc).ownBlock = some b) HWW.out).trans HO7.out).trans (Only.of_below (belowOn (Below.refl _ _) (Nat.le_refl _) HAL.out))
            refine ⟨HO9.out.os.trans h1.os, HO9.out.tape.trans h1.tape, HO9.out.output.trans h1.output, Nat.le_trans h1.size HO9.out.size, fun j hj hn => (HO9.out.block j (Nat.lt_of_lt_of_le hj h1.size) fun e => ?_).trans (h1.block j hj hn)⟩
            rcases HV7.out _ e with h | h
            · exact hn h
            · have := HWW.out.size; omega)
          have HVN : Hid (∀ b, (Value.slice v9a K2.length v9c).ownBlock = some b → (Value.slice ka k.length kc).ownBlock = some b ∨ w.heap.size < b) := Lib.hid fun b hb => by
            have h7 := HO7.out.size
            have h0 := HL0.out
            have h8 := HAL.out.size
            rcases HV9.out b hb with h | h
            · rcases HV7.out b h with h | h
              · exact .inl h
              · exact .inr (by omega)
            · exact .inr (by omega)
          have HU0 : Hid (ArgsS w9 (Oth (fun b => X b ∨ b = w.heap.size) w9 (.slice v9a K2.length v9c)) (.slice p7a T0.args.length p7c) T0.args) := Lib.hid ((((HU7.out.kept HAL.out).frame HO9.out.size fun j hj hlt => HO9.out.block j hlt hj.2.1)).sub fun j hj => by
            have h8 := HAL.out.size
            have h9 := HO9.out.size
            have hj1 := hj.1
            refine ⟨by omega, fun e => ?_, hj.2.2⟩
            rcases HV9.out j e with h | h
            · exact hj.2.1 h
            · omega)
          have HU1 : Hid (ArgsS w9 (Oth (fun b => X b ∨ b = w.heap.size) w9 (.slice v9a K2.length v9c)) (.slice p9a T1.args.length p9c) T1.args) := Lib.hid (HU9.out.sub fun j hj => ⟨hj.1, hj.2.1, fun h => hj.2.2 (.inl h)⟩)
          have HKF : Hid (KnR (fun b => X b ∨ b = w.heap.size) w9 (.slice v9a K2.length v9c) K2) := Lib.hid (HK9.out.frame (Nat.le_refl _) (fun _ _ _ => rfl) fun j hj h => .inl h)
          have HPR := Lib.hid (specPair_any T0.kind T0.num T0.name p7a T0.args.length p7c T1.kind T1.num T1.name p9a T1.args.length p9c (w9.alloc (.cells #[.int .i64 T1.kind, .int .i64 T1.num, .string T1.name, .slice p9a T1.args.length p9c] 25)))
          have hal : Below w9.heap.size w9 (w9.alloc (.cells #[.int .i64 T1.kind, .int .i64 T1.num, .string T1.name, .slice p9a T1.args.length p9c] 25)) := belowAlloc (Below.refl _ _) _
          have HAL9 := Lib.hid hal
          have HBY := Lib.hid (heap_new w9 (.cells #[.int .i64 T1.kind, .int .i64 T1.num, .string T1.name, .slice p9a T1.args.length p9c] 25))
          have HBXA := Lib.hid ((HAL9.out.block _ (Array.getElem?_eq_some_iff.1 HBX9.out).1).trans HBX9.out)
          have HWA : Hid (w.heap.size ≤ w9.heap.size ∧ w7.heap.size ≤ w9.heap.size) := Lib.hid (by have h7 := HO7.out.size; have h0 := HL0.out; have h8 := HAL.out.size; have h9 := HO9.out.size; omega)
          clear HK7 HU7 HO7 HV7 HBX HAL HX8 HK9 HU9 HO9 HV9 HB7 HBX9 HRB HWW HX1 hal
          generalize hwA : w9.alloc (.cells #[.int .i64 T1.kind, .int .i64 T1.num, .string T1.name, .slice p9a T1.args.length p9c] 25) = wA at HPR HAL9 HBY HBXA ⊢
          clear hwA
          obtain ⟨r0, r1, r2, r3, rf⟩ := box_cells HBXA.out
          obtain ⟨s0, s1, s2, s3, sf⟩ := box_cells HBY.out
          have hz7 : w7.heap.size < wA.heap.size := (Array.getElem?_eq_some_iff.1 HBXA.out).1
          have hz9 : w9.heap.size < wA.heap.size := (Array.getElem?_eq_some_iff.1 HBY.out).1
          generalize w7.heap.size = n7 at HBXA r0 r1 r2 r3 rf hz7 HWA ⊢
          go_wp2_with fail
          refine HPR.out.mono ?_
          rintro e wB ⟨gp, rfl, hp1, hp2, hp3, hb⟩
          have HBB := Lib.hid (belowOn HAL9.out (Nat.le_refl _) hb)
          have HPB := Lib.hid (And.intro hp1 (And.intro hp2 hp3))
          clear hb HPR r0 r1 r2 r3 rf s0 s1 s2 s3 sf hp1 hp2 hp3
          have HRBB := Lib.hid ((HBB.out.block _ (Array.getElem?_eq_some_iff.1 HRB9.out).1).trans HRB9.out)
          have HSUB : Hid (∀ j, Oth (fun b => X b ∨ b = w.heap.size) w9 (.slice v9a K2.length v9c) j → Oth (fun b => X b ∨ b = w.heap.size) wB (.slice v9a K2.length v9c) j) := Lib.hid fun j hj => ⟨Nat.lt_of_lt_of_le hj.1 HBB.out.size, hj.2⟩
          have HGP : Hid (ArgsS wB (Oth (fun b => X b ∨ b = w.heap.size) wB (.slice v9a K2.length v9c)) (.slice (some ⟨gp, 0, none⟩) 2 2) [T0, T1]) := Lib.hid (argsS_pair HPB.out.2.2 HPB.out.2.1 ⟨HPB.out.2.1, fun e => by
              have h1 := HKF.out.lt gp e
              have h2 := HPB.out.1
              omega, fun e => by
              have h2 := HPB.out.1
              have h3 := HWA.out.1
              rcases e with e | e
              · have := HX0.out gp e; omega
              · omega⟩ ((HU0.out.kept HBB.out).sub HSUB.out) ((HU1.out.kept HBB.out).sub HSUB.out))
          have HKB := Lib.hid (HKF.out.kept HBB.out)
          have HOB := Lib.hid (HON.out.trans (Only.of_below HBB.out))
          obtain ⟨r0, r1, r2, r3, rf⟩ := box_cells HRBB.out
          go_wp2
          exact gen_end (p := 4) (by rw [HGF.out.1]; rfl) (by rw [HGF.out.1]; rfl) (by rw [HGF.out.1]; rfl) rfl rfl rfl rfl Try.underlying25 (by kernel_rfl) HRBB.out HKL.out HOB.out HVN.out (HGF.out.2.symm ▸ HKB.out) (by rw [HGF.out.1]; exact HGP.out)
end Go.Proofs.Ytoihimdfmncdoaa

