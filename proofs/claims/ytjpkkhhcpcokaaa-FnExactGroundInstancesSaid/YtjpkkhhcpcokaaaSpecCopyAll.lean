/-
  The model's l02CopyAll.
-/
import Derived.Test.YtjpkkhhcpcokaaaTmE
import Derived.Test.YtjpkkhhcpcokaaaSubstT
import Derived.Test.YtjpkkhhcpcokaaaEachT
import Derived.Test.YtjpkkhhcpcokaaaPuts
import Derived.Deep.RegionLaw
import Derived.Deep.AppendLies
namespace Go.Proofs.Ytjpkkhhcpcokaaa
open Go.RowKit
set_option linter.unusedVariables false
set_option linter.unusedSimpArgs false

set_option maxRecDepth 100000 in
set_option maxHeartbeats 8000000 in
theorem specCopyAll_any (l : List Tm) (V : Value) (w : World) (hA : ArgsAt w V l) (hE : EachT l) :
    Calls Try.prog 65 #[V] w fun e w' => ∃ u, e = .returned u ∧ ArgsAt w' u l ∧ Below w.heap.size w w' := by
  obtain ⟨i0, hi, hz0, hz1, hz2⟩ := info_parts infoTerm
  have HII := Lib.hid (And.intro hi (And.intro hz0 (And.intro hz1 hz2)))
  obtain ⟨a, cap0, rfl⟩ := hA.slice
  have HA := Lib.hid hA
  have HE := Lib.hid hE
  have hL : l.length ≤ 1048577 := hE.1
  have HR0 := Lib.hid (rowK_start (E := tmE) (e := 46) (w := w))
  have HB4 : Hid (Below w.heap.size w (w.alloc (.cells #[] 46))) := Lib.hid (belowAlloc (Below.refl _ _) _)
  clear hA hE hi hz0 hz1 hz2
  go_enter Try.func65, Try.ntmps65
  go_wp2
  go_loopw [3, 9] (fun lv iv wr => ∃ k : Nat, k ≤ l.length ∧ iv = .int .i64 k ∧ Hid (RowK tmE 46 wr w.heap.size lv (l.take k)) ∧ Hid (Below w.heap.size w wr)) (fun _ iv _ => l.length - (intOf iv).toNat)
  case atStart => exact ⟨0, Nat.zero_le _, rfl, HR0, HB4⟩
  case round =>
    obtain ⟨k, hk, rfl, HO, HB⟩ := hrel
    obtain ⟨oa, oc, rfl⟩ := HO.out.slice
    clear HR0 HB4
    by_cases hlt : k < l.length
    · have hltI : (k : Int) < (l.length : Int) := by omega
      obtain ⟨x, hx⟩ : ∃ x, l[k]? = some x := ⟨_, List.getElem?_eq_getElem hlt⟩
      obtain ⟨g, off, u1, u2, rfl, hg, hq, hc, hu⟩ := HA.out.elem hx
      obtain ⟨d0, d1, d2, d3⟩ := hc wr HB.out
      have hgw : g < wr.heap.size := Nat.lt_of_lt_of_le hg HB.out.size
      have HTK : Hid (l.take (k + 1) = l.take k ++ [x]) := Lib.hid (by rw [List.take_add_one, hx]; rfl)
      have HU := Lib.hid (hu.kept HB.out)
      have HZX := Lib.hid (HE.out.at hx)
      have hkl : (l.take k).length = k := by rw [List.length_take]; omega
      have HKL := Lib.hid hkl
      clear hq hc hu hx hkl
      go_upto_region 5 with (fail)
      have hal : Below wr.heap.size wr (wr.alloc (.cells #[.int .i64 x.kind, .int .i64 x.num, .string x.name, .slice u1 x.args.length u2] 46)) := belowAlloc (Below.refl _ _) _
      have HBX := Lib.hid (at_box_of wr #[.int .i64 x.kind, .int .i64 x.num, .string x.name, .slice u1 x.args.length u2] 46 wr.heap.size rfl)
      have HO1 := Lib.hid (HO.out.kept hal)
      have HB1 := Lib.hid (belowOn HB.out (Nat.le_refl _) hal)
      have HU1 := Lib.hid (HU.out.kept hal)
      clear hal d0 d1 d2 d3 HO HB HU
      generalize hw1 : wr.alloc (.cells #[.int .i64 x.kind, .int .i64 x.num, .string x.name, .slice u1 x.args.length u2] 46) = w6 at HBX HO1 HB1 HU1 ⊢
      clear hw1
      generalize wr.heap.size = nb at HBX ⊢
      have HCC := Lib.hid (specCopy_any (x.nodes + 1) x _ w6 (Nat.lt_succ_self _) HU1.out (by have := HZX.out; omega))
      obtain ⟨e0, e1, e2, e3⟩ := HBX.out.cells
      have ze := HBX.out.le
      obtain ⟨L, hL1, hrow, hch⟩ := HO1.out
      have hLn : k = L.length := by have := congrArg List.length hL1; rw [HKL.out, List.length_map] at this; exact this
      rw [← hLn] at hrow
      have HROW := Lib.hid hrow
      have HPA := Lib.hid (And.intro hL1 (And.intro hLn hch))
      have HNE := Lib.hid (rowK_block HO1.out)
      have hwz : w.heap.size ≤ w6.heap.size := HB1.out.size
      rw [HKL.out] at HROW HNE HPA ⊢
      clear hL1 hLn hrow hch HU1 HBX HO1
      go_wp2_with fail
      refine HCC.out.mono ?_
      rintro e wB ⟨u, rfl, hu, hbB⟩
      obtain ⟨ua, uc, rfl⟩ := hu.at.slice
      have HU := Lib.hid hu
      have HWB := Lib.hid hbB
      have hwzB : w.heap.size ≤ wB.heap.size := Nat.le_trans hwz hbB.size
      clear hu hbB HCC e0 e1 e2 e3 ze
      go_wp2_with (at_builtin; refine wpList_append_lies _ rfl _ _ 35 rfl w.heap.size 46 i0 _ 4 56 Try.underlying35 HII.out.1 HII.out.2.1 HII.out.2.2.1 HII.out.2.2.2 rfl (by omega) (.slice oa k oc) k (cellsE tmE L) rfl ((row_kept HROW.out HWB.out).alloc _) ⟨wB.heap.size, 0, none⟩ 1 1 (tmE.cells x (.slice ua x.args.length uc)) rfl rfl (World.news_of_block (heap_alloc_new wB _)) (by simp [tmE, cells4, Value.oneCell']) (by omega) (by unfold maxLen; omega) (by omega) (by simp; omega) (wB.heap.size + 1) (by simp) ?_; intro gg cap w2' hown1 hgrow hat hlt1; have HAP := Lib.hid (And.intro hown1 (And.intro hgrow (And.intro hat hlt1))); clear hown1 hgrow hat hlt1)
      have HBF := Lib.hid ((belowAlloc (belowOn HB1.out (Nat.le_refl _) HWB.out) (.cells #[.int .i64 x.kind, .int .i64 x.num, .string x.name, .slice ua x.args.length uc] 46)).trans (below_of_grown HAP.out.2.1 (by have := HWB.out.size; simp; omega) (fun j hj => (HNE.out j hj).1)))
      have HN : Hid (RowK tmE 46 w2' w.heap.size (.slice (some ⟨gg, 0, none⟩) (k + 1) cap) (l.take (k + 1))) := Lib.hid (by
        have h := rowK_append (E := tmE) (x := x) HPA.out.2.1 (row_kept HROW.out HWB.out) (fun j p hj => by
          obtain ⟨C, c1, c2⟩ := HPA.out.2.2 j p hj
          exact ⟨C, tmE.kidFrame c1 HWB.out.size fun b _ hb => HWB.out.block b hb, fun b hb => ⟨Nat.lt_of_lt_of_le (c2 b hb).1 HWB.out.size, (c2 b hb).2⟩⟩) (C := iv w6.heap.size wB.heap.size) HU.out (fun b hb => ⟨hb.2, fun e => by have h1 := (HNE.out b e).2; have h2 := hb.1; omega⟩) (belowAlloc (Below.refl _ _) _) HAP.out.1 HAP.out.2.1 (HAP.out.2.2.1.imp id (fun h => by omega))
        rw [← HPA.out.1, ← HTK.out] at h
        exact h)
      clear HAP HPA HROW HU HNE
      go_wp2
      go_roundw
      case rel => exact ⟨k + 1, by omega, by go_num, HN, HBF⟩
      case measure => simp [intOf]; omega
    · obtain rfl : k = l.length := by omega
      have HL : Hid (ArgsAt wr (.slice oa (l.take l.length).length oc) l) := Lib.hid (by
        have h := HO.out.inS.tms.at
        rw [List.take_length] at h ⊢
        exact h)
      clear HO
      go_wp2
      go_ret
      exact ⟨_, rfl, by first | exact HL.out | simpa using HL.out, HB.out⟩
end Go.Proofs.Ytjpkkhhcpcokaaa

