/-
  The model's ItemsOf.
-/
import Derived.Test.YtodldillpoajfaaItems
namespace Go.Proofs.Ytodldillpoajfaa
open Go.RowKit
set_option linter.unusedVariables false
set_option linter.unusedSimpArgs false

set_option maxRecDepth 100000 in
set_option maxHeartbeats 4000000 in
theorem specItemsOf_any (t : Tm) (V : Value) (w : World) (hA : ArgsAt w V t.args) (hZ : t.sz ≤ 1048576) :
    Calls Try.prog 45 #[.agg #[.int .i64 t.kind, .int .i64 t.num, .string t.name, V]] w (OldIt (itT t) (itL t) w) := by
  obtain ⟨i0, hi0, hz0, hz1, hz2⟩ := info_parts infoTerm
  obtain ⟨aa, ca, rfl⟩ := hA.slice
  have HNO : Hid (¬ Ok t → itT t = [] ∧ itL t = zeroTm) := Lib.hid it_no
  have HYES : Hid (Ok t → itT t = t.items ∧ itL t = t.last) := Lib.hid it_yes
  generalize itT t = rs at HNO HYES ⊢
  generalize itL t = r at HNO HYES ⊢
  have HAA := Lib.hid hA
  have HII := Lib.hid (And.intro hi0 (And.intro hz0 (And.intro hz1 hz2)))
  clear hA hi0 hz0 hz1 hz2
  have HX := Lib.hid ((at_box w #[.int .i64 t.kind, .int .i64 t.num, .string t.name, .slice aa t.args.length ca] 25).read (belowAlloc (Below.refl _ _) (.cells #[.int .i64 0, .int .i64 0, .string ⟨#[]⟩, .slice none 0 0] 25)))
  have HR := Lib.hid (at_box_of (w.alloc (.cells #[.int .i64 t.kind, .int .i64 t.num, .string t.name, .slice aa t.args.length ca] 25)) #[.int .i64 0, .int .i64 0, .string ⟨#[]⟩, .slice none 0 0] 25 (w.heap.size + 1) (by simp))
  have HW : Hid (Below w.heap.size w ((w.alloc (.cells #[.int .i64 t.kind, .int .i64 t.num, .string t.name, .slice aa t.args.length ca] 25)).alloc (.cells #[.int .i64 0, .int .i64 0, .string ⟨#[]⟩, .slice none 0 0] 25))) := Lib.hid (belowAlloc (belowAlloc (Below.refl _ _) _) _)
  have HSZ : Hid (w.heap.size + 1 + 1 ≤ ((w.alloc (.cells #[.int .i64 t.kind, .int .i64 t.num, .string t.name, .slice aa t.args.length ca] 25)).alloc (.cells #[.int .i64 0, .int .i64 0, .string ⟨#[]⟩, .slice none 0 0] 25)).heap.size) := Lib.hid (by simp)
  go_enter Try.func45, Try.ntmps45
  go_upto_region 1 with (fail)
  generalize hw0 : (w.alloc (.cells #[.int .i64 t.kind, .int .i64 t.num, .string t.name, .slice aa t.args.length ca] 25)).alloc (.cells #[.int .i64 0, .int .i64 0, .string ⟨#[]⟩, .slice none 0 0] 25) = w0 at HX HR HW HSZ ⊢
  clear hw0
  have HO := Lib.hid (specTermOk_any t _ w0 (HAA.out.kept HW.out) hZ)
  obtain ⟨c0a, c0b, c0c, c0d⟩ := HX.out.cells
  have z0 := HX.out.le
  go_wp2_with fail
  refine HO.out.mono ?_
  rintro e w1 ⟨rfl, hb⟩
  clear c0a c0b c0c c0d z0 HO
  replace HSZ : Hid (w.heap.size + 1 + 1 ≤ w1.heap.size) := Lib.hid (Nat.le_trans HSZ.out hb.size)
  replace HX := Lib.hid (HX.out.read hb)
  replace HR := Lib.hid (HR.out.read hb)
  replace HW := Lib.hid (belowOn HW.out (Nat.le_refl _) hb)
  clear hb
  cases hoa : okB t with
  | false =>
    obtain ⟨rfl, rfl⟩ := HNO.out fun h => okB_false.1 hoa h
    clear hoa HNO HYES
    have HRE := Lib.hid HR.out.now
    obtain ⟨r0, r1, r2, r3, rf⟩ := box_cells HR.out.now
    have zr := HR.out.le
    go_wp2
    refine bodyPost_four3 (p := 3) (q := 2) (b := w.heap.size + 1) (z := .slice none 0 0) rfl rfl rfl rfl Try.underlying25 (by kernel_rfl) HRE.out fun w' hw => ?_
    have hbb : Below w.heap.size w w' := HW.out.trans (hw.below (fun k hk => by have := hk.1; omega) HW.out.size)
    exact ⟨_, _, rfl, .nil _ _, .nil _ _, hbb⟩
  | true =>
    have HOK := Lib.hid (okB_true.1 hoa)
    obtain ⟨hrs, hr⟩ := HYES.out (okB_true.1 hoa)
    have HRS := Lib.hid hrs
    have HRL := Lib.hid hr
    have hn5 : t.nodes ≤ 5000 := (okB_true.1 hoa).1
    clear hoa HNO HYES hrs hr
    have hsz1 := HSZ.out
    have HE0 := Lib.hid (at_box w1 #[] 25)
    have hal : Below w1.heap.size w1 (w1.alloc (.cells #[] 25)) := belowAlloc (Below.refl _ _) _
    replace HX := Lib.hid (HX.out.read hal)
    replace HR := Lib.hid (HR.out.read hal)
    replace HW := Lib.hid (belowOn HW.out (Nat.le_refl _) hal)
    have HRW : Hid (RowS (w1.alloc (.cells #[] 25)) (w.heap.size + 1 + 1) (.slice (some ⟨w1.heap.size, 0, none⟩) 0 0) []) := Lib.hid ⟨[], rfl, ⟨rfl, .inr ⟨w1.heap.size, 0, #[], rfl, hsz1, HE0.out.now, Nat.le_refl _, Nat.zero_le _, rfl, rfl⟩⟩, fun j p hj => by simp at hj⟩
    have HSZ2 : Hid (w.heap.size + 1 + 1 ≤ (w1.alloc (.cells #[] 25)).heap.size) := Lib.hid (by simp; omega)
    clear hal HE0 hsz1 HSZ
    go_wp2
    go_loopg [4] t.nodes (fun g s4 wr => ∃ (c : Tm) (ad : Option Addr) (cp : Nat) (xs : List Tm), c.nodes ≤ g ∧ Hid (Good c) ∧ Hid (t.items = xs ++ c.items) ∧ Hid (t.last = c.last) ∧ xs.length + c.nodes ≤ t.nodes ∧ c.sz ≤ 1048576 ∧ Hid (ArgsAt w (.slice ad c.args.length cp) c.args) ∧
        Hid (At wr w.heap.size (w.heap.size + 1) (BoxP w.heap.size #[.int .i64 c.kind, .int .i64 c.num, .string c.name, .slice ad c.args.length cp] 25)) ∧ Hid (At wr (w.heap.size + 1) (w.heap.size + 1 + 1) (BoxP (w.heap.size + 1) #[.int .i64 0, .int .i64 0, .string ⟨#[]⟩, .slice none 0 0] 25)) ∧
        Hid (RowS wr (w.heap.size + 1 + 1) s4 xs) ∧ Hid (Below w.heap.size w wr) ∧ w.heap.size + 1 + 1 ≤ wr.heap.size)
    case atStart => exact ⟨t, aa, ca, [], Nat.le_refl _, Lib.hid HOK.out.2, Lib.hid rfl, Lib.hid rfl, by simp, hZ, HAA, HX, HR, HRW, HW, HSZ2.out⟩
    case round =>
      obtain ⟨c, ad, cp, xs, hg, HG, HIT, HLT, hln, hcz, HCA, HXr, HRr, HOr, HWr, hsz⟩ := hrel
      obtain ⟨sa, sc, rfl⟩ := HOr.out.slice
      clear HX HR HW HSZ2 HRW HAA
      have hcn := nodes_pos c
      obtain ⟨c0a, c0b, c0c, c0d⟩ := HXr.out.cells
      have z0 := HXr.out.le
      by_cases hk : c.kind = 4
      · obtain ⟨x, y, hxy⟩ := HG.out.fit.pair hk
        obtain ⟨ga, offa, u1, u2, v1, v2, rfl, hga, hla, hcx, hcy, hax, hay⟩ := HCA.out.two hxy
        have HIC := Lib.hid (items_pair hxy)
        have HLC := Lib.hid (last_pair hxy)
        have HGX := Lib.hid ((good_two HG.out.fit hxy).1 HG.out)
        have hnn : c.nodes = 1 + x.nodes + y.nodes := nodes_args2 hxy
        have hss : x.sz ≤ 1048576 ∧ y.sz ≤ 1048576 := by have h := sz_eq c; rw [hxy] at h; simp only [szL] at h; omega
        obtain ⟨hsx, hsy⟩ := hss
        have hxn := nodes_pos x
        have HCX := Lib.hid hcx
        have HCY := Lib.hid hcy
        have HAX := Lib.hid hax
        have HAY := Lib.hid hay
        have hl2 : 1 < c.args.length := by omega
        have hl3 : (1 : Int) < (c.args.length : Int) := by omega
        have hl4 : (0 : Int) < (c.args.length : Int) := by omega
        have hl5 : 0 < c.args.length := by omega
        clear hxy hga hla hcx hcy hax hay
        obtain ⟨d0, d1, d2, d3⟩ := HCX.out wr HWr.out
        have HC := Lib.hid (specCopy_any (x.nodes + 1) x _ wr (by omega) (HAX.out.kept HWr.out) (by omega))
        go_wp2_with fail
        refine HC.out.mono ?_
        rintro e wC ⟨u, rfl, hu, hb⟩
        clear c0a c0b c0c c0d z0 d0 d1 d2 d3
        have HMID : Hid (∀ k, (Value.slice sa xs.length sc).ownBlock = some k → w.heap.size + 1 + 1 ≤ k ∧ k < wr.heap.size) := Lib.hid (by
          obtain ⟨L, hL, hrow, _⟩ := HOr.out
          exact fun k hk => World.ownsRow.lt hrow k hk)
        replace HXr := Lib.hid (HXr.out.read hb)
        replace HRr := Lib.hid (HRr.out.read hb)
        have HOC := Lib.hid (HOr.out.frame hb.size (fun k _ hk => hb.block k hk))
        have HWC := Lib.hid (belowOn HWr.out (Nat.le_refl _) hb)
        have hsC := hb.size
        have HU := Lib.hid hu
        obtain ⟨ua, uc, rfl⟩ := hu.at.slice
        clear hb hu HC HOr
        obtain ⟨L, hL, hrow, hch⟩ := HOC.out
        have hLn : xs.length = L.length := by rw [← hL, List.length_map]
        rw [← hLn] at hrow
        have HROW := Lib.hid hrow
        have HPA := Lib.hid (And.intro hL (And.intro hLn hch))
        clear hL hLn hrow hch
        go_wp2_with (at_builtin; refine wpList_append_lies _ rfl _ _ 23 rfl (w.heap.size + 1 + 1) 25 i0 _ 4 56 Try.underlying23 HII.out.1 HII.out.2.1 HII.out.2.2.1 HII.out.2.2.2 rfl (by omega) (.slice sa xs.length sc) xs.length (cellsL L) rfl (HROW.out.alloc _) ⟨wC.heap.size, 0, none⟩ 1 1 (cells4 x (.slice ua x.args.length uc)) rfl rfl (World.news_of_block (heap_alloc_new wC _)) (by simp [cells4, Value.oneCell']) (by omega) (by unfold maxLen; omega) (by omega) (by simp; omega) (wC.heap.size + 1) (by simp) ?_; intro gg cap w1' hown1 hgrow hat hlt1; have HAP := Lib.hid (And.intro hown1 (And.intro hgrow (And.intro hat hlt1))); have HX1 := Lib.hid ((HXr.out.read (belowAlloc (Below.refl _ _) _)).grown hgrow (fun k hk => .inr (by have h := (HMID.out k hk).1; omega))); have HW1 : Hid (Below w.heap.size w w1') := Lib.hid ((belowOn HWC.out (Nat.le_refl _) (belowAlloc (Below.refl _ _) _)).trans (below_of_grown hgrow (by have := HWC.out.size; simp; omega) (fun k hk => by have h := (HMID.out k hk).1; omega))); clear hown1 hgrow hat hlt1; obtain ⟨r0, r1, r2, r3, rf⟩ := box_cells HX1.out.now; have z0 := HX1.out.le; obtain ⟨e0, e1, e2, e3⟩ := HCY.out w1' HW1.out)
        have hgs := HAP.out.2.1.size
        simp only [World.size_alloc] at hgs
        have HR1 := Lib.hid ((HRr.out.read (belowAlloc (Below.refl _ _) _)).grown HAP.out.2.1 (fun k hk => .inr (by have h := (HMID.out k hk).1; omega)))
        have HO1 : Hid (RowS w1' (w.heap.size + 1 + 1) (.slice (some ⟨gg, 0, none⟩) (xs.length + 1) cap) (xs ++ [x])) := Lib.hid (by
          have h := rowS_append (mid := wr.heap.size) HPA.out.2.1 HROW.out HPA.out.2.2 HU.out (fun k hk => (HMID.out k hk).2) hsz (belowAlloc (Below.refl _ _) _) HAP.out.1 HAP.out.2.1 (HAP.out.2.2.1.imp id (fun h => by omega))
          rw [HPA.out.1] at h
          exact h)
        have HST := Lib.hid (store4 HX1.out.now (.int .i64 y.kind) (.int .i64 y.num) (.string y.name) (.slice v1 y.args.length v2))
        clear r0 r1 r2 r3 rf e0 e1 e2 e3
        go_roundg y.nodes
        case measure => omega
        case rel =>
          have ho := HST.out.2
          have hso := ho.size
          refine ⟨y, v1, v2, xs ++ [x], Nat.le_refl _, Lib.hid HGX.out.2, Lib.hid (by rw [HIT.out, HIC.out, List.append_assoc]; rfl), Lib.hid (by rw [HLT.out, HLC.out]), by simp; omega, hsy, HAY, Lib.hid ⟨HST.out.1, stays_box _ _ _, by omega⟩, Lib.hid (HR1.out.only ho (by omega)), Lib.hid ?_, Lib.hid (HW1.out.trans (ho.below (fun k hk => by have := hk.1; omega) HW1.out.size)), by omega⟩
          exact HO1.out.frame hso (fun k hk hks => ho.block k hks (fun h => by have := h.1; have := h.2; omega))
      · have HAT := Lib.hid (HG.out.fit.atom hk)
        have HC := Lib.hid (specCopy_any (c.nodes + 1) c _ wr (by omega) (HCA.out.kept HWr.out) (by omega))
        go_wp2_with fail
        refine HC.out.mono ?_
        rintro e wB ⟨u, rfl, hu, hb⟩
        have HRE := Lib.hid (HRr.out.read hb).now
        obtain ⟨r0, r1, r2, r3, rf⟩ := box_cells (HRr.out.read hb).now
        obtain ⟨a0, k0, rfl⟩ := hu.at.slice
        have HU := Lib.hid hu
        have HOB := Lib.hid (HOr.out.frame hb.size (fun k _ hk => hb.block k hk))
        have HWB := Lib.hid (belowOn HWr.out (Nat.le_refl _) hb)
        have hl1 := hb.size
        clear hu hb c0a c0b c0c c0d z0 HC hk
        go_wp2
        refine bodyPost_four3 (p := 3) (q := 2) (b := w.heap.size + 1) (z := .slice sa xs.length sc) rfl rfl rfl rfl Try.underlying25 (by kernel_rfl) HRE.out fun w' hw => ?_
        have hlc : r = c := by rw [HRL.out, HLT.out, last_atom HAT.out]
        have hls : rs = xs := by rw [HRS.out, HIT.out, items_atom HAT.out, List.append_nil]
        subst hlc
        subst hls
        have hbb : Below w.heap.size w w' := HWB.out.trans (hw.below (fun k hk => by have := hk.1; omega) HWB.out.size)
        refine ⟨_, _, rfl, (HOB.out.frame hw.size (fun k hk hks => hw.block k hks (fun h => by have := h.1; have := h.2; omega))).args.at, ?_, hbb⟩
        exact (HU.out.frame hw.size (fun k hk hks => hw.block k hks (fun h => by have h1 := hk.1; have h2 := h.2; omega))).at
end Go.Proofs.Ytodldillpoajfaa
