/-
  The program's ItemsOf.
-/
import Derived.Test.YtokndpmoamjbfaaItems
namespace Go.Proofs.Ytokndpmoamjbfaa
open Go.RowKit
set_option linter.unusedVariables false
set_option linter.unusedSimpArgs false

set_option maxRecDepth 100000 in
set_option maxHeartbeats 4000000 in
theorem implItemsOf_any (t : Tm) (V : Value) (w : World) (hA : ArgsAt w V t.args) (hZ : t.sz ≤ 1048576) :
    Calls Try.prog 11 #[.agg #[.int .i64 t.kind, .int .i64 t.num, .string t.name, V]] w (NewIt (itT t) (itL t) w) := by
  obtain ⟨i0, hi0, hz0, hz1, hz2⟩ := info_parts infoTerm
  obtain ⟨aa, ca, rfl⟩ := hA.slice
  have HNO : Hid (¬ Ok t → itT t = [] ∧ itL t = zeroTm) := Lib.hid it_no
  have HYES : Hid (Ok t → itT t = t.items ∧ itL t = t.last) := Lib.hid it_yes
  generalize itT t = rs at HNO HYES ⊢
  generalize itL t = r at HNO HYES ⊢
  have HAA := Lib.hid hA
  have HII := Lib.hid (And.intro hi0 (And.intro hz0 (And.intro hz1 hz2)))
  clear hA hi0 hz0 hz1 hz2
  have HX := Lib.hid ((at_box w #[.int .i64 t.kind, .int .i64 t.num, .string t.name, .slice aa t.args.length ca] 25).read (belowAlloc (Below.refl _ _) (.cells #[.int .i64 0, .int .i64 0, .string ⟨#[]⟩, .slice none 0 0] 25)))
  have HR := Lib.hid (at_box_of (w.alloc (.cells #[.int .i64 t.kind, .int .i64 t.num, .string t.name, .slice aa t.args.length ca] 25)) #[.int .i64 0, .int .i64 0, .string ⟨#[]⟩, .slice none 0 0] 25 (w.heap.size + 1) (by simp))
  have HW : Hid (Below w.heap.size w ((w.alloc (.cells #[.int .i64 t.kind, .int .i64 t.num, .string t.name, .slice aa t.args.length ca] 25)).alloc (.cells #[.int .i64 0, .int .i64 0, .string ⟨#[]⟩, .slice none 0 0] 25))) := Lib.hid (belowAlloc (belowAlloc (Below.refl _ _) _) _)
  have HSZ : Hid (w.heap.size + 1 + 1 ≤ ((w.alloc (.cells #[.int .i64 t.kind, .int .i64 t.num, .string t.name, .slice aa t.args.length ca] 25)).alloc (.cells #[.int .i64 0, .int .i64 0, .string ⟨#[]⟩, .slice none 0 0] 25)).heap.size) := Lib.hid (by simp)
  go_enter Try.func11, Try.ntmps11
  go_upto_region 1 with (fail)
  generalize hw0 : (w.alloc (.cells #[.int .i64 t.kind, .int .i64 t.num, .string t.name, .slice aa t.args.length ca] 25)).alloc (.cells #[.int .i64 0, .int .i64 0, .string ⟨#[]⟩, .slice none 0 0] 25) = w0 at HX HR HW HSZ ⊢
  clear hw0
  have HO := Lib.hid (implTermOk_any t _ w0 (HAA.out.kept HW.out) hZ)
  obtain ⟨c0a, c0b, c0c, c0d⟩ := HX.out.cells
  have z0 := HX.out.le
  go_wp2_with fail
  refine HO.out.mono ?_
  rintro e w1 ⟨rfl, hb⟩
  clear c0a c0b c0c c0d z0 HO
  replace HSZ : Hid (w.heap.size + 1 + 1 ≤ w1.heap.size) := Lib.hid (Nat.le_trans HSZ.out hb.size)
  replace HX := Lib.hid (HX.out.read hb)
  replace HR := Lib.hid (HR.out.read hb)
  replace HW := Lib.hid (belowOn HW.out (Nat.le_refl _) hb)
  clear hb
  cases hoa : okB t with
  | false =>
    obtain ⟨rfl, rfl⟩ := HNO.out fun h => okB_false.1 hoa h
    clear hoa HNO HYES
    have HRE := Lib.hid HR.out.now
    obtain ⟨r0, r1, r2, r3, rf⟩ := box_cells HR.out.now
    have zr := HR.out.le
    go_wp2
    refine bodyPost_four3 (p := 3) (q := 2) (b := w.heap.size + 1) (z := .slice none 0 0) rfl rfl rfl rfl Try.underlying25 (by kernel_rfl) HRE.out fun w' hw => ?_
    have hbb : Below w.heap.size w w' := HW.out.trans (hw.below (fun k hk => by have := hk.1; omega) HW.out.size)
    exact ⟨w.heap.size, _, _, rfl, Nat.le_refl _, hbb.size, .nil _, .nil _, hbb⟩
  | true =>
    have HOK := Lib.hid (okB_true.1 hoa)
    obtain ⟨hrs, hr⟩ := HYES.out (okB_true.1 hoa)
    have HRS := Lib.hid hrs
    have HRL := Lib.hid hr
    have hn5 : t.nodes ≤ 5000 := (okB_true.1 hoa).1
    clear hoa HNO HYES hrs hr
    go_wp2
    go_loopg [4] t.nodes (fun g s4 wr => ∃ (c : Tm) (ad : Option Addr) (cp : Nat) (xs : List Tm), c.nodes ≤ g ∧ Hid (Good c) ∧ Hid (t.items = xs ++ c.items) ∧ Hid (t.last = c.last) ∧ xs.length + c.nodes ≤ t.nodes ∧ c.sz ≤ 1048576 ∧ Hid (ArgsAt w (.slice ad c.args.length cp) c.args) ∧
        Hid (At wr w.heap.size (w.heap.size + 1) (BoxP w.heap.size #[.int .i64 c.kind, .int .i64 c.num, .string c.name, .slice ad c.args.length cp] 25)) ∧ Hid (At wr (w.heap.size + 1) (w.heap.size + 1 + 1) (BoxP (w.heap.size + 1) #[.int .i64 0, .int .i64 0, .string ⟨#[]⟩, .slice none 0 0] 25)) ∧
        Hid (Own wr 25 (iv (w.heap.size + 1 + 1) wr.heap.size) s4 xs) ∧ Hid (Below w.heap.size w wr) ∧ w.heap.size + 1 + 1 ≤ wr.heap.size)
    case atStart => exact ⟨t, aa, ca, [], Nat.le_refl _, Lib.hid HOK.out.2, Lib.hid rfl, Lib.hid rfl, by simp, hZ, HAA, HX, HR, Lib.hid (.nil _), HW, HSZ.out⟩
    case round =>
      obtain ⟨c, ad, cp, xs, hg, HG, HIT, HLT, hln, hcz, HCA, HXr, HRr, HOr, HWr, hsz⟩ := hrel
      obtain ⟨sa, sc, rfl⟩ := HOr.out.argsAt.slice
      clear HX HR HW HSZ HAA
      have hcn := nodes_pos c
      have HIP := Lib.hid (isPair_any c.kind c.num c.name (.slice ad c.args.length cp) wr)
      obtain ⟨c0a, c0b, c0c, c0d⟩ := HXr.out.cells
      have z0 := HXr.out.le
      go_wp2_with fail
      refine HIP.out.mono ?_
      rintro e wA ⟨rfl, hb⟩
      clear c0a c0b c0c c0d z0 HIP
      replace HXr := Lib.hid (HXr.out.read hb)
      replace HRr := Lib.hid (HRr.out.read hb)
      have HOA := Lib.hid (At.read (at_own HOr.out (Nat.le_refl _)) hb)
      replace HWr := Lib.hid (belowOn HWr.out (Nat.le_refl _) hb)
      have hsA := hb.size
      clear hb HOr
      by_cases hk : c.kind = 4
      · have hd : decide (c.kind = 4) = true := decide_eq_true hk
        rw [hd]
        obtain ⟨x, y, hxy⟩ := HG.out.fit.pair hk
        obtain ⟨ga, offa, u1, u2, v1, v2, rfl, hga, hla, hcx, hcy, hax, hay⟩ := HCA.out.two hxy
        have HIC := Lib.hid (items_pair hxy)
        have HLC := Lib.hid (last_pair hxy)
        have HGX := Lib.hid ((good_two HG.out.fit hxy).1 HG.out)
        have hnn : c.nodes = 1 + x.nodes + y.nodes := nodes_args2 hxy
        have hss : x.sz ≤ 1048576 ∧ y.sz ≤ 1048576 := by have h := sz_eq c; rw [hxy] at h; simp only [szL] at h; omega
        obtain ⟨hsx, hsy⟩ := hss
        have hxn := nodes_pos x
        have HLA := Lib.hid hla
        have HCX := Lib.hid hcx
        have HCY := Lib.hid hcy
        have HAX := Lib.hid hax
        have HAY := Lib.hid hay
        have HGA := Lib.hid hga
        clear hd hxy hga hla hcx hcy hax hay hk
        have HH : Hid (∀ W, Below w.heap.size w W → Calls Try.prog 25 #[.agg #[.int .i64 c.kind, .int .i64 c.num, .string c.name, .slice (some ⟨ga, offa, none⟩) c.args.length cp]] W fun e w' => e = .returned (.agg #[.int .i64 x.kind, .int .i64 x.num, .string x.name, .slice u1 x.args.length u2]) ∧ Below W.heap.size W w') := Lib.hid fun W hW => by
          obtain ⟨q0, q1, q2, q3⟩ := HCX.out W hW
          exact head_any c.kind c.num c.name ga offa c.args.length cp _ _ _ _ _ _ W (Nat.lt_of_lt_of_le HGA.out hW.size) (by have := HLA.out; omega) (by have := HLA.out; omega) q0 q1 q2 q3
        have HT : Hid (∀ W, Below w.heap.size w W → Calls Try.prog 24 #[.agg #[.int .i64 c.kind, .int .i64 c.num, .string c.name, .slice (some ⟨ga, offa, none⟩) c.args.length cp]] W fun e w' => e = .returned (.agg #[.int .i64 y.kind, .int .i64 y.num, .string y.name, .slice v1 y.args.length v2]) ∧ Below W.heap.size W w') := Lib.hid fun W hW => by
          obtain ⟨q0, q1, q2, q3⟩ := HCY.out W hW
          exact tail_any c.kind c.num c.name ga offa c.args.length cp _ _ _ _ _ _ W (Nat.lt_of_lt_of_le HGA.out hW.size) (by have := HLA.out; omega) (by have := HLA.out; omega) q0 q1 q2 q3
        have HH0 := Lib.hid (HH.out wA HWr.out)
        obtain ⟨c0a, c0b, c0c, c0d⟩ := HXr.out.cells
        have z0 := HXr.out.le
        go_wp2_with fail
        refine HH0.out.mono ?_
        rintro e wB ⟨rfl, hb⟩
        clear c0a c0b c0c c0d z0 HH0 HH
        replace HXr := Lib.hid (HXr.out.read hb)
        replace HRr := Lib.hid (HRr.out.read hb)
        replace HOA := Lib.hid (HOA.out.read hb)
        replace HWr := Lib.hid (belowOn HWr.out (Nat.le_refl _) hb)
        have hsB := hb.size
        clear hb
        have HC := Lib.hid (copied_any (x.nodes + 1) x _ wB (by omega) (HAX.out.kept HWr.out) hsx HGX.out.1)
        go_wp2_with fail
        refine HC.out.mono ?_
        rintro e wC ⟨u, rfl, hn⟩
        have hb := hn.2
        replace HXr := Lib.hid (HXr.out.read hb)
        replace HRr := Lib.hid (HRr.out.read hb)
        replace HOA := Lib.hid (HOA.out.read hb)
        replace HWr := Lib.hid (belowOn HWr.out (Nat.le_refl _) hb)
        have hsC := hb.size
        have HN := Lib.hid hn.1
        obtain ⟨ua, uc, rfl⟩ := hn.1.argsAt.slice
        clear hb hn HC
        obtain ⟨L, C, hL, hrow, hbk, hr, hC, hd⟩ := Own.parts HOA.out.now
        have hLn : xs.length = L.length := by rw [hL, List.length_map]
        rw [← hLn] at hrow
        have HROW := Lib.hid hrow
        have HPA := Lib.hid (And.intro hL (And.intro hLn (And.intro hbk (And.intro hr (And.intro hC hd)))))
        clear hL hLn hrow hbk hr hC hd
        go_wp2_with (at_builtin; refine wpList_append_lies _ rfl _ _ 23 rfl 0 25 i0 _ 4 56 Try.underlying23 HII.out.1 HII.out.2.1 HII.out.2.2.1 HII.out.2.2.2 rfl (by omega) (.slice sa xs.length sc) xs.length (cellsL L) rfl (HROW.out.alloc _) ⟨wC.heap.size, 0, none⟩ 1 1 (cells4 x (.slice ua x.args.length uc)) rfl rfl (World.news_of_block (heap_alloc_new wC _)) (by simp [cells4, Value.oneCell']) (by omega) (by unfold maxLen; omega) (by omega) (Nat.zero_le _) (wC.heap.size + 1) (by simp) ?_; intro gg cap w1' hown1 hgrow hat hlt1; have HAP := Lib.hid (And.intro hown1 (And.intro hgrow (And.intro hat hlt1))); have HX1 := Lib.hid ((HXr.out.read (belowAlloc (Below.refl _ _) _)).grown hgrow (fun k hk => .inr (by have h := (HPA.out.2.2.1 k hk).1; omega))); clear hown1 hgrow hat hlt1; obtain ⟨c0a, c0b, c0c, c0d⟩ := HX1.out.cells)
        have hgs := HAP.out.2.1.size
        simp only [World.size_alloc] at hgs
        have HW1 : Hid (Below w.heap.size w w1') := Lib.hid ((belowOn HWr.out (Nat.le_refl _) (belowAlloc (Below.refl _ _) _)).trans (below_of_grown HAP.out.2.1 (by have := HWr.out.size; simp; omega) (fun k hk => by have h := (HPA.out.2.2.1 k hk).1; omega)))
        have HR1 := Lib.hid ((HRr.out.read (belowAlloc (Below.refl _ _) _)).grown HAP.out.2.1 (fun k hk => .inr (by have h := (HPA.out.2.2.1 k hk).1; omega)))
        have HO1 : Hid (Own w1' 25 (iv (w.heap.size + 1 + 1) w1'.heap.size) (.slice (some ⟨gg, 0, none⟩) (xs.length + 1) cap) (xs ++ [x])) := Lib.hid (by
          have h := own_append (S' := iv (w.heap.size + 1 + 1) w1'.heap.size) HPA.out.2.1 HPA.out.2.2.1 HPA.out.2.2.2.1 HPA.out.2.2.2.2.1 HPA.out.2.2.2.2.2 HN.out (fun k hk => by have := hk.2; omega) (fun k hk => ⟨hk.2, fun h => by have h1 := hk.1; have h2 := h.2; omega⟩) (belowAlloc (Below.refl _ _) _) HAP.out.1 HAP.out.2.1 (HAP.out.2.2.1.imp id (fun h => by omega)) (fun k hk => by
            have hl := HAP.out.2.2.2
            rcases hk with hk | hk | hk
            · exact ⟨hk.1, by have := hk.2; omega⟩
            · exact ⟨by have := hk.1; omega, by have := hk.2; omega⟩
            · subst hk
              refine ⟨?_, hl⟩
              rcases HAP.out.2.2.1 with h | h
              · exact (HPA.out.2.2.1 _ h).1
              · omega)
          rw [← HPA.out.1] at h
          exact h)
        clear HROW HAP HPA HN HOA HXr HRr HWr
        have HT0 := Lib.hid (HT.out w1' HW1.out)
        have z0 := HX1.out.le
        go_wp2_with fail
        refine HT0.out.mono ?_
        rintro e wD ⟨rfl, hb⟩
        clear c0a c0b c0c c0d z0 HT0 HT
        replace HX1 := Lib.hid (HX1.out.read hb)
        replace HR1 := Lib.hid (HR1.out.read hb)
        replace HO1 := Lib.hid (At.read (at_own HO1.out (Nat.le_refl _)) hb)
        replace HW1 := Lib.hid (belowOn HW1.out (Nat.le_refl _) hb)
        have hsD := hb.size
        clear hb
        have HST := Lib.hid (store4 HX1.out.now (.int .i64 y.kind) (.int .i64 y.num) (.string y.name) (.slice v1 y.args.length v2))
        obtain ⟨r0, r1, r2, r3, rf⟩ := box_cells HX1.out.now
        have z0 := HX1.out.le
        go_wp2
        go_roundg y.nodes
        case measure => omega
        case rel =>
          have ho := HST.out.2
          have hso := ho.size
          refine ⟨y, v1, v2, xs ++ [x], Nat.le_refl _, Lib.hid HGX.out.2, Lib.hid (by rw [HIT.out, HIC.out, List.append_assoc]; rfl), Lib.hid (by rw [HLT.out, HLC.out]), by simp; omega, hsy, HAY, Lib.hid ⟨HST.out.1, stays_box _ _ _, by omega⟩, Lib.hid (HR1.out.only ho (by omega)), Lib.hid ?_, Lib.hid (HW1.out.trans (ho.below (fun k hk => by have := hk.1; omega) HW1.out.size)), by omega⟩
          exact ((HO1.out.only ho (by omega)).now : Own _ _ _ _ _).sub fun k hk => ⟨hk.1, by have := hk.2; omega⟩
      · have hd : decide (c.kind = 4) = false := decide_eq_false hk
        rw [hd]
        have HAT := Lib.hid (HG.out.fit.atom hk)
        clear hd hk
        have HC := Lib.hid (copied_any (c.nodes + 1) c _ wA (by omega) (HCA.out.kept HWr.out) hcz HG.out)
        obtain ⟨c0a, c0b, c0c, c0d⟩ := HXr.out.cells
        have z0 := HXr.out.le
        go_wp2_with fail
        refine HC.out.mono ?_
        rintro e wB ⟨u, rfl, hn⟩
        have HRE := Lib.hid (HRr.out.read hn.2).now
        obtain ⟨r0, r1, r2, r3, rf⟩ := box_cells (HRr.out.read hn.2).now
        obtain ⟨a0, k0, rfl⟩ := hn.1.argsAt.slice
        have HN := Lib.hid hn
        have HOB := Lib.hid (HOA.out.read hn.2)
        have HWB := Lib.hid (belowOn HWr.out (Nat.le_refl _) hn.2)
        have hl1 := hn.2.size
        have hl2 := HRr.out.le
        clear hn c0a c0b c0c c0d z0 HC
        go_wp2
        refine bodyPost_four3 (p := 3) (q := 2) (b := w.heap.size + 1) (z := .slice sa xs.length sc) rfl rfl rfl rfl Try.underlying25 (by kernel_rfl) HRE.out fun w' hw => ?_
        have hlc : r = c := by rw [HRL.out, HLT.out, last_atom HAT.out]
        have hls : rs = xs := by rw [HRS.out, HIT.out, items_atom HAT.out, List.append_nil]
        subst hlc
        subst hls
        have hbb : Below w.heap.size w w' := HWB.out.trans (hw.below (fun k hk => by have := hk.1; omega) HWB.out.size)
        have hws := hw.size
        refine ⟨wA.heap.size, _, _, rfl, HWr.out.size, by omega, ?_, ?_, hbb⟩
        · exact ((HOB.out.only hw (by omega)).now : Own _ _ _ _ _).sub fun k hk => ⟨by have := hk.1; omega, by have := hk.2; omega⟩
        · exact ((At.only (at_own HN.out.1 (Nat.le_refl _)) hw (by omega)).now : Own _ _ _ _ _).sub fun k hk => ⟨hk.1, by have := hk.2; omega⟩
end Go.Proofs.Ytokndpmoamjbfaa

