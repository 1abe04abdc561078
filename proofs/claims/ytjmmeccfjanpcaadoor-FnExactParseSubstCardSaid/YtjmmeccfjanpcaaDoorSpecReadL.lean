/-
  The model's l03Read where the token opens a list.
-/
import Derived.Test.YtjmmeccfjanpcaaDoorSpecRead
import Derived.Test.YtjmmeccfjanpcaaDoorPlainRead
import Derived.Test.YtjmmeccfjanpcaaDoorSpecList
import Derived.Test.YtjmmeccfjanpcaaDoorReadTerm
import Derived.Deep.LoopGhost
namespace Go.Proofs.YtjmmeccfjanpcaaDoor
open Go.RowKit
set_option linter.unusedVariables false
set_option linter.unusedSimpArgs false

theorem tests_no {x : ByteArray} {c : UInt8} (h : ¬ x = ⟨#[c]⟩) : (x.toList == (⟨#[c]⟩ : ByteArray).toList) = false ∧ (x.toList == [c]) = false ∧ (x.toList != (⟨#[c]⟩ : ByteArray).toList) = true ∧ (x.toList != [c]) = true := by
  have d := string_eq_no h
  have e : (x.toList == [c]) = false := by rw [one_list] at d; exact d
  exact ⟨d, e, by simp only [bne, d]; rfl, by simp only [bne, e]; rfl⟩
theorem sread_yes {P : Program} {fn : Func} {o : Option (Tm × Nat)} {w W : World} {a : Act} {t : Tm} {j : Nat} {x : Option Addr} {c b m : Nat} {x0 x1 x2 x3 : Value} {fs : Array Field} {C : Nat → Prop} {k i jj : Int} {s : ByteArray}
    (heq : o = some (t, j)) (h1 : t.kind = k) (h2 : t.num = i) (h3 : t.name = s) (h4 : t.args.length = m) (hj : (j : Int) = jj) (h : fn.results = #[.cell 4 43, .tmp 5, .tmp 6]) (hp : a.tmps.getD 4 undef = .pointer (some ⟨b, 0, none⟩)) (hq : a.tmps.getD 5 undef = .int .i64 jj) (hr : a.tmps.getD 6 undef = .bool true) (hd : a.defers = [])
    (hu : P.underlying 43 = some (.struct fs)) (hi : (P.info? 43).map (·.size) = some 4) (hb : W.heap[b]? = some (Obj.cells #[x0, x1, x2, x3] 43)) (hB : b = w.heap.size) (hW : Below w.heap.size w W) (hA : ArgsS W C (.slice x m c) t.args) (hC : ∀ k, C k → w.heap.size < k ∧ k < W.heap.size) :
    bodyPost P fn (SRead o w) .ret a ((((W.setCell ⟨b, 0, none⟩ (.int .i64 k)).setCell ⟨b, 1, none⟩ (.int .i64 i)).setCell ⟨b, 2, none⟩ (.string s)).setCell ⟨b, 3, none⟩ (.slice x m c)) := by
  subst heq
  subst h1
  subst h2
  subst h3
  subst h4
  subst hj
  refine bodyPost_fourT h hp hq hr hd hu rfl hi hb fun w' hw => ?_
  refine ⟨.inl ⟨t, j, x, c, rfl, rfl, (hA.frame hw.size fun k hk hks => hw.block k hks fun e => by have := hC k hk; omega).sub fun k hk => ⟨by have := hC k hk; omega, by have := hC k hk; have := hw.size; omega⟩⟩, hW.trans (hw.below (fun k hk => by omega) hW.size)⟩
theorem sread_no {P : Program} {fn : Func} {o : Option (Tm × Nat)} {w W : World} {a : Act} {b : Nat} {x0 x1 x2 x3 : Value} {fs : Array Field} {jj : Int}
    (heq : o = none) (h : fn.results = #[.cell 4 43, .tmp 5, .tmp 6]) (hp : a.tmps.getD 4 undef = .pointer (some ⟨b, 0, none⟩)) (hq : a.tmps.getD 5 undef = .int .i64 jj) (hr : a.tmps.getD 6 undef = .bool false) (hd : a.defers = [])
    (hu : P.underlying 43 = some (.struct fs)) (hi : (P.info? 43).map (·.size) = some 4) (hb : W.heap[b]? = some (Obj.cells #[x0, x1, x2, x3] 43)) (hB : b = w.heap.size) (hW : Below w.heap.size w W) :
    bodyPost P fn (SRead o w) .ret a ((((W.setCell ⟨b, 0, none⟩ (.int .i64 0)).setCell ⟨b, 1, none⟩ (.int .i64 0)).setCell ⟨b, 2, none⟩ (.string ⟨#[]⟩)).setCell ⟨b, 3, none⟩ (.slice none 0 0)) := by
  subst heq
  refine bodyPost_fourT h hp hq hr hd hu rfl hi hb fun w' hw => ?_
  exact ⟨.inr ⟨rfl, jj, rfl⟩, hW.trans (hw.below (fun k hk => by omega) hW.size)⟩

set_option maxHeartbeats 8000000 in
set_option maxRecDepth 100000 in
theorem specRead_list (sa : Option Addr) (cap : Nat) (T : List ByteArray) (hT : ∀ x ∈ T, x.size ≤ 1048576) (hTl : T.length ≤ 1048576) (n : Nat)
    (IH : Hid (∀ (k i : Nat) (w : World), T.length - i < n → i ≤ T.length → Toks w sa T → 3 * (T.length - i) + 1 ≤ k → Calls Tryd.prog 48 #[.slice sa T.length cap, .int .i64 i] w (SRead (anyP leafS k T i) w)))
    (k i : Nat) (w : World) (ht : Toks w sa T) (hn : T.length - i ≤ n) (hk : 3 * (T.length - i) + 1 ≤ k + 1) (hL : T[i]? = some tokL) :
    Calls Tryd.prog 48 #[.slice sa T.length cap, .int .i64 i] w (SRead (anyP leafS (k + 1) T i) w) := by
  obtain ⟨i0, hi0, hz0, hz1, hz2⟩ := info_parts infoTerm
  have HII := Lib.hid (And.intro hi0 (And.intro hz0 (And.intro hz1 hz2)))
  clear hi0 hz0 hz1 hz2
  have hal : Below w.heap.size w (w.alloc (.cells #[.int .i64 0, .int .i64 0, .string ⟨#[]⟩, .slice none 0 0] 43)) := belowAlloc (Below.refl _ _) _
  have HR := Lib.hid (at_box w #[.int .i64 0, .int .i64 0, .string ⟨#[]⟩, .slice none 0 0] 43)
  have HW := Lib.hid hal
  have HTK := Lib.hid (ht.kept hal)
  have HLF := Lib.hid (left_start (L := leafS) hL hk)
  have hsz : (w.alloc (.cells #[.int .i64 0, .int .i64 0, .string ⟨#[]⟩, .slice none 0 0] 43)).heap.size = w.heap.size + 1 := by simp
  have hlt := at_lt hL
  obtain ⟨g, off, rfl, hc⟩ := ht.at hL
  unfold tokL at hc
  have hc0 := (hal.cell (p := ⟨g, off + i, none⟩) (World.block_lt_of_cell? w _ hc)).trans hc
  have HC0 := Lib.hid hc0
  generalize anyP leafS (k + 1) T i = o at HLF ⊢
  have HT0 := Lib.hid ht
  have hge : decide ((T.length : Int) ≤ (i : Int)) = false := decide_eq_false (by omega)
  have hgn : decide (T.length ≤ i) = false := decide_eq_false (by omega)
  have hi1 : (i : Int) < (T.length : Int) := by omega
  clear hal ht hL hc hc0 hk
  go_enter Tryd.func48, Tryd.ntmps48
  go_upto_region 1 with (fail)
  generalize hw0 : w.alloc (.cells #[.int .i64 0, .int .i64 0, .string ⟨#[]⟩, .slice none 0 0] 43) = w0 at HR HW HTK HC0 hsz ⊢
  clear hw0
  have hc := HC0.out
  go_upto_region 8 with (fail)
  have hal : Below w0.heap.size w0 (w0.alloc (.cells #[] 43)) := belowAlloc (Below.refl _ _) _
  have HE0 := Lib.hid (at_box w0 #[] 43)
  have hrw : RowS (w0.alloc (.cells #[] 43)) (w.heap.size + 1) (.slice (some ⟨w0.heap.size, 0, none⟩) 0 0) [] := ⟨[], rfl, ⟨rfl, .inr ⟨w0.heap.size, 0, #[], rfl, by omega, HE0.out.now, Nat.le_refl _, Nat.zero_le _, rfl, rfl⟩⟩, fun j p hj => by simp at hj⟩
  rw [hsz] at hrw
  have HRW := Lib.hid hrw
  replace HR := Lib.hid (HR.out.read hal)
  replace HW := Lib.hid (belowOn HW.out (Nat.le_refl _) hal)
  clear hal HE0 hc HC0 HTK hge hi1 hsz hrw
  generalize hw1 : w0.alloc (.cells #[] 43) = w1 at HR HW HRW ⊢
  clear hw1
  go_loopg [1, 9] (T.length + 1) (fun gh iv lv wr => ∃ (xs : List Tm) (i : Nat), T.length - i ≤ gh ∧ iv = .int .i64 i ∧ i ≤ T.length ∧ T.length - i < n ∧ xs.length ≤ i ∧ Hid (Left leafS T o xs i) ∧ Hid (RowS wr (w.heap.size + 1) lv xs) ∧ Hid (At wr w.heap.size (w.heap.size + 1) (BoxP w.heap.size #[.int .i64 0, .int .i64 0, .string ⟨#[]⟩, .slice none 0 0] 43)) ∧ Hid (Below w.heap.size w wr))
  case atStart => exact ⟨[], i + 1, by omega, by go_num, by omega, by omega, Nat.zero_le _, HLF, HRW, HR, HW⟩
  case round =>
    obtain ⟨xs, m, hgh, rfl, hm, hmn, hxm, HF, HO, HB, HWr⟩ := hrel
    obtain ⟨sa, sc, rfl⟩ := HO.out.slice
    clear HLF HRW HR HW
    have HTK := Lib.hid (HT0.out.kept HWr.out)
    by_cases he : m < T.length
    · obtain ⟨x, hx⟩ : ∃ x, T[m]? = some x := ⟨_, List.getElem?_eq_getElem he⟩
      obtain ⟨g', off', hg', hcx⟩ := HTK.out.at hx
      simp only [Option.some.injEq, Addr.mk.injEq, and_true] at hg'
      obtain ⟨rfl, rfl⟩ := hg'
      have hge : decide ((T.length : Int) ≤ (m : Int)) = false := decide_eq_false (by omega)
      have hi1 : (m : Int) < (T.length : Int) := by omega
      have hgw := World.block_lt_of_cell? wr _ hcx
      by_cases hR : x = tokR
      · subst hR
        have HQ := Lib.hid (left_close HF.out hx)
        unfold tokR at hcx
        clear hx HF
        have hal : Below wr.heap.size wr (wr.alloc (.cells #[.int .i64 0, .int .i64 0, .string ⟨#[]⟩, .slice none 0 0] 43)) := belowAlloc (Below.refl _ _) _
        have HX := Lib.hid (at_box wr #[.int .i64 0, .int .i64 0, .string ⟨#[]⟩, .slice none 0 0] 43)
        have HLOW : Hid (w.heap.size < (wr.alloc (.cells #[.int .i64 0, .int .i64 0, .string ⟨#[]⟩, .slice none 0 0] 43)).heap.size) := Lib.hid (by have := HB.out.le; simp; omega)
        replace HB := Lib.hid (HB.out.read hal)
        have HCX := Lib.hid ((hal.cell (p := ⟨g, off + m, none⟩) hgw).trans hcx)
        replace HWr := Lib.hid (belowOn HWr.out (Nat.le_refl _) hal)
        have HRS := Lib.hid ((HO.out.args.sub (S' := iv (w.heap.size + 1) (wr.alloc (.cells #[.int .i64 0, .int .i64 0, .string ⟨#[]⟩, .slice none 0 0] 43)).heap.size) fun k hk => ⟨hk.1, by have := hk.2; simp; omega⟩).kept hal)
        have HTL : Hid (ArgsS (wr.alloc (.cells #[.int .i64 0, .int .i64 0, .string ⟨#[]⟩, .slice none 0 0] 43)) (iv (w.heap.size + 1) (wr.alloc (.cells #[.int .i64 0, .int .i64 0, .string ⟨#[]⟩, .slice none 0 0] 43)).heap.size) (.slice none 0 0) zeroTm.args) := Lib.hid (.nil _ _)
        clear hal HO HTK IH
        go_upto_region 15 with (fail)
        generalize hw2 : wr.alloc (.cells #[.int .i64 0, .int .i64 0, .string ⟨#[]⟩, .slice none 0 0] 43) = w2 at HB HX HLOW HCX HWr HRS HTL ⊢
        clear hw2 hcx hgw
        have HCL : Hid (∀ k, iv (w.heap.size + 1) w2.heap.size k → k < w2.heap.size) := Lib.hid fun k hk => hk.2
        have hcx := HCX.out
        obtain ⟨p0, p1, p2, p3⟩ := HX.out.cells
        have zx := HX.out.le
        have HLC := Lib.hid (specListS_any _ xs zeroTm _ _ w2 HCL.out HRS.out HTL.out (by omega))
        go_wp2_with fail
        refine HLC.out.mono ?_
        rintro e w9 ⟨u, rfl, hu, hbu⟩
        obtain ⟨ua, uc, rfl⟩ := hu.at.slice
        have HU := Lib.hid hu
        have hs9 := hbu.size
        replace HB := Lib.hid (HB.out.read hbu)
        have HW9 := Lib.hid (belowOn HWr.out (Nat.le_refl _) hbu)
        have hsw := HWr.out.size
        have hbl := HB.out.le
        have HCU : Hid (∀ k, ((fun k => iv (w.heap.size + 1) w2.heap.size k) k ∨ (w2.heap.size ≤ k ∧ k < w9.heap.size)) → w.heap.size < k ∧ k < w9.heap.size) := Lib.hid fun k hk => by
          rcases hk with hk | hk
          · exact ⟨by have := hk.1; omega, by have := hk.2; omega⟩
          · exact ⟨by have := HLOW.out; omega, hk.2⟩
        clear hu hbu HLC HRS HTL HCL
        generalize listT xs zeroTm = rr at HQ HU ⊢
        obtain ⟨b0, b1, b2, b3, bf⟩ := box_cells HB.out.now
        go_wp2
        exact sread_yes (b := w.heap.size) HQ.out rfl rfl rfl rfl (by simp) rfl rfl rfl rfl rfl Tryd.underlying43 (by kernel_rfl) HB.out.now rfl HW9.out HU.out HCU.out
      · by_cases hD : x = tokD
        · subst hD
          have hnR : ¬ T[m]? = some tokR := by rw [hx]; decide
          have HX := Lib.hid hx
          unfold tokD at hcx
          clear hx
          have hal : Below wr.heap.size wr (wr.alloc (.cells #[.int .i64 0, .int .i64 0, .string ⟨#[]⟩, .slice none 0 0] 43)) := belowAlloc (Below.refl _ _) _
          have HX2 := Lib.hid (at_box wr #[.int .i64 0, .int .i64 0, .string ⟨#[]⟩, .slice none 0 0] 43)
          have hs2 : (wr.alloc (.cells #[.int .i64 0, .int .i64 0, .string ⟨#[]⟩, .slice none 0 0] 43)).heap.size = wr.heap.size + 1 := by simp
          have hlow : w.heap.size + 1 ≤ wr.heap.size := HB.out.le
          replace HB := Lib.hid (HB.out.read hal)
          have HCX := Lib.hid ((hal.cell (p := ⟨g, off + m, none⟩) hgw).trans hcx)
          replace HWr := Lib.hid (belowOn HWr.out (Nat.le_refl _) hal)
          have HRS := Lib.hid ((HO.out.args.kept hal))
          replace HTK := Lib.hid (HTK.out.kept hal)
          have hrs := Lib.hid (Nat.le_refl wr.heap.size)
          clear hal HO
          go_upto_region 15 with (fail)
          generalize hw2 : wr.alloc (.cells #[.int .i64 0, .int .i64 0, .string ⟨#[]⟩, .slice none 0 0] 43) = w2 at HB HX2 HCX HWr HRS HTK hs2 ⊢
          clear hw2 hcx hgw
          have hcx := HCX.out
          by_cases hxs : xs = []
          · subst hxs
            have HQ := Lib.hid (left_dot0 HF.out HX.out leafS_D)
            have HC := Lib.hid (IH.out (3 * T.length + 1) (m + 1) w2 (by omega) (by omega) HTK.out (by omega))
            clear HF HTK IH HX
            go_wp2_with fail
            refine HC.out.mono ?_
            rintro e wC ⟨⟨y, j, ua, uc, hy, rfl, hu⟩ | ⟨hy, mm, rfl⟩, ho⟩
            · have hal : Below wC.heap.size wC (wC.alloc (.cells #[.int .i64 y.kind, .int .i64 y.num, .string y.name, .slice ua y.args.length uc] 43)) := belowAlloc (Below.refl _ _) _
              have hbb := belowOn ho (Nat.le_refl _) hal
              replace HB := Lib.hid (HB.out.read hbb)
              replace HWr := Lib.hid (belowOn HWr.out (Nat.le_refl _) hbb)
              clear ho hal hbb hy hu HC HX2 HRS hcx HCX
              go_upto_region 17 with (fail)
              generalize hw4 : wC.alloc (.cells #[.int .i64 y.kind, .int .i64 y.num, .string y.name, .slice ua y.args.length uc] 43) = w4 at HB HWr ⊢
              clear hw4
              obtain ⟨b0, b1, b2, b3, bf⟩ := box_cells HB.out.now
              go_wp2
              exact sread_no (b := w.heap.size) HQ.out rfl rfl rfl rfl rfl Tryd.underlying43 (by kernel_rfl) HB.out.now rfl HWr.out
            · have hal : Below wC.heap.size wC (wC.alloc (.cells #[.int .i64 0, .int .i64 0, .string ⟨#[]⟩, .slice none 0 0] 43)) := belowAlloc (Below.refl _ _) _
              have hbb := belowOn ho (Nat.le_refl _) hal
              replace HB := Lib.hid (HB.out.read hbb)
              replace HWr := Lib.hid (belowOn HWr.out (Nat.le_refl _) hbb)
              clear ho hal hbb hy HC HX2 HRS hcx HCX
              go_upto_region 17 with (fail)
              generalize hw4 : wC.alloc (.cells #[.int .i64 0, .int .i64 0, .string ⟨#[]⟩, .slice none 0 0] 43) = w4 at HB HWr ⊢
              clear hw4
              obtain ⟨b0, b1, b2, b3, bf⟩ := box_cells HB.out.now
              go_wp2
              exact sread_no (b := w.heap.size) HQ.out rfl rfl rfl rfl rfl Tryd.underlying43 (by kernel_rfl) HB.out.now rfl HWr.out
          · obtain ⟨k', hk', hnone, hsome⟩ := left_dot HF.out hxs HX.out
            have HNONE := Lib.hid hnone
            have HSOME := Lib.hid hsome
            have HLE := Lib.hid ((read_le leafS T k').1 (m + 1))
            have d0 : ((xs.length : Int) == 0) = false := by
              rw [beq_eq_false_iff_ne]
              have := List.length_pos_iff.2 hxs
              omega
            have HC := Lib.hid (IH.out k' (m + 1) w2 (by omega) (by omega) HTK.out hk')
            clear hnone hsome hxs HF IH HX
            go_wp2_with fail
            refine HC.out.mono ?_
            rintro e wC ⟨⟨y, j, ua, uc, hy, rfl, hu⟩ | ⟨hy, mm, rfl⟩, ho⟩
            · have HYY := Lib.hid (HSOME.out y j hy)
              have hjl := HLE.out _ _ hy
              have hal : Below wC.heap.size wC (wC.alloc (.cells #[.int .i64 y.kind, .int .i64 y.num, .string y.name, .slice ua y.args.length uc] 43)) := belowAlloc (Below.refl _ _) _
              have hsC := ho.size
              have hsD : (wC.alloc (.cells #[.int .i64 y.kind, .int .i64 y.num, .string y.name, .slice ua y.args.length uc] 43)).heap.size = wC.heap.size + 1 := by simp
              have hbb := belowOn ho (Nat.le_refl _) hal
              have HY := Lib.hid (at_box wC #[.int .i64 y.kind, .int .i64 y.num, .string y.name, .slice ua y.args.length uc] 43)
              replace HB := Lib.hid (HB.out.read hbb)
              replace HX2 := Lib.hid (HX2.out.read hbb)
              replace HWr := Lib.hid (belowOn HWr.out (Nat.le_refl _) hbb)
              replace HRS := Lib.hid (HRS.out.kept hbb)
              replace HTK := Lib.hid (HTK.out.kept hbb)
              have HTL := Lib.hid (hu.kept hal)
              clear ho hal hbb hy hu HC HNONE HSOME HLE hcx HCX
              go_upto_region 17 with (fail)
              generalize hw4 : wC.alloc (.cells #[.int .i64 y.kind, .int .i64 y.num, .string y.name, .slice ua y.args.length uc] 43) = w4 at HB HX2 HY HWr HRS HTK HTL hsD ⊢
              clear hw4
              obtain ⟨c0, c1, c2, c3⟩ := HY.out.cells
              obtain ⟨x0, x1, x2, x3, xf⟩ := box_cells HX2.out.now
              have z0 := HY.out.le
              have z1 := HX2.out.le
              go_upto_region 21 with (fail)
              have hst := store4 HX2.out.now (.int .i64 y.kind) (.int .i64 y.num) (.string y.name) (.slice ua y.args.length uc)
              have ho := hst.2
              have hso := ho.size
              replace HB := Lib.hid (HB.out.only ho (by omega))
              have HXT : Hid (At _ wr.heap.size (wr.heap.size + 1) (BoxP wr.heap.size #[.int .i64 y.kind, .int .i64 y.num, .string y.name, .slice ua y.args.length uc] 43)) := Lib.hid ⟨hst.1, stays_box _ _ _, by omega⟩
              replace HWr := Lib.hid (HWr.out.trans (ho.below (fun k hk => by have := hk.1; omega) HWr.out.size))
              replace HRS := Lib.hid (HRS.out.frame ho.size fun k hk hks => ho.block k hks fun e => by have e1 := e.1; have e2 := hk.2; omega)
              replace HTL := Lib.hid (HTL.out.frame ho.size fun k hk hks => ho.block k hks fun e => by have e1 := e.2; have e2 := hk.1; omega)
              have HTK2 := Lib.hid (HT0.out.kept HWr.out)
              clear hst ho x0 x1 x2 x3 xf c0 c1 c2 c3 z0 z1 HX2 HY HTK
              generalize hw5 : ((((w4.setCell ⟨wr.heap.size, 0, none⟩ (.int .i64 y.kind)).setCell ⟨wr.heap.size, 1, none⟩ (.int .i64 y.num)).setCell ⟨wr.heap.size, 2, none⟩ (.string y.name)).setCell ⟨wr.heap.size, 3, none⟩ (.slice ua y.args.length uc)) = w5 at HB HXT HWr HRS HTL HTK2 hso ⊢
              clear hw5
              clear hge hi1
              by_cases hje : j < T.length
              · obtain ⟨z, hz⟩ : ∃ z, T[j]? = some z := ⟨_, List.getElem?_eq_getElem hje⟩
                obtain ⟨g', off', hg', hcz⟩ := HTK2.out.at hz
                simp only [Option.some.injEq, Addr.mk.injEq, and_true] at hg'
                obtain ⟨rfl, rfl⟩ := hg'
                have hge : decide ((T.length : Int) ≤ (j : Int)) = false := decide_eq_false (by omega)
                have hi1 : (j : Int) < (T.length : Int) := by omega
                by_cases hzR : z = tokR
                · subst hzR
                  have HQ := Lib.hid (HYY.out.1 hz)
                  unfold tokR at hcz
                  have HLOW : Hid (w.heap.size < w5.heap.size) := Lib.hid (by omega)
                  replace HRS := Lib.hid (HRS.out.sub (S' := iv (w.heap.size + 1) w5.heap.size) fun k hk => ⟨hk.1, by have := hk.2; omega⟩)
                  replace HTL := Lib.hid (HTL.out.sub (S' := iv (w.heap.size + 1) w5.heap.size) fun k hk => ⟨by have := hk.1; omega, by have := hk.2; omega⟩)
                  have HCL : Hid (∀ k, iv (w.heap.size + 1) w5.heap.size k → k < w5.heap.size) := Lib.hid fun k hk => hk.2
                  obtain ⟨p0, p1, p2, p3⟩ := HXT.out.cells
                  have zx := HXT.out.le
                  clear hz HYY HTK2
                  have HLC := Lib.hid (specListS_any _ xs y _ _ w5 HCL.out HRS.out HTL.out (by omega))
                  go_wp2_with fail
                  refine HLC.out.mono ?_
                  rintro e w9 ⟨u, rfl, hu, hbu⟩
                  obtain ⟨ua, uc, rfl⟩ := hu.at.slice
                  have HU := Lib.hid hu
                  have hs9 := hbu.size
                  replace HB := Lib.hid (HB.out.read hbu)
                  have HW9 := Lib.hid (belowOn HWr.out (Nat.le_refl _) hbu)
                  have hsw := HWr.out.size
                  have hbl := HB.out.le
                  have HCU : Hid (∀ k, ((fun k => iv (w.heap.size + 1) w5.heap.size k) k ∨ (w5.heap.size ≤ k ∧ k < w9.heap.size)) → w.heap.size < k ∧ k < w9.heap.size) := Lib.hid fun k hk => by
                    rcases hk with hk | hk
                    · exact ⟨by have := hk.1; omega, by have := hk.2; omega⟩
                    · exact ⟨by have := HLOW.out; omega, hk.2⟩
                  clear hu hbu HLC HRS HTL HCL
                  generalize listT xs y = rr at HQ HU ⊢
                  obtain ⟨b0, b1, b2, b3, bf⟩ := box_cells HB.out.now
                  go_wp2
                  exact sread_yes (b := w.heap.size) HQ.out rfl rfl rfl rfl (by simp) rfl rfl rfl rfl rfl Tryd.underlying43 (by kernel_rfl) HB.out.now rfl HW9.out HU.out HCU.out
                · have HQ := Lib.hid (HYY.out.2 (by rw [hz]; intro h; exact hzR (Option.some.inj h)))
                  unfold tokR at hzR
                  obtain ⟨r1, r2, r3, r4⟩ := tests_no hzR
                  clear hz hzR HYY HTK2 HXT HRS HTL
                  obtain ⟨b0, b1, b2, b3, bf⟩ := box_cells HB.out.now
                  go_wp2
                  exact sread_no (b := w.heap.size) HQ.out rfl rfl rfl rfl rfl Tryd.underlying43 (by kernel_rfl) HB.out.now rfl HWr.out
              · have HQ := Lib.hid (HYY.out.2 (by rw [List.getElem?_eq_none (by omega)]; simp))
                have hge : decide ((T.length : Int) ≤ (j : Int)) = true := decide_eq_true (by omega)
                have hi1 : ¬ (j : Int) < (T.length : Int) := by omega
                clear HYY HTK2 HXT HRS HTL
                obtain ⟨b0, b1, b2, b3, bf⟩ := box_cells HB.out.now
                go_wp2
                exact sread_no (b := w.heap.size) HQ.out rfl rfl rfl rfl rfl Tryd.underlying43 (by kernel_rfl) HB.out.now rfl HWr.out
            · have HQ := Lib.hid (HNONE.out hy)
              have hal : Below wC.heap.size wC (wC.alloc (.cells #[.int .i64 0, .int .i64 0, .string ⟨#[]⟩, .slice none 0 0] 43)) := belowAlloc (Below.refl _ _) _
              have hbb := belowOn ho (Nat.le_refl _) hal
              replace HB := Lib.hid (HB.out.read hbb)
              replace HWr := Lib.hid (belowOn HWr.out (Nat.le_refl _) hbb)
              clear ho hal hbb hy HC HNONE HSOME HLE HX2 HRS hcx HCX HTK
              go_upto_region 17 with (fail)
              generalize hw4 : wC.alloc (.cells #[.int .i64 0, .int .i64 0, .string ⟨#[]⟩, .slice none 0 0] 43) = w4 at HB HWr ⊢
              clear hw4
              obtain ⟨b0, b1, b2, b3, bf⟩ := box_cells HB.out.now
              go_wp2
              exact sread_no (b := w.heap.size) HQ.out rfl rfl rfl rfl rfl Tryd.underlying43 (by kernel_rfl) HB.out.now rfl HWr.out
        · have hnR : ¬ T[m]? = some tokR := by rw [hx]; intro h; exact hR (Option.some.inj h)
          have hnD : ¬ T[m]? = some tokD := by rw [hx]; intro h; exact hD (Option.some.inj h)
          obtain ⟨k', hk', hnone, hsome⟩ := left_step HF.out hnR hnD he (fun k t j h => (read_gt leafS T k).1 _ _ _ h)
          have HNONE := Lib.hid hnone
          have HSOME := Lib.hid hsome
          unfold tokR at hR
          unfold tokD at hD
          obtain ⟨r1, r2, r3, r4⟩ := tests_no hR
          obtain ⟨t1, t2, t3, t4⟩ := tests_no hD
          have HGT := Lib.hid ((read_gt leafS T k').1 m)
          have HLE := Lib.hid ((read_le leafS T k').1 m)
          clear hx hnR hnD hnone hsome hR hD HF
          have HC := Lib.hid (IH.out k' m wr hmn hm HTK.out hk')
          go_wp2_with fail
          refine HC.out.mono ?_
          rintro e wC ⟨⟨y, j, ua, uc, hy, rfl, hu⟩ | ⟨hy, mm, rfl⟩, ho⟩
          · have HLX := Lib.hid (HSOME.out y j hy)
            have hmj := HGT.out _ _ hy
            have hjl := HLE.out _ _ hy
            have HMID : Hid (∀ k, (Value.slice sa xs.length sc).ownBlock = some k → w.heap.size + 1 ≤ k ∧ k < wr.heap.size) := Lib.hid (by
              obtain ⟨L, hL, hrow, _⟩ := HO.out
              exact fun k hk => World.ownsRow.lt hrow k hk)
            have hlow : w.heap.size + 1 ≤ wr.heap.size := HB.out.le
            have hsC := ho.size
            have hal : Below wC.heap.size wC (wC.alloc (.cells #[.int .i64 y.kind, .int .i64 y.num, .string y.name, .slice ua y.args.length uc] 43)) := belowAlloc (Below.refl _ _) _
            have hbb := belowOn ho (Nat.le_refl _) hal
            replace HO := Lib.hid (HO.out.frame hbb.size (fun k _ hks => hbb.block k hks))
            replace HB := Lib.hid (HB.out.read hbb)
            replace HWr := Lib.hid (belowOn HWr.out (Nat.le_refl _) hbb)
            have HU := Lib.hid ((hu.kept hal).sub (S' := iv wr.heap.size (wC.alloc (.cells #[.int .i64 y.kind, .int .i64 y.num, .string y.name, .slice ua y.args.length uc] 43)).heap.size) fun k hk => ⟨hk.1, by have := hk.2; simp; omega⟩)
            have HY := Lib.hid (at_box wC #[.int .i64 y.kind, .int .i64 y.num, .string y.name, .slice ua y.args.length uc] 43)
            have hsD : (wC.alloc (.cells #[.int .i64 y.kind, .int .i64 y.num, .string y.name, .slice ua y.args.length uc] 43)).heap.size = wC.heap.size + 1 := by simp
            clear hu ho hal hbb hy HC HNONE HSOME HGT HLE HTK IH hcx hgw r1 r2 r3 r4 t1 t2 t3 t4
            go_upto_region 12 with (fail)
            generalize hw4 : wC.alloc (.cells #[.int .i64 y.kind, .int .i64 y.num, .string y.name, .slice ua y.args.length uc] 43) = w4 at HO HB HWr HU HY hsD ⊢
            clear hw4
            have HSD := Lib.hid hsD
            clear hsD
            obtain ⟨L, hL, hrow, hch⟩ := HO.out
            have hLn : xs.length = L.length := by rw [← hL, List.length_map]
            rw [← hLn] at hrow
            have HROW := Lib.hid hrow
            have HPA := Lib.hid (And.intro hL (And.intro hLn hch))
            clear hL hLn hrow hch HO
            obtain ⟨c0, c1, c2, c3⟩ := HY.out.cells
            have z0 := HY.out.le
            go_wp2_with (at_builtin; refine wpList_append_lies _ rfl _ _ 41 rfl (w.heap.size + 1) 43 i0 _ 4 56 Tryd.underlying41 HII.out.1 HII.out.2.1 HII.out.2.2.1 HII.out.2.2.2 rfl (by omega) (.slice sa xs.length sc) xs.length (cellsL L) rfl (HROW.out.alloc _) ⟨w4.heap.size, 0, none⟩ 1 1 (cells4 y (.slice ua y.args.length uc)) rfl rfl (World.news_of_block (heap_alloc_new w4 _)) (by simp [cells4, Value.oneCell']) (by omega) (by unfold maxLen; omega) (by omega) (by simp; omega) (w4.heap.size + 1) (by simp) ?_; intro gg cap' w1' hown1 hgrow hat hlt1; have HAP := Lib.hid (And.intro hown1 (And.intro hgrow (And.intro hat hlt1))); clear hown1 hgrow hat hlt1)
            have hsD := HSD.out
            have hgs := HAP.out.2.1.size
            simp only [World.size_alloc] at hgs
            have HO1 : Hid (RowS w1' (w.heap.size + 1) (.slice (some ⟨gg, 0, none⟩) (xs.length + 1) cap') (xs ++ [y])) := Lib.hid (by
              have h := rowS_append (mid := wr.heap.size) HPA.out.2.1 HROW.out HPA.out.2.2 HU.out (fun k hk => (HMID.out k hk).2) (by omega) (belowAlloc (Below.refl _ _) _) HAP.out.1 HAP.out.2.1 (HAP.out.2.2.1.imp id (fun h => by omega))
              rw [HPA.out.1] at h
              exact h)
            have hal5 : Below w4.heap.size w4 (w4.alloc (.cells #[.int .i64 y.kind, .int .i64 y.num, .string y.name, .slice ua y.args.length uc] 43)) := belowAlloc (Below.refl _ _) _
            have HB1 := Lib.hid ((HB.out.read hal5).grown HAP.out.2.1 (fun k hk => by have := (HMID.out k hk).1; omega))
            have HW1 := Lib.hid ((belowOn HWr.out (Nat.le_refl _) hal5).trans (below_of_grown HAP.out.2.1 (belowOn HWr.out (Nat.le_refl _) hal5).size (fun k hk => by have := (HMID.out k hk).1; omega)))
            clear HROW HPA HU HAP HB HWr HY c0 c1 c2 c3 z0 hal5
            go_wp2
            go_roundg (T.length - j)
            case rel => exact ⟨xs ++ [y], j, Nat.le_refl _, by simp, hjl, by omega, by simp; omega, HLX, by simpa using HO1, HB1, HW1⟩
            case measure => omega
          · have HQ := Lib.hid (HNONE.out hy)
            have hal : Below wC.heap.size wC (wC.alloc (.cells #[.int .i64 0, .int .i64 0, .string ⟨#[]⟩, .slice none 0 0] 43)) := belowAlloc (Below.refl _ _) _
            have hbb := belowOn ho (Nat.le_refl _) hal
            replace HB := Lib.hid (HB.out.read hbb)
            replace HWr := Lib.hid (belowOn HWr.out (Nat.le_refl _) hbb)
            clear ho hal hbb hy HC HNONE HSOME HGT HLE HTK IH hcx hgw r1 r2 r3 r4 t1 t2 t3 t4 HO
            go_upto_region 10 with (fail)
            generalize hw4 : wC.alloc (.cells #[.int .i64 0, .int .i64 0, .string ⟨#[]⟩, .slice none 0 0] 43) = w4 at HB HWr ⊢
            clear hw4
            obtain ⟨b0, b1, b2, b3, bf⟩ := box_cells HB.out.now
            go_wp2
            exact sread_no (b := w.heap.size) HQ.out rfl rfl rfl rfl rfl Tryd.underlying43 (by kernel_rfl) HB.out.now rfl HWr.out
    · have HQ := Lib.hid (left_end HF.out (List.getElem?_eq_none (by omega)))
      have hge : decide ((T.length : Int) ≤ (m : Int)) = true := decide_eq_true (by omega)
      have hi1 : ¬ (m : Int) < (T.length : Int) := by omega
      have hal : Below wr.heap.size wr (wr.alloc (.cells #[.int .i64 0, .int .i64 0, .string ⟨#[]⟩, .slice none 0 0] 43)) := belowAlloc (Below.refl _ _) _
      replace HB := Lib.hid (HB.out.read hal)
      replace HWr := Lib.hid (belowOn HWr.out (Nat.le_refl _) hal)
      clear hal HF HO HTK IH
      go_upto_region 15 with (fail)
      generalize hw2 : wr.alloc (.cells #[.int .i64 0, .int .i64 0, .string ⟨#[]⟩, .slice none 0 0] 43) = w2 at HB HWr ⊢
      clear hw2
      obtain ⟨b0, b1, b2, b3, bf⟩ := box_cells HB.out.now
      go_wp2
      exact sread_no (b := w.heap.size) HQ.out rfl rfl rfl rfl rfl Tryd.underlying43 (by kernel_rfl) HB.out.now rfl HWr.out

theorem specRead_any (sa : Option Addr) (cap : Nat) (T : List ByteArray) (hT : ∀ x ∈ T, x.size ≤ 1048576) (hTl : T.length ≤ 1048576) : ∀ (n k i : Nat) (w : World), T.length - i < n → i ≤ T.length → Toks w sa T → 3 * (T.length - i) + 1 ≤ k →
    Calls Tryd.prog 48 #[.slice sa T.length cap, .int .i64 i] w (SRead (anyP leafS k T i) w) := by
  intro n
  induction n with
  | zero => intro k i w h; omega
  | succ n ih =>
    intro k i w hn hi ht hk
    obtain ⟨k, rfl⟩ : ∃ k', k = k' + 1 := ⟨k - 1, by omega⟩
    by_cases hL : T[i]? = some tokL
    · exact specRead_list sa cap T hT hTl n (Lib.hid ih) k i w ht (by omega) hk hL
    · exact specRead_leaf sa cap T hT hTl k i w ht (by omega) hL
end Go.Proofs.YtjmmeccfjanpcaaDoor

