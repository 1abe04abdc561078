/-
  The text of a term: the model's l03Format and FormatTerm.
-/
import Derived.Test.YtjmmeccfjanpcaaDoorText
import Derived.Test.YtjmmeccfjanpcaaDoorFits
namespace Go.Proofs.YtjmmeccfjanpcaaDoor
open Go.RowKit
set_option linter.unusedVariables false
set_option linter.unusedSimpArgs false

theorem kind_bools {t : Tm} {k : Int} (h : t.kind = k) (j : Int) : (t.kind == j) = decide (k = j) := by subst h; rfl
theorem text_step {S X Y R T : ByteArray} (h : S ++ R = T) (hr : R = (⟨#[32]⟩ ++ X) ++ Y) : ((S ++ ⟨#[32]⟩) ++ X) ++ Y = T := by
  rw [← h, hr, bytes_assoc, bytes_assoc, bytes_assoc]
theorem text_end0 {S R T : ByteArray} (h : S ++ R = T) (hr : R = ⟨#[41]⟩) : T = S ++ ⟨#[41]⟩ := by rw [← h, hr]
theorem text_end1 {S R L T : ByteArray} (h : S ++ R = T) (hr : R = (⟨#[32, 46, 32]⟩ ++ L) ++ ⟨#[41]⟩) : T = ((S ++ ⟨#[32, 46, 32]⟩) ++ L) ++ ⟨#[41]⟩ := by
  rw [← h, hr, bytes_assoc, bytes_assoc, bytes_assoc]

set_option maxRecDepth 100000 in
set_option maxHeartbeats 4000000 in
theorem format_any (N : Nat) : ∀ (t : Tm) (V : Value) (w : World), t.nodes < N → t.nodes ≤ 5000 → ArgsAt w V t.args → t.sz ≤ 1048576 → Good t →
    Calls Tryd.prog 17 #[.agg #[.int .i64 t.kind, .int .i64 t.num, .string t.name, V]] w fun e w' => e = .returned (.string t.text) ∧ Below w.heap.size w w' := by
  induction N with
  | zero => intro t V w hN; omega
  | succ N ih =>
    intro t V w hN h5 hA hZ hG
    obtain ⟨aa, ca, rfl⟩ := hA.slice
    have HI := Lib.hid ih
    have HG := Lib.hid hG
    have HAA := Lib.hid hA
    have HX := Lib.hid (at_box w #[.int .i64 t.kind, .int .i64 t.num, .string t.name, .slice aa t.args.length ca] 43)
    have HW : Hid (Below w.heap.size w (w.alloc (.cells #[.int .i64 t.kind, .int .i64 t.num, .string t.name, .slice aa t.args.length ca] 43))) := Lib.hid (belowAlloc (Below.refl _ _) _)
    have HSZ : Hid ((w.alloc (.cells #[.int .i64 t.kind, .int .i64 t.num, .string t.name, .slice aa t.args.length ca] 43)).heap.size = w.heap.size + 1) := Lib.hid (by simp)
    obtain ⟨hn0, hn1⟩ := good_num hG
    have HTS := Lib.hid (text_size t.nodes t (Nat.le_refl _) hG).1
    have hts : t.text.size ≤ 200000 := by have := HTS.out; omega
    have HF := Lib.hid (fun W => specFmt_any t.num W hn0 hn1)
    have hfs := fmt_len t.num hn0 hn1
    have HK := Lib.hid (good_kinds hG)
    have hpn := nodes_pos t
    clear hA ih hG
    go_enter Tryd.func17, Tryd.ntmps17
    go_upto_region 1 with (fail)
    generalize hw0 : w.alloc (.cells #[.int .i64 t.kind, .int .i64 t.num, .string t.name, .slice aa t.args.length ca] 43) = w0 at HX HW HSZ ⊢
    clear hw0
    obtain ⟨c0a, c0b, c0c, c0d⟩ := HX.out.cells
    have z0 := HX.out.le
    rcases HK.out with hk | hk | hk | hk | hk
    · have HL := Lib.hid (And.intro (text_leaf (HG.out.fit.atom (by omega))) (leafT0 hk))
      have d0 : (t.kind == 0) = true := by rw [hk]; rfl
      clear hk HK HI
      go_wp2
      go_ret
      exact ⟨by rw [HL.out.1, HL.out.2]; rfl, HW.out⟩
    · have HL := Lib.hid (And.intro (text_leaf (HG.out.fit.atom (by omega))) (leafT1 hk))
      have d0 : (t.kind == 0) = false := by rw [hk]; rfl
      have d1 : (t.kind == 1) = true := by rw [hk]; rfl
      clear hk HK HI
      generalize fmt t.num = f at HF HL hfs
      go_wp2_with fail
      refine (HF.out _).mono ?_
      rintro e w1 ⟨rfl, hb⟩
      have HB := Lib.hid (belowOn HW.out (Nat.le_refl _) hb)
      clear hb
      go_wp2
      go_ret
      exact ⟨by rw [HL.out.1, HL.out.2]; rfl, HB.out⟩
    · have HL := Lib.hid (And.intro (text_leaf (HG.out.fit.atom (by omega))) (leafT2 hk))
      have d0 : (t.kind == 0) = false := by rw [hk]; rfl
      have d1 : (t.kind == 1) = false := by rw [hk]; rfl
      have d2 : (t.kind == 2) = true := by rw [hk]; rfl
      clear hk HK HI
      go_wp2
      go_ret
      exact ⟨by rw [HL.out.1, HL.out.2]; rfl, HW.out⟩
    · have HL := Lib.hid (And.intro (text_leaf (HG.out.fit.atom (by omega))) (leafT3 hk))
      have d0 : (t.kind == 0) = false := by rw [hk]; rfl
      have d1 : (t.kind == 1) = false := by rw [hk]; rfl
      have d2 : (t.kind == 2) = false := by rw [hk]; rfl
      have d3 : (t.kind == 3) = true := by rw [hk]; rfl
      clear hk HK HI
      generalize fmt t.num = f at HF HL hfs
      go_wp2_with fail
      refine (HF.out _).mono ?_
      rintro e w1 ⟨rfl, hb⟩
      have HB := Lib.hid (belowOn HW.out (Nat.le_refl _) hb)
      clear hb
      go_wp2
      go_ret
      exact ⟨by rw [HL.out.1, HL.out.2]; rfl, HB.out⟩
    · have d0 : (t.kind == 0) = false := by rw [hk]; rfl
      have d1 : (t.kind == 1) = false := by rw [hk]; rfl
      have d2 : (t.kind == 2) = false := by rw [hk]; rfl
      have d3 : (t.kind == 3) = false := by rw [hk]; rfl
      clear HF hfs hn0 hn1
      obtain ⟨x, y, hxy⟩ := HG.out.fit.pair hk
      obtain ⟨ga, offa, u1, u2, v1, v2, rfl, hga, hla, hcx, hcy, hax, hay⟩ := HAA.out.two hxy
      have HT := Lib.hid (text_pair hxy)
      have HGX := Lib.hid ((good_two HG.out.fit hxy).1 HG.out)
      have hnn : t.nodes = 1 + x.nodes + y.nodes := nodes_args2 hxy
      have hss : x.sz ≤ 1048576 ∧ y.sz ≤ 1048576 := by have h := sz_eq t; rw [hxy] at h; simp only [szL] at h; omega
      obtain ⟨hsx, hsy⟩ := hss
      have hxn := nodes_pos x
      have hyn := nodes_pos y
      have HCY := Lib.hid hcy
      have HAX := Lib.hid hax
      have HAY := Lib.hid hay
      have hl2 : 1 < t.args.length := by omega
      have hl3 : (1 : Int) < (t.args.length : Int) := by omega
      have hl4 : (0 : Int) < (t.args.length : Int) := by omega
      have hl5 : 0 < t.args.length := by omega
      obtain ⟨e0, e1, e2, e3⟩ := hcx w0 HW.out
      have HC := Lib.hid (HI.out x _ w0 (by omega) (by omega) (HAX.out.kept HW.out) hsx HGX.out.1)
      have hxs : x.text.size ≤ 200000 := by have := (text_size x.nodes x (Nat.le_refl _) HGX.out.1).1; omega
      clear hxy hga hla hcx hcy hax hay hk HK
      generalize hxt : x.text = X at HC HT hxs
      clear hxt
      go_wp2_with fail
      refine HC.out.mono ?_
      rintro e w1 ⟨rfl, hb⟩
      replace HX := Lib.hid (HX.out.read hb)
      replace HW := Lib.hid (belowOn HW.out (Nat.le_refl _) hb)
      clear hb HC c0a c0b c0c c0d z0 e0 e1 e2 e3 d0 d1 d2 d3
      obtain ⟨r0, r1, r2, r3, rf⟩ := box_cells HX.out.now
      have z0 := HX.out.le
      obtain ⟨e0, e1, e2, e3⟩ := HCY.out w1 HW.out
      have HST := Lib.hid (store4 HX.out.now (.int .i64 y.kind) (.int .i64 y.num) (.string y.name) (.slice v1 y.args.length v2))
      have ht0 : (⟨#[40]⟩ ++ X).size ≤ 200001 := by rw [ByteArray.size_append]; show 1 + _ ≤ _; omega
      go_wp2
      clear r0 r1 r2 r3 rf e0 e1 e2 e3
      go_loopg [3] y.nodes (fun g s3 wr => ∃ (c : Tm) (ad : Option Addr) (cp : Nat) (S : ByteArray), s3 = .string S ∧ c.nodes ≤ g ∧ c.nodes < t.nodes ∧ Hid (Good c) ∧ Hid (S ++ c.rest = t.text) ∧ c.sz ≤ 1048576 ∧ Hid (ArgsAt w (.slice ad c.args.length cp) c.args) ∧
          Hid (At wr w.heap.size (w.heap.size + 1) (BoxP w.heap.size #[.int .i64 c.kind, .int .i64 c.num, .string c.name, .slice ad c.args.length cp] 43)) ∧ Hid (Below w.heap.size w wr))
      case atStart =>
        have ho := HST.out.2
        exact ⟨y, v1, v2, ⟨#[40]⟩ ++ X, rfl, Nat.le_refl _, by omega, Lib.hid HGX.out.2, Lib.hid HT.out.symm, hsy, HAY, Lib.hid ⟨HST.out.1, stays_box _ _ _, by have := ho.size; omega⟩, Lib.hid (HW.out.trans (ho.below (fun k hk => hk.1) HW.out.size))⟩
      case round =>
        obtain ⟨c, ad, cp, S, rfl, hg, hct, HGc, HS, hcz, HCA, HXr, HWr⟩ := hrel
        clear HX HW HSZ HST HT HAX HAY HCY HGX hxs ht0 hsx hsy hxn hyn hnn hl2 hl3 hl4 hl5
        have hSs : S.size ≤ 200000 := by have h := congrArg ByteArray.size HS.out; rw [ByteArray.size_append] at h; omega
        have hcn := nodes_pos c
        obtain ⟨c0a, c0b, c0c, c0d⟩ := HXr.out.cells
        have z1 := HXr.out.le
        by_cases hk : c.kind = 4
        · have d4 : (c.kind == 4) = true := by rw [hk]; rfl
          obtain ⟨x2, y2, hxy⟩ := HGc.out.fit.pair hk
          obtain ⟨gb, offb, p1, p2, q1, q2, rfl, hga, hla, hcx, hcy, hax, hay⟩ := HCA.out.two hxy
          have HR := Lib.hid (rest_pair hxy)
          have HGX := Lib.hid ((good_two HGc.out.fit hxy).1 HGc.out)
          have hnn : c.nodes = 1 + x2.nodes + y2.nodes := nodes_args2 hxy
          have hss : x2.sz ≤ 1048576 ∧ y2.sz ≤ 1048576 := by have h := sz_eq c; rw [hxy] at h; simp only [szL] at h; omega
          obtain ⟨hsx, hsy⟩ := hss
          have hxn := nodes_pos x2
          have hyn := nodes_pos y2
          have HCY := Lib.hid hcy
          have HAX := Lib.hid hax
          have HAY := Lib.hid hay
          have hl2 : 1 < c.args.length := by omega
          have hl3 : (1 : Int) < (c.args.length : Int) := by omega
          have hl4 : (0 : Int) < (c.args.length : Int) := by omega
          have hl5 : 0 < c.args.length := by omega
          obtain ⟨e0, e1, e2, e3⟩ := hcx wr HWr.out
          have HC := Lib.hid (HI.out x2 _ wr (by omega) (by omega) (HAX.out.kept HWr.out) hsx HGX.out.1)
          have hxs : x2.text.size ≤ 200000 := by have := (text_size x2.nodes x2 (Nat.le_refl _) HGX.out.1).1; omega
          clear hxy hga hla hcx hcy hax hay hk
          generalize hxt : x2.text = X2 at HC HR hxs
          clear hxt
          have ht1 : (S ++ ⟨#[32]⟩).size ≤ 200001 := by rw [ByteArray.size_append]; show _ + 1 ≤ _; omega
          go_wp2_with fail
          refine HC.out.mono ?_
          rintro e w2 ⟨rfl, hb⟩
          replace HXr := Lib.hid (HXr.out.read hb)
          replace HWr := Lib.hid (belowOn HWr.out (Nat.le_refl _) hb)
          clear hb HC c0a c0b c0c c0d z1 e0 e1 e2 e3
          obtain ⟨r0, r1, r2, r3, rf⟩ := box_cells HXr.out.now
          have z1 := HXr.out.le
          obtain ⟨e0, e1, e2, e3⟩ := HCY.out w2 HWr.out
          have HST := Lib.hid (store4 HXr.out.now (.int .i64 y2.kind) (.int .i64 y2.num) (.string y2.name) (.slice q1 y2.args.length q2))
          have HSS := Lib.hid (text_step HS.out HR.out)
          go_wp2
          go_roundg y2.nodes
          case measure => omega
          case rel =>
            have ho := HST.out.2
            exact ⟨y2, q1, q2, (S ++ ⟨#[32]⟩) ++ X2, rfl, Nat.le_refl _, by omega, Lib.hid HGX.out.2, HSS, hsy, HAY, Lib.hid ⟨HST.out.1, stays_box _ _ _, by have := ho.size; omega⟩, Lib.hid (HWr.out.trans (ho.below (fun k hk => hk.1) HWr.out.size))⟩
        · have d4 : (c.kind == 4) = false := by simp [hk]
          have HAT := Lib.hid (HGc.out.fit.atom hk)
          clear hk
          by_cases hk0 : c.kind = 0
          · have d0 : (c.kind == 0) = true := by rw [hk0]; rfl
            have d0' : (c.kind != 0) = false := by rw [hk0]; rfl
            have HE := Lib.hid (text_end0 HS.out (by rw [rest_leaf HAT.out, if_pos hk0]))
            clear hk0
            go_wp2
            go_ret
            exact ⟨by rw [HE.out]; rfl, HWr.out⟩
          · have d0 : (c.kind == 0) = false := by simp [hk0]
            have d0' : (c.kind != 0) = true := by simp [hk0]
            have HE := Lib.hid (text_end1 (L := c.text) HS.out (by rw [rest_leaf HAT.out, if_neg hk0, text_leaf HAT.out]))
            have hcs : c.text.size ≤ 200000 := by have := (text_size c.nodes c (Nat.le_refl _) HGc.out).1; omega
            have HC := Lib.hid (HI.out c _ wr (by omega) (by omega) (HCA.out.kept HWr.out) hcz HGc.out)
            clear hk0
            generalize hct' : c.text = X2 at HC HE hcs
            clear hct'
            have ht1 : (S ++ ⟨#[32, 46, 32]⟩).size ≤ 200003 := by rw [ByteArray.size_append]; show _ + 3 ≤ _; omega
            have ht2 : (S ++ ⟨#[32, 46, 32]⟩ ++ X2).size ≤ 400003 := by rw [ByteArray.size_append]; omega
            go_wp2_with fail
            refine HC.out.mono ?_
            rintro e w2 ⟨rfl, hb⟩
            replace HWr := Lib.hid (belowOn HWr.out (Nat.le_refl _) hb)
            clear hb HC
            go_wp2
            go_ret
            exact ⟨by rw [HE.out]; rfl, HWr.out⟩

end Go.Proofs.YtjmmeccfjanpcaaDoor

