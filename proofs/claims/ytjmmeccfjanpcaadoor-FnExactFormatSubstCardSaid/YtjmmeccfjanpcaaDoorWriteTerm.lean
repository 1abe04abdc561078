/-
  The text of a term written into a builder (writeText); FormatTerm of the program.
-/
import Derived.Test.YtjmmeccfjanpcaaDoorWriteText
namespace Go.Proofs.YtjmmeccfjanpcaaDoor
open Go.RowKit
set_option linter.unusedVariables false
set_option linter.unusedSimpArgs false

theorem wrote_step {B b : Nat} {s : ByteArray} {w w1 w2 : World} (h : Below B w w1) (hk : TKeep w w1) (h2 : Wrote B b s w1 w2) : Below B w w2 ∧ TKeep w w2 := ⟨h.trans h2.2.1, hk.trans h2.2.2⟩

theorem tkeep_new {w w1 w2 : World} (h : TKeep w w1) (ho : Only (iv w.heap.size (w.heap.size + 1)) w1 w2) : TKeep w w2 :=
  ⟨Nat.le_trans h.size ho.size, fun k hk xs hx => (ho.block k (Nat.lt_of_lt_of_le hk h.size) fun x => by have := x.1; omega).trans (h.block k hk xs hx)⟩

set_option maxRecDepth 100000 in
set_option maxHeartbeats 8000000 in
theorem writeTerm_any (wR : World) (B b : Nat) (hB : wR.heap.size ≤ B) (ht : Tab wR) (N : Nat) : ∀ (t : Tm) (V : Value) (s : ByteArray) (w : World), t.nodes < N → t.nodes ≤ 5000 → ArgsAt wR V t.args → t.sz ≤ 1048576 → Good t → Below wR.heap.size wR w → Wbd B b s w → s.size + t.text.size ≤ 500000 →
    Calls Tryd.prog 42 #[.agg #[.int .i64 t.kind, .int .i64 t.num, .string t.name, V], .pointer (some ⟨b, 0, none⟩)] w fun e w' => e = .returned (.tuple #[]) ∧ Wrote B b (s ++ t.text) w w' := by
  induction N with
  | zero => intro t V s w hN; omega
  | succ N ih =>
    intro t V s w hN h5 hA hZ hG hold hbd hs
    obtain ⟨aa, ca, rfl⟩ := hA.slice
    have HI := Lib.hid ih
    have HG := Lib.hid hG
    have HAA := Lib.hid hA
    have HTB := Lib.hid ht
    have HX := Lib.hid (at_box w #[.int .i64 t.kind, .int .i64 t.num, .string t.name, .slice aa t.args.length ca] 43)
    have hal : Below w.heap.size w (w.alloc (.cells #[.int .i64 t.kind, .int .i64 t.num, .string t.name, .slice aa t.args.length ca] 43)) := belowAlloc (Below.refl _ _) _
    have HBD := Lib.hid (hbd.below hal)
    have HOLD := Lib.hid (hold.trans (hal.mono hold.size))
    have hbw := hbd.le
    have HW : Hid (Below B w (w.alloc (.cells #[.int .i64 t.kind, .int .i64 t.num, .string t.name, .slice aa t.args.length ca] 43)) ∧ TKeep w (w.alloc (.cells #[.int .i64 t.kind, .int .i64 t.num, .string t.name, .slice aa t.args.length ca] 43))) := Lib.hid ⟨hal.mono hbw, TKeep.of_below hal⟩
    have HTS := Lib.hid (text_size t.nodes t (Nat.le_refl _) hG).1
    clear hA ih hG hal hbd hold ht
    go_enter Tryd.func42, Tryd.ntmps42
    go_upto_region 1 with (fail)
    generalize hw0 : w.alloc (.cells #[.int .i64 t.kind, .int .i64 t.num, .string t.name, .slice aa t.args.length ca] 43) = w0 at HX HW HBD HOLD ⊢
    clear hw0
    have HIP := Lib.hid (isPair_any t.kind t.num t.name (.slice aa t.args.length ca) w0)
    obtain ⟨c0a, c0b, c0c, c0d⟩ := HX.out.cells
    have z0 := HX.out.le
    go_wp2_with fail
    refine HIP.out.mono ?_
    rintro e w1 ⟨rfl, hb⟩
    clear c0a c0b c0c c0d z0 HIP
    replace HX := Lib.hid (HX.out.read hb)
    replace HBD := Lib.hid (HBD.out.below hb)
    replace HOLD := Lib.hid (HOLD.out.trans (hb.mono HOLD.out.size))
    replace HW := Lib.hid (And.intro (HW.out.1.trans (hb.mono (by have := HW.out.1.size; omega))) (HW.out.2.trans (TKeep.of_below hb)))
    clear hb
    by_cases hk : t.kind = 4
    · have hd : decide (t.kind = 4) = true := decide_eq_true hk
      rw [hd]
      obtain ⟨x, y, hxy⟩ := HG.out.fit.pair hk
      obtain ⟨ga, offa, u1, u2, v1, v2, rfl, hga, hla, hcx, hcy, hax, hay⟩ := HAA.out.two hxy
      have HT := Lib.hid (text_pair hxy)
      have HGX := Lib.hid ((good_two HG.out.fit hxy).1 HG.out)
      have hnn : t.nodes = 1 + x.nodes + y.nodes := nodes_args2 hxy
      have hss : x.sz ≤ 1048576 ∧ y.sz ≤ 1048576 := by have h := sz_eq t; rw [hxy] at h; simp only [szL] at h; omega
      obtain ⟨hsx, hsy⟩ := hss
      have hxn := nodes_pos x
      have hyn := nodes_pos y
      have HAX := Lib.hid hax
      have HAY := Lib.hid hay
      have HH : Hid (∀ W, Below wR.heap.size wR W → Calls Tryd.prog 62 #[.agg #[.int .i64 t.kind, .int .i64 t.num, .string t.name, .slice (some ⟨ga, offa, none⟩) t.args.length ca]] W fun e w' => e = .returned (.agg #[.int .i64 x.kind, .int .i64 x.num, .string x.name, .slice u1 x.args.length u2]) ∧ Below W.heap.size W w') := Lib.hid fun W hW => by
        obtain ⟨q0, q1, q2, q3⟩ := hcx W hW
        exact head_any t.kind t.num t.name ga offa t.args.length ca _ _ _ _ _ _ W (Nat.lt_of_lt_of_le hga hW.size) (by omega) (by omega) q0 q1 q2 q3
      have HTL : Hid (∀ W, Below wR.heap.size wR W → Calls Tryd.prog 63 #[.agg #[.int .i64 t.kind, .int .i64 t.num, .string t.name, .slice (some ⟨ga, offa, none⟩) t.args.length ca]] W fun e w' => e = .returned (.agg #[.int .i64 y.kind, .int .i64 y.num, .string y.name, .slice v1 y.args.length v2]) ∧ Below W.heap.size W w') := Lib.hid fun W hW => by
        obtain ⟨q0, q1, q2, q3⟩ := hcy W hW
        exact tail_any t.kind t.num t.name ga offa t.args.length ca _ _ _ _ _ _ W (Nat.lt_of_lt_of_le hga hW.size) (by omega) (by omega) q0 q1 q2 q3
      have hxs : x.text.size + y.rest.size + 1 = t.text.size := by rw [HT.out, ByteArray.size_append, ByteArray.size_append]; show _ = 1 + _ + _; omega
      clear hd hxy hga hla hcx hcy hax hay hk
      -- the bracket
      have HC := Lib.hid (wr_byte B b s 40 40 rfl w1 HBD.out (by omega))
      go_wp2_with fail
      refine HC.out.mono ?_
      rintro e w2 ⟨rfl, hwr⟩
      replace HX := Lib.hid (HX.out.tkeep hwr.2.2 (Nat.lt_succ_self _))
      replace HBD := Lib.hid hwr.1
      replace HOLD := Lib.hid (HOLD.out.trans (hwr.2.1.mono hB))
      replace HW := Lib.hid (wrote_step HW.out.1 HW.out.2 hwr)
      clear hwr HC
      -- the head
      have HC := Lib.hid (HH.out w2 HOLD.out)
      obtain ⟨c0a, c0b, c0c, c0d⟩ := HX.out.cells
      have z0 := HX.out.le
      go_wp2_with fail
      refine HC.out.mono ?_
      rintro e w3 ⟨rfl, hb⟩
      clear c0a c0b c0c c0d z0 HC HH
      replace HX := Lib.hid (HX.out.read hb)
      replace HBD := Lib.hid (HBD.out.below hb)
      replace HOLD := Lib.hid (HOLD.out.trans (hb.mono HOLD.out.size))
      replace HW := Lib.hid (And.intro (HW.out.1.trans (hb.mono (by have := HW.out.1.size; omega))) (HW.out.2.trans (TKeep.of_below hb)))
      clear hb
      have HC := Lib.hid (HI.out x _ (s ++ ⟨#[40]⟩) w3 (by omega) (by omega) HAX.out hsx HGX.out.1 HOLD.out HBD.out (by rw [ByteArray.size_append]; show _ + 1 + _ ≤ _; omega))
      go_wp2_with fail
      refine HC.out.mono ?_
      rintro e w4 ⟨rfl, hwr⟩
      replace HX := Lib.hid (HX.out.tkeep hwr.2.2 (Nat.lt_succ_self _))
      replace HBD := Lib.hid hwr.1
      replace HOLD := Lib.hid (HOLD.out.trans (hwr.2.1.mono hB))
      replace HW := Lib.hid (wrote_step HW.out.1 HW.out.2 hwr)
      clear hwr HC
      -- the tail
      have HC := Lib.hid (HTL.out w4 HOLD.out)
      obtain ⟨c0a, c0b, c0c, c0d⟩ := HX.out.cells
      have z0 := HX.out.le
      go_wp2_with fail
      refine HC.out.mono ?_
      rintro e w5 ⟨rfl, hb⟩
      clear c0a c0b c0c c0d z0 HC HTL
      replace HX := Lib.hid (HX.out.read hb)
      replace HBD := Lib.hid (HBD.out.below hb)
      replace HOLD := Lib.hid (HOLD.out.trans (hb.mono HOLD.out.size))
      replace HW := Lib.hid (And.intro (HW.out.1.trans (hb.mono (by have := HW.out.1.size; omega))) (HW.out.2.trans (TKeep.of_below hb)))
      clear hb
      have HST := Lib.hid (store4 HX.out.now (.int .i64 y.kind) (.int .i64 y.num) (.string y.name) (.slice v1 y.args.length v2))
      obtain ⟨r0, r1, r2, r3, rf⟩ := box_cells HX.out.now
      have z0 := HX.out.le
      have hwb := HW.out.1.size
      go_wp2
      clear r0 r1 r2 r3 rf
      go_loopg [20] y.nodes (fun g s2 wr => ∃ (c : Tm) (ad : Option Addr) (cp : Nat) (S : ByteArray), c.nodes ≤ g ∧ c.nodes < t.nodes ∧ Hid (Good c) ∧ Hid (S ++ c.rest = t.text) ∧ c.sz ≤ 1048576 ∧ Hid (ArgsAt wR (.slice ad c.args.length cp) c.args) ∧
          Hid (At wr w.heap.size (w.heap.size + 1) (BoxP w.heap.size #[.int .i64 c.kind, .int .i64 c.num, .string c.name, .slice ad c.args.length cp] 43)) ∧ Hid (Wbd B b (s ++ S) wr) ∧ Hid (Below wR.heap.size wR wr) ∧ Hid (Below B w wr ∧ TKeep w wr))
      case atStart =>
        have ho := HST.out.2
        exact ⟨y, v1, v2, ⟨#[40]⟩ ++ x.text, Nat.le_refl _, by omega, Lib.hid HGX.out.2, Lib.hid HT.out.symm, hsy, HAY, Lib.hid ⟨HST.out.1, stays_box _ _ _, by have := ho.size; omega⟩, Lib.hid (by rw [← bytes_assoc]; exact HBD.out.only ho HX.out.now), Lib.hid (HOLD.out.trans (ho.below (fun k hk => by have := hk.1; omega) HOLD.out.size)), Lib.hid ⟨HW.out.1.trans (ho.below (fun k hk => by have := hk.1; omega) (by omega)), tkeep_new HW.out.2 ho⟩⟩
      case round =>
        obtain ⟨c, ad, cp, S, hg, hct, HGc, HS, hcz, HCA, HXr, HBr, HOr, HWr⟩ := hrel
        clear HX HW HST HT HAX HAY HGX hxs hsx hsy hxn hyn hnn HBD HOLD hwb z0
        have hSs : S.size + c.rest.size = t.text.size := by have h := congrArg ByteArray.size HS.out; rw [ByteArray.size_append] at h; exact h
        have hcn := nodes_pos c
        have HIP := Lib.hid (isPair_any c.kind c.num c.name (.slice ad c.args.length cp) wr)
        obtain ⟨c0a, c0b, c0c, c0d⟩ := HXr.out.cells
        have z1 := HXr.out.le
        go_wp2_with fail
        refine HIP.out.mono ?_
        rintro e wA ⟨rfl, hb⟩
        clear c0a c0b c0c c0d z1 HIP
        replace HXr := Lib.hid (HXr.out.read hb)
        replace HBr := Lib.hid (HBr.out.below hb)
        replace HOr := Lib.hid (HOr.out.trans (hb.mono HOr.out.size))
        replace HWr := Lib.hid (And.intro (HWr.out.1.trans (hb.mono (by have := HWr.out.1.size; omega))) (HWr.out.2.trans (TKeep.of_below hb)))
        clear hb
        by_cases hk : c.kind = 4
        · have hd : decide (c.kind = 4) = true := decide_eq_true hk
          rw [hd]
          obtain ⟨x2, y2, hxy⟩ := HGc.out.fit.pair hk
          obtain ⟨gb, offb, p1, p2, q1, q2, rfl, hga, hla, hcx, hcy, hax, hay⟩ := HCA.out.two hxy
          have HR := Lib.hid (rest_pair hxy)
          have HGX := Lib.hid ((good_two HGc.out.fit hxy).1 HGc.out)
          have hnn : c.nodes = 1 + x2.nodes + y2.nodes := nodes_args2 hxy
          have hss : x2.sz ≤ 1048576 ∧ y2.sz ≤ 1048576 := by have h := sz_eq c; rw [hxy] at h; simp only [szL] at h; omega
          obtain ⟨hsx, hsy⟩ := hss
          have hxn := nodes_pos x2
          have hyn := nodes_pos y2
          have HAX := Lib.hid hax
          have HAY := Lib.hid hay
          have HH : Hid (∀ W, Below wR.heap.size wR W → Calls Tryd.prog 62 #[.agg #[.int .i64 c.kind, .int .i64 c.num, .string c.name, .slice (some ⟨gb, offb, none⟩) c.args.length cp]] W fun e w' => e = .returned (.agg #[.int .i64 x2.kind, .int .i64 x2.num, .string x2.name, .slice p1 x2.args.length p2]) ∧ Below W.heap.size W w') := Lib.hid fun W hW => by
            obtain ⟨r0, r1, r2, r3⟩ := hcx W hW
            exact head_any c.kind c.num c.name gb offb c.args.length cp _ _ _ _ _ _ W (Nat.lt_of_lt_of_le hga hW.size) (by omega) (by omega) r0 r1 r2 r3
          have HTL : Hid (∀ W, Below wR.heap.size wR W → Calls Tryd.prog 63 #[.agg #[.int .i64 c.kind, .int .i64 c.num, .string c.name, .slice (some ⟨gb, offb, none⟩) c.args.length cp]] W fun e w' => e = .returned (.agg #[.int .i64 y2.kind, .int .i64 y2.num, .string y2.name, .slice q1 y2.args.length q2]) ∧ Below W.heap.size W w') := Lib.hid fun W hW => by
            obtain ⟨r0, r1, r2, r3⟩ := hcy W hW
            exact tail_any c.kind c.num c.name gb offb c.args.length cp _ _ _ _ _ _ W (Nat.lt_of_lt_of_le hga hW.size) (by omega) (by omega) r0 r1 r2 r3
          have hxs : x2.text.size + y2.rest.size + 1 = c.rest.size := by rw [HR.out, ByteArray.size_append, ByteArray.size_append]; show _ = 1 + _ + _; omega
          have hsS : (s ++ S).size = s.size + S.size := ByteArray.size_append
          clear hd hxy hga hla hcx hcy hax hay hk
          have HC := Lib.hid (wr_byte B b (s ++ S) 32 32 rfl wA HBr.out (by omega))
          go_wp2_with fail
          refine HC.out.mono ?_
          rintro e w2 ⟨rfl, hwr⟩
          replace HXr := Lib.hid (HXr.out.tkeep hwr.2.2 (Nat.lt_succ_self _))
          replace HBr := Lib.hid hwr.1
          replace HOr := Lib.hid (HOr.out.trans (hwr.2.1.mono hB))
          replace HWr := Lib.hid (wrote_step HWr.out.1 HWr.out.2 hwr)
          clear hwr HC
          have HC := Lib.hid (HH.out w2 HOr.out)
          obtain ⟨c0a, c0b, c0c, c0d⟩ := HXr.out.cells
          have z1 := HXr.out.le
          go_wp2_with fail
          refine HC.out.mono ?_
          rintro e w3 ⟨rfl, hb⟩
          clear c0a c0b c0c c0d z1 HC HH
          replace HXr := Lib.hid (HXr.out.read hb)
          replace HBr := Lib.hid (HBr.out.below hb)
          replace HOr := Lib.hid (HOr.out.trans (hb.mono HOr.out.size))
          replace HWr := Lib.hid (And.intro (HWr.out.1.trans (hb.mono (by have := HWr.out.1.size; omega))) (HWr.out.2.trans (TKeep.of_below hb)))
          clear hb
          have HC := Lib.hid (HI.out x2 _ ((s ++ S) ++ ⟨#[32]⟩) w3 (by omega) (by omega) HAX.out hsx HGX.out.1 HOr.out HBr.out (by rw [ByteArray.size_append, hsS]; show _ + 1 + _ ≤ _; omega))
          go_wp2_with fail
          refine HC.out.mono ?_
          rintro e w4 ⟨rfl, hwr⟩
          replace HXr := Lib.hid (HXr.out.tkeep hwr.2.2 (Nat.lt_succ_self _))
          replace HBr := Lib.hid hwr.1
          replace HOr := Lib.hid (HOr.out.trans (hwr.2.1.mono hB))
          replace HWr := Lib.hid (wrote_step HWr.out.1 HWr.out.2 hwr)
          clear hwr HC
          have HC := Lib.hid (HTL.out w4 HOr.out)
          obtain ⟨c0a, c0b, c0c, c0d⟩ := HXr.out.cells
          have z1 := HXr.out.le
          go_wp2_with fail
          refine HC.out.mono ?_
          rintro e w5 ⟨rfl, hb⟩
          clear c0a c0b c0c c0d z1 HC HTL
          replace HXr := Lib.hid (HXr.out.read hb)
          replace HBr := Lib.hid (HBr.out.below hb)
          replace HOr := Lib.hid (HOr.out.trans (hb.mono HOr.out.size))
          replace HWr := Lib.hid (And.intro (HWr.out.1.trans (hb.mono (by have := HWr.out.1.size; omega))) (HWr.out.2.trans (TKeep.of_below hb)))
          clear hb
          have HST := Lib.hid (store4 HXr.out.now (.int .i64 y2.kind) (.int .i64 y2.num) (.string y2.name) (.slice q1 y2.args.length q2))
          obtain ⟨r0, r1, r2, r3, rf⟩ := box_cells HXr.out.now
          have z1 := HXr.out.le
          have hwb := HWr.out.1.size
          go_wp2
          go_roundg y2.nodes
          case measure => omega
          case rel =>
            have ho := HST.out.2
            exact ⟨y2, q1, q2, (S ++ ⟨#[32]⟩) ++ x2.text, Nat.le_refl _, by omega, Lib.hid HGX.out.2, Lib.hid (text_step HS.out HR.out), hsy, HAY, Lib.hid ⟨HST.out.1, stays_box _ _ _, by have := ho.size; omega⟩, Lib.hid (by rw [← bytes_assoc, ← bytes_assoc]; exact HBr.out.only ho HXr.out.now), Lib.hid (HOr.out.trans (ho.below (fun k hk => by have := hk.1; omega) HOr.out.size)), Lib.hid ⟨HWr.out.1.trans (ho.below (fun k hk => by have := hk.1; omega) (by omega)), tkeep_new HWr.out.2 ho⟩⟩
        · have hd : decide (c.kind = 4) = false := decide_eq_false hk
          rw [hd]
          have HAT := Lib.hid (HGc.out.fit.atom hk)
          have hsS : (s ++ S).size = s.size + S.size := ByteArray.size_append
          clear hd
          by_cases hk0 : c.kind = 0
          · have d0 : (c.kind == 0) = true := by rw [hk0]; rfl
            have d0' : (c.kind != 0) = false := by rw [hk0]; rfl
            have HE := Lib.hid (text_end0 HS.out (by rw [rest_leaf HAT.out, if_pos hk0]))
            clear hk0 hk
            have HC := Lib.hid (wr_byte B b (s ++ S) 41 41 rfl wA HBr.out (by omega))
            obtain ⟨c0a, c0b, c0c, c0d⟩ := HXr.out.cells
            have z1 := HXr.out.le
            go_wp2_with fail
            refine HC.out.mono ?_
            rintro e w2 ⟨rfl, hwr⟩
            have HF : Hid (Wrote B b (s ++ t.text) w w2) := Lib.hid (by
              have h := wrote_step HWr.out.1 HWr.out.2 hwr
              rw [HE.out, ← bytes_assoc]
              exact ⟨hwr.1, h⟩)
            clear hwr HC
            go_wp2
            go_end0
            exact ⟨rfl, HF.out⟩
          · have d0 : (c.kind == 0) = false := by simp [hk0]
            have d0' : (c.kind != 0) = true := by simp [hk0]
            have HE := Lib.hid (text_end1 (L := leafT c) HS.out (by rw [rest_leaf HAT.out, if_neg hk0]))
            have hls := leaf_size HGc.out hk
            have HLT := Lib.hid (fun W (hW : Below wR.heap.size wR W) => leafText_any c ad cp W (HTB.out.kept hW) HGc.out hk)
            clear hk0 hk
            have HC := Lib.hid (wr_string B b (s ++ S) ⟨#[32, 46, 32]⟩ wA HBr.out (by omega) (by decide))
            obtain ⟨c0a, c0b, c0c, c0d⟩ := HXr.out.cells
            have z1 := HXr.out.le
            go_wp2_with fail
            refine HC.out.mono ?_
            rintro e w2 ⟨rfl, hwr⟩
            clear c0a c0b c0c c0d z1
            replace HXr := Lib.hid (HXr.out.tkeep hwr.2.2 (Nat.lt_succ_self _))
            replace HBr := Lib.hid hwr.1
            replace HOr := Lib.hid (HOr.out.trans (hwr.2.1.mono hB))
            replace HWr := Lib.hid (wrote_step HWr.out.1 HWr.out.2 hwr)
            clear hwr HC
            have HC := Lib.hid (HLT.out w2 HOr.out)
            obtain ⟨c0a, c0b, c0c, c0d⟩ := HXr.out.cells
            have z1 := HXr.out.le
            go_wp2_with fail
            refine HC.out.mono ?_
            rintro e w3 ⟨rfl, hb⟩
            clear c0a c0b c0c c0d z1 HC HLT
            replace HXr := Lib.hid (HXr.out.read hb)
            replace HBr := Lib.hid (HBr.out.below hb)
            replace HOr := Lib.hid (HOr.out.trans (hb.mono HOr.out.size))
            replace HWr := Lib.hid (And.intro (HWr.out.1.trans (hb.mono (by have := HWr.out.1.size; omega))) (HWr.out.2.trans (TKeep.of_below hb)))
            clear hb
            have HC := Lib.hid (wr_string B b ((s ++ S) ++ ⟨#[32, 46, 32]⟩) (leafT c) w3 HBr.out (by rw [ByteArray.size_append, hsS]; show _ + 3 ≤ _; omega) (by omega))
            go_wp2_with fail
            refine HC.out.mono ?_
            rintro e w4 ⟨rfl, hwr⟩
            replace HXr := Lib.hid (HXr.out.tkeep hwr.2.2 (Nat.lt_succ_self _))
            replace HBr := Lib.hid hwr.1
            replace HOr := Lib.hid (HOr.out.trans (hwr.2.1.mono hB))
            replace HWr := Lib.hid (wrote_step HWr.out.1 HWr.out.2 hwr)
            clear hwr HC
            have HC := Lib.hid (wr_byte B b (((s ++ S) ++ ⟨#[32, 46, 32]⟩) ++ leafT c) 41 41 rfl w4 HBr.out (by rw [ByteArray.size_append, ByteArray.size_append, hsS]; show _ + 3 + _ ≤ _; omega))
            go_wp2_with fail
            refine HC.out.mono ?_
            rintro e w5 ⟨rfl, hwr⟩
            have HF : Hid (Wrote B b (s ++ t.text) w w5) := Lib.hid (by
              have h := wrote_step HWr.out.1 HWr.out.2 hwr
              rw [HE.out, ← bytes_assoc, ← bytes_assoc, ← bytes_assoc]
              exact ⟨hwr.1, h⟩)
            clear hwr HC
            go_wp2
            go_end0
            exact ⟨rfl, HF.out⟩
    · have hd : decide (t.kind = 4) = false := decide_eq_false hk
      rw [hd]
      have HL := Lib.hid (text_leaf (HG.out.fit.atom hk))
      have HC := Lib.hid (leafText_any t aa ca w1 (HTB.out.kept HOLD.out) HG.out hk)
      have hls := leaf_size HG.out hk
      obtain ⟨c0a, c0b, c0c, c0d⟩ := HX.out.cells
      have z0 := HX.out.le
      clear hd hk
      go_wp2_with fail
      refine HC.out.mono ?_
      rintro e w2 ⟨rfl, hb⟩
      clear c0a c0b c0c c0d z0 HC
      replace HBD := Lib.hid (HBD.out.below hb)
      replace HW := Lib.hid (And.intro (HW.out.1.trans (hb.mono (by have := HW.out.1.size; omega))) (HW.out.2.trans (TKeep.of_below hb)))
      clear hb
      have HC := Lib.hid (wr_string B b s (leafT t) w2 HBD.out (by omega) (by omega))
      go_wp2_with fail
      refine HC.out.mono ?_
      rintro e w3 ⟨rfl, hwr⟩
      have HE : Hid (Wrote B b (s ++ t.text) w w3) := Lib.hid (by
        have h := wrote_step HW.out.1 HW.out.2 hwr
        rw [HL.out]
        exact ⟨hwr.1, h⟩)
      clear hwr HC
      go_wp2
      refine bodyPost_ret (results_none rfl _ _ _) rfl ?_
      exact ⟨rfl, HE.out⟩
end Go.Proofs.YtjmmeccfjanpcaaDoor

