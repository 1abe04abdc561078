/-
  FormatTerm of the program.
-/
import Derived.Test.YtjmmeccfjanpcaaDoorWriteTerm
namespace Go.Proofs.YtjmmeccfjanpcaaDoor
open Go.RowKit
set_option linter.unusedVariables false
set_option linter.unusedSimpArgs false

set_option maxHeartbeats 1000000 in
set_option maxRecDepth 100000 in
theorem implFormatTerm_any (t : Tm) (V : Value) (w : World) (ht : Tab w) (hA : ArgsAt w V t.args) (hZ : t.sz ≤ 1048576) :
    Calls Tryd.prog 21 #[.agg #[.int .i64 t.kind, .int .i64 t.num, .string t.name, V]] w fun e w' => e = .returned (.string (txt t)) ∧ Below w.heap.size w w' := by
  obtain ⟨aa, ca, rfl⟩ := hA.slice
  have HAA := Lib.hid hA
  have HTB := Lib.hid ht
  have HX := Lib.hid (at_box w #[.int .i64 t.kind, .int .i64 t.num, .string t.name, .slice aa t.args.length ca] 43)
  have HW : Hid (Below w.heap.size w (w.alloc (.cells #[.int .i64 t.kind, .int .i64 t.num, .string t.name, .slice aa t.args.length ca] 43))) := Lib.hid (belowAlloc (Below.refl _ _) _)
  clear hA ht
  go_enter Tryd.func21, Tryd.ntmps21
  go_upto_region 1 with (fail)
  generalize hw0 : w.alloc (.cells #[.int .i64 t.kind, .int .i64 t.num, .string t.name, .slice aa t.args.length ca] 43) = w0 at HX HW ⊢
  clear hw0
  have HO := Lib.hid (implTermOk_any t _ w0 (HAA.out.kept HW.out) hZ)
  obtain ⟨c0a, c0b, c0c, c0d⟩ := HX.out.cells
  have z0 := HX.out.le
  go_wp2_with fail
  refine HO.out.mono ?_
  rintro e w1 ⟨rfl, hb⟩
  replace HX := Lib.hid (HX.out.read hb)
  replace HW := Lib.hid (belowOn HW.out (Nat.le_refl _) hb)
  clear hb c0a c0b c0c c0d z0 HO
  cases hoa : okB t with
  | false =>
    have HE := Lib.hid (txt_no (okB_false.1 hoa))
    clear hoa
    go_wp2
    go_ret
    exact ⟨by rw [HE.out]; rfl, HW.out⟩
  | true =>
    have hok := okB_true.1 hoa
    have HE := Lib.hid (txt_yes hok)
    have hts := (text_size t.nodes t (Nat.le_refl _) hok.2).1
    have hn5 := hok.1
    have hal : Below w1.heap.size w1 (w1.alloc (.cells #[.pointer none, .slice none 0 0] 76)) := belowAlloc (Below.refl _ _) _
    have HBD : Hid (Wbd w1.heap.size w1.heap.size ⟨#[]⟩ (w1.alloc (.cells #[.pointer none, .slice none 0 0] 76))) := Lib.hid ⟨Lib.fresh_isBuilder _ _ w1, hal.size⟩
    replace HX := Lib.hid (HX.out.read hal)
    have HW2 := Lib.hid (belowOn HW.out (Nat.le_refl _) hal)
    have HC := Lib.hid (writeTerm_any w w1.heap.size w1.heap.size HW.out.size HTB.out (t.nodes + 1) t _ ⟨#[]⟩ _ (Nat.lt_succ_self _) hn5 HAA.out hZ hok.2 HW2.out HBD.out (by show 0 + _ ≤ _; omega))
    obtain ⟨c0a, c0b, c0c, c0d⟩ := HX.out.cells
    have z0 := HX.out.le
    clear hoa hok hal
    go_wp2_with fail
    refine HC.out.mono ?_
    rintro e w2 ⟨rfl, hwr⟩
    have e0 : (⟨#[]⟩ : ByteArray) ++ t.text = t.text := by rw [ByteArray.ext_iff]; simp
    rw [e0] at hwr
    have HS := Lib.hid (Tryd.Builder_String_any w1.heap.size w1.heap.size t.text.data.toList w2 hwr.1.is hwr.1.le)
    rw [Lib.mk_data] at HS
    have HB2 := Lib.hid (HW2.out.trans (hwr.2.1.mono HW.out.size))
    clear hwr HC c0a c0b c0c c0d z0 e0
    go_wp2_with fail
    refine HS.out.mono ?_
    rintro e w3 ⟨rfl, b2⟩
    have HB3 := Lib.hid (HB2.out.trans (b2.mono (Nat.le_trans HW.out.size (Nat.le_refl _))))
    clear b2 HS
    go_wp2
    go_ret
    exact ⟨by rw [HE.out]; rfl, HB3.out⟩
end Go.Proofs.YtjmmeccfjanpcaaDoor

