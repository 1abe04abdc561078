/-
  The contract of impl.ParseInt.
-/
import Derived.Test.YtfoegoobcpmddaaDoorFmtImpl
import Derived.Test.YtfoegoobcpmddaaDoorParse
import Derived.Lib.AtoiErrMem
namespace Go.Proofs.YtfoegoobcpmddaaDoor
open Go.RowKit

/-- The sentinels of strconv hold an interface value. -/
def Errs (w : World) : Prop := (∃ ev, w.cell? ⟨0, 0, none⟩ = some ev ∧ (ev = .nilIface ∨ ∃ te pe, ev = .iface te pe)) ∧ (∃ ev, w.cell? ⟨1, 0, none⟩ = some ev ∧ (ev = .nilIface ∨ ∃ te pe, ev = .iface te pe))
theorem Errs.kept {w w' : World} (h : Errs w) (hb : Below w.heap.size w w') : Errs w' := by
  obtain ⟨⟨e1, c1, d1⟩, ⟨e2, c2, d2⟩⟩ := h
  exact ⟨⟨e1, (hb.cell (World.block_lt_of_cell? w _ c1)).trans c1, d1⟩, ⟨e2, (hb.cell (World.block_lt_of_cell? w _ c2)).trans c2, d2⟩⟩

/-- How a reading of a number ends. -/
theorem atoi_ends (l : List UInt8) : (∃ v, Lib.atoiAll l = .ok v) ∨ Lib.atoiAll l = Lib.atoiAll [] ∨ Lib.atoiAll l = .range := by
  cases Lib.atoiAll l
  · exact .inl ⟨_, rfl⟩
  · exact .inr (.inl rfl)
  · exact .inr (.inr rfl)

set_option maxHeartbeats 1000000 in
theorem implParse_any (s : ByteArray) (w : World) (ht : Tab w) (he : Errs w) (hs : s.size ≤ 1048576) :
    Calls Tryd.prog 9 #[.string s] w (NumPost (parseOf s.data.toList) w) := by
  have HT := Lib.hid ht
  obtain ⟨⟨e1, c1, d1⟩, ⟨e2, c2, d2⟩⟩ := he
  clear ht
  rcases atoi_ends s.data.toList with ⟨v, hat⟩ | hat | hat
  ·
    have hv : inI v := Lib.atoiAll_bounds hat
    have HA := Lib.hid (Tryd.strconv_Atoi_ok s (by omega) v hat w)
    have HI : Hid (∀ W, Tab W → Calls Tryd.prog 10 #[.int .i64 v] W fun e w' => e = .returned (.string (fmt v)) ∧ Below W.heap.size W w') := Lib.hid (fun W hW => implFmt_any v W hW hv.1 hv.2)
    by_cases hf : Lib.itoa v = s.data.toList
    · have HP := Lib.hid (parse_yes hv hf)
      have hbe : ((fmt v).toList == s.toList) = true := by rw [Lib.toList_data, Lib.toList_data]; unfold fmt; simpa using hf
      clear hf hv hat c1 d1 c2 d2
      generalize fmt v = f at HI hbe
      go_enter Tryd.func9, Tryd.ntmps9
      go_wp2_with fail
      refine HA.out.mono ?_
      rintro e w1 ⟨rfl, hw⟩
      have HB : Hid (Below w.heap.size w w1) := by
        rcases hw with rfl | ⟨t, rfl⟩
        · exact Below.refl _ _
        · exact Lib.bytesWorld_below w _ _
      clear hw
      go_wp2_with (go_at_call 10; refine (HI.out _ (HT.out.kept HB.out)).mono ?_; rintro e w2 ⟨rfl, hb⟩)
      go_ret2
      exact ⟨by rw [HP.out]; rfl, HB.out.trans (hb.mono HB.out.size)⟩
    · have HP := Lib.hid (parse_no (l := s.data.toList) (fun v' hv' e => by
        have := atoi_itoa v' hv'
        rw [e, hat] at this
        injection this with this
        rw [← this] at e
        exact hf e))
      have hbe : ((fmt v).toList == s.toList) = false := by rw [Lib.toList_data, Lib.toList_data]; unfold fmt; simpa using hf
      clear hf hv hat c1 d1 c2 d2
      generalize fmt v = f at HI hbe
      go_enter Tryd.func9, Tryd.ntmps9
      go_wp2_with fail
      refine HA.out.mono ?_
      rintro e w1 ⟨rfl, hw⟩
      have HB : Hid (Below w.heap.size w w1) := by
        rcases hw with rfl | ⟨t, rfl⟩
        · exact Below.refl _ _
        · exact Lib.bytesWorld_below w _ _
      clear hw
      go_wp2_with (go_at_call 10; refine (HI.out _ (HT.out.kept HB.out)).mono ?_; rintro e w2 ⟨rfl, hb⟩)
      go_ret2
      exact ⟨by rw [HP.out]; rfl, HB.out.trans (hb.mono HB.out.size)⟩
  ·
    have HA := Lib.hid (Tryd.strconv_Atoi_syntax s (by omega) hat e1 w c1 d1)
    have HP := Lib.hid (parse_no (l := s.data.toList) (fun v' hv' e => by
      have := atoi_itoa v' hv'
      rw [e, hat] at this
      simp [Lib.atoiAll] at this))
    clear hat c1 d1 c2 d2
    go_enter Tryd.func9, Tryd.ntmps9
    go_wp2_with fail
    refine HA.out.mono ?_
    rintro e w1 ⟨N, rfl, _, _, hb⟩
    go_wp2
    go_ret2
    exact ⟨by rw [HP.out]; rfl, hb⟩
  ·
    have HA := Lib.hid (Tryd.strconv_Atoi_range s (by omega) hat e2 w c2 d2)
    have HP := Lib.hid (parse_no (l := s.data.toList) (fun v' hv' e => by
      have := atoi_itoa v' hv'
      rw [e, hat] at this
      cases this))
    generalize Lib.atoiSat s.data.toList = z at HA
    clear hat c1 d1 c2 d2
    go_enter Tryd.func9, Tryd.ntmps9
    go_wp2_with fail
    refine HA.out.mono ?_
    rintro e w1 ⟨N, rfl, _, _, hb⟩
    go_wp2
    go_ret2
    exact ⟨by rw [HP.out]; rfl, hb⟩

/-- What the law of ParseInt asks of the listed variables. -/
def TabErrs (w : World) : Prop := Tab w ∧ Errs w

set_option maxHeartbeats 400000 in
theorem walkParseInt (w : World) (ht : TabErrs w) (s : ByteArray) (_hs : s.size ≤ maxLen) :
    Calls Tryd.prog 5 #[.string s] w fun e w' => e = .returned (.bool true) ∧ Below w.heap.size w w' := by
  by_cases h : 1048576 < (s.size : Int)
  · clear ht
    go_enter Tryd.func5, Tryd.ntmps5
    go_wp2
    go_ret
    exact ⟨rfl, Below.refl _ _⟩
  · have hs' : s.size ≤ 1048576 := by omega
    have HS := Lib.hid (specParse_any s w hs')
    have HI : Hid (∀ W, Tab W → Errs W → Calls Tryd.prog 9 #[.string s] W (NumPost (parseOf s.data.toList) W)) := Lib.hid (fun W h1 h2 => implParse_any s W h1 h2 hs')
    generalize parseOf s.data.toList = p at HS HI
    obtain ⟨n, ok⟩ := p
    have HT := Lib.hid ht
    clear ht
    go_enter Tryd.func5, Tryd.ntmps5
    go_wp2_with fail
    refine HS.out.mono ?_
    rintro e w1 ⟨rfl, b1⟩
    have B1 := Lib.hid b1
    clear b1
    go_wp2_with fail
    refine (HI.out _ (HT.out.1.kept B1.out) (HT.out.2.kept B1.out)).mono ?_
    rintro e w2 ⟨rfl, b2⟩
    have B2 := Lib.hid (B1.out.trans (b2.mono B1.out.size))
    clear b2
    go_wp2
    go_ret
    exact ⟨rfl, B2.out⟩
end Go.Proofs.YtfoegoobcpmddaaDoor
