/-
  The program's substitutions applied: roomAfter, applied, apply, solves.
  Lookup, ApplySubst, MoreGeneral, RestrictSubst of the program.
  The bindings of the program's map, in any order; a row appended to an owned one.
  The program's composition, plain: the mapped bindings and the rest, sorted, are the model's insertions.
  slices.SortFunc over a row of bindings that the call owns, by the composition's comparison.
  ComposeSubst of the program.
-/
import Derived.Test.YtjmmeccfjanpcaaGreatDoorMapSubst
import Derived.Test.YtjmmeccfjanpcaaGreatDoorSpecSubs
import Derived.Deep.RegionLaw
import Derived.Deep.AppendLies
import Derived.Test.YtjmmeccfjanpcaaGreatDoorSpecComp
import Derived.Test.YtjmmeccfjanpcaaGreatDoorSortShelf
import Derived.Shelf.SlSortCmp.NoneTotal
import Derived.Laws.AppendOwnNone
namespace Go.Proofs.YtjmmeccfjanpcaaGreatDoor
open Go.RowKit
set_option linter.unusedVariables false
set_option linter.unusedSimpArgs false

theorem putT_found {s : List Bd} {t x : Tm} (h : ofG (getO s) t = some x) : putT s t = x := by
  by_cases hk : t.kind = 1
  · rw [ofG_var hk] at h
    rw [putT_var hk, h]
  · rw [ofG_no hk] at h; cases h
theorem putT_not {s : List Bd} {t : Tm} (hG : Good t) (h : ofG (getO s) t = none) : (¬ t.kind = 4 → putT s t = t) ∧ (putT s t).nodes = 1 + nodesL (t.args.map (putT s)) := by
  by_cases hk : t.kind = 1
  · rw [ofG_var hk] at h
    have e : putT s t = t := by rw [putT_var hk, h]
    refine ⟨fun _ => e, ?_⟩
    rw [e, fit_var hG.fit hk, nodes_eq, fit_var hG.fit hk]; rfl
  · by_cases h4 : t.kind = 4
    · refine ⟨fun h => absurd h4 h, ?_⟩
      rw [putT_pair h4, nodes_eq]; rfl
    · have e : putT s t = t := putT_atom hk h4
      refine ⟨fun _ => e, ?_⟩
      rw [e, hG.fit.atom h4, nodes_eq, hG.fit.atom h4]; rfl
theorem room_step {N n : Nat} {room r r' : Int} (h : RoomP N room r) (h' : RoomP n r r') (hn : 1 ≤ n) : RoomP (N + n) room r' := by
  obtain ⟨a1, a2, a3, a4⟩ := h
  obtain ⟨b1, b2, b3, b4⟩ := h'
  refine ⟨fun hle => ?_, fun hlt => ?_, b3, by omega⟩
  · have h1 := a1 (by omega)
    have h2 := b1 (by omega)
    omega
  · by_cases hN : (N : Int) ≤ room
    · have h1 := a1 hN
      exact b2 (by omega)
    · have h1 := a2 (by omega)
      exact b2 (by omega)
theorem room_one {room : Int} (h0 : 0 ≤ room) : RoomP 1 room (room - 1) := ⟨fun _ => rfl, fun h => by omega, by omega, by omega⟩
theorem room_less {n : Nat} {room : Int} (h0 : room < 0) (h1 : -5000 ≤ room) : RoomP n room room := ⟨fun h => by omega, fun _ => h0, h1, Int.le_refl _⟩
theorem room_take {n : Nat} {room : Int} (h0 : 0 ≤ room) (hn : n ≤ 5000) : RoomP n room (room - n) := ⟨fun _ => rfl, fun h => by omega, by omega, by omega⟩
/-- Terms to be put in the place of variables. -/
def FitB (s : List Bd) : Prop := ∀ b ∈ s, Ok b.t
theorem FitB.get {s : List Bd} (h : FitB s) {v : Int} {x : Tm} (hg : getO s v = some x) : Ok x ∧ x.sz ≤ 1048576 := by
  obtain ⟨b, hb, _, rfl⟩ := getO_some hg
  have h1 := h b hb
  exact ⟨h1, by have h2 := good_sz h1.2; have h3 := h1.1; omega⟩
theorem FitB.of {s : List Bd} {t x : Tm} (h : FitB s) (hg : ofG (getO s) t = some x) : Ok x ∧ x.sz ≤ 1048576 := by
  by_cases hk : t.kind = 1
  · rw [ofG_var hk] at hg; exact h.get hg
  · rw [ofG_no hk] at hg; cases hg
theorem SubstP.fits {s : List Bd} (h : SubstP s) : FitB s := fun b hb => ⟨h.nodes b hb, h.good b hb⟩
theorem Good.wfVar {t : Tm} (hG : Good t) : t.kind = 1 → wfI t.num := fun hk => by
  have h := hG.var_range hk
  exact wfI_of (by omega) (by omega)

set_option maxRecDepth 100000 in
set_option maxHeartbeats 2000000 in
theorem roomAfter_any (N : Nat) : ∀ (b : Nat) (s : List Bd) (t : Tm) (V : Value) (room : Int) (w : World), t.nodes < N → MapG w b (getO s) → FitB s → ArgsAt w V t.args → t.sz ≤ 1048576 → Good t → -5000 ≤ room → room ≤ 5000 →
    Calls Tryz.prog 42 #[.map (some b), .agg #[.int .i64 t.kind, .int .i64 t.num, .string t.name, V], .int .i64 room] w fun e w' => ∃ r : Int, e = .returned (.int .i64 r) ∧ RoomP (putT s t).nodes room r ∧ Below w.heap.size w w' := by
  induction N with
  | zero => intro b s t V room w hN; omega
  | succ N ih =>
    intro b s t V room w hN hM hF hA hZ hG hr0 hr1
    obtain ⟨aa, ca, rfl⟩ := hA.slice
    have HW := Lib.hid (belowAlloc (Below.refl w.heap.size w) (.cells #[.int .i64 t.kind, .int .i64 t.num, .string t.name, .slice aa t.args.length ca] 27))
    have HX := Lib.hid (at_box_of w #[.int .i64 t.kind, .int .i64 t.num, .string t.name, .slice aa t.args.length ca] 27 w.heap.size rfl)
    have HA := Lib.hid (hA.kept HW.out)
    have HM := Lib.hid (hM.kept HW.out)
    by_cases hneg : room < 0
    · have HR := Lib.hid (room_less (n := (putT s t).nodes) hneg hr0)
      clear HA HM HX ih hM hA hF
      go_enter Tryz.func42, Tryz.ntmps42
      go_wp2
      go_ret
      exact ⟨room, rfl, HR.out, HW.out⟩
    have hpos : 0 ≤ room := by omega
    have HI := Lib.hid ih
    have HG := Lib.hid hG
    have HFT := Lib.hid hF
    have HVW := Lib.hid hG.wfVar
    have hlen : t.args.length ≤ 1048576 := by have h1 := length_szL t.args; have h2 := sz_eq t; omega
    have HS := Lib.hid (sz_eq t)
    have HNE := Lib.hid (nodes_eq t)
    have HPF := Lib.hid (fun (x : Tm) (h : ofG (getO s) t = some x) => And.intro (congrArg Tm.nodes (putT_found h)) (hF.of h))
    have HPN := Lib.hid (fun (h : ofG (getO s) t = none) => (putT_not hG h).2)
    generalize (putT s t).nodes = rn at HPF HPN ⊢
    clear hA hM ih hG hF hneg
    go_enter Tryz.func42, Tryz.ntmps42
    go_upto_region 1 with (fail)
    generalize hw0 : w.alloc (.cells #[.int .i64 t.kind, .int .i64 t.num, .string t.name, .slice aa t.args.length ca] 27) = w0 at HA HX HW HM ⊢
    clear hw0
    have HC := Lib.hid (termFor_any b (getO s) t _ w0 HM.out HVW.out HA.out)
    obtain ⟨c0, c1, c2, c3⟩ := HX.out.cells
    have z0 := HX.out.le
    generalize ofG (getO s) t = o at HC HPF HPN
    go_wp2_with fail
    refine HC.out.mono ?_
    rintro e w1 ⟨xa, xc, rfl, hax, hb⟩
    have HX1 := Lib.hid (HX.out.read hb)
    have HW1 := Lib.hid (belowOn HW.out (Nat.le_refl _) hb)
    have HA1 := Lib.hid (HA.out.kept hb)
    have HM1 := Lib.hid (HM.out.kept hb)
    have HAX := Lib.hid hax
    clear hb hax HC c0 c1 c2 c3 z0 HX HA HM
    go_upto_region 4 with (fail)
    have hal : Below w1.heap.size w1 (w1.alloc (.cells #[.int .i64 (orZero o).kind, .int .i64 (orZero o).num, .string (orZero o).name, .slice xa (orZero o).args.length xc] 27)) := belowAlloc (Below.refl _ _) _
    have HY := Lib.hid (at_box_of w1 #[.int .i64 (orZero o).kind, .int .i64 (orZero o).num, .string (orZero o).name, .slice xa (orZero o).args.length xc] 27 w1.heap.size rfl)
    replace HX1 := Lib.hid (HX1.out.read hal)
    replace HW1 := Lib.hid (belowOn HW1.out (Nat.le_refl _) hal)
    replace HA1 := Lib.hid (HA1.out.kept hal)
    replace HM1 := Lib.hid (HM1.out.kept hal)
    replace HAX := Lib.hid (HAX.out.kept hal)
    clear hal
    generalize hw2 : w1.alloc (.cells #[.int .i64 (orZero o).kind, .int .i64 (orZero o).num, .string (orZero o).name, .slice xa (orZero o).args.length xc] 27) = w2 at HX1 HW1 HA1 HM1 HAX HY ⊢
    clear hw2
    generalize w1.heap.size = nb at HY ⊢
    cases ho : o.isSome with
    | true =>
      obtain ⟨x, rfl⟩ := Option.isSome_iff_exists.1 ho
      clear ho
      obtain ⟨hn, hok, hxz⟩ := HPF.out x rfl
      subst hn
      have hxn := hok.1
      have HSO := Lib.hid (size_ok hok)
      have HC := Lib.hid (implTermSize_any x _ w2 HAX.out hxz)
      rw [HSO.out] at HC
      clear HPF HPN hok
      obtain ⟨y0, y1, y2, y3⟩ := HY.out.cells
      have z1 := HY.out.le
      have HRM := Lib.hid (room_take hpos hxn)
      go_wp2_with fail
      refine HC.out.mono ?_
      rintro e w3 ⟨rfl, hb⟩
      have HW3 := Lib.hid (belowOn HW1.out (Nat.le_refl _) hb)
      clear hb HC y0 y1 y2 y3 z1
      go_wp2
      go_ret
      exact ⟨room - x.nodes, rfl, HRM.out, HW3.out⟩
    | false =>
      obtain rfl : o = none := by cases o with | none => rfl | some x => cases ho
      clear ho
      have HRN := Lib.hid (HPN.out rfl)
      clear HPF HPN
      have HR1 := Lib.hid (room_one hpos)
      obtain ⟨c0, c1, c2, c3⟩ := HX1.out.cells
      have z0 := HX1.out.le
      go_wp2
      go_loopw [2, 30] (fun rv iv wr => ∃ (k : Nat) (r : Int), k ≤ t.args.length ∧ iv = .int .i64 k ∧ rv = .int .i64 r ∧ -5000 ≤ r ∧ r ≤ 5000 ∧ Hid (RoomP (1 + nodesL ((t.args.take k).map (putT s))) room r) ∧ Hid (Below w2.heap.size w2 wr)) (fun _ iv _ => t.args.length - (intOf iv).toNat)
      case atStart => exact ⟨0, room - 1, Nat.zero_le _, rfl, by go_num, by omega, by omega, Lib.hid (by simpa [nodesL_nil] using HR1.out), Lib.hid (Below.refl _ _)⟩
      case round =>
        obtain ⟨k, r, hk, rfl, rfl, hr0', hr1', HRK, HB⟩ := hrel
        clear HR1 c0 c1 c2 c3 z0
        by_cases hlt : k < t.args.length
        · have hltI : (k : Int) < (t.args.length : Int) := by omega
          obtain ⟨x, hx⟩ : ∃ x, t.args[k]? = some x := ⟨_, List.getElem?_eq_getElem hlt⟩
          obtain ⟨g, off, u1, u2, rfl, hg, hq, hc, hu⟩ := HA1.out.elem hx
          obtain ⟨d0, d1, d2, d3⟩ := hc wr HB.out
          have HBX := Lib.hid (belowOn HB.out (Nat.le_refl _) (belowAlloc (Below.refl wr.heap.size wr) (.cells #[.int .i64 x.kind, .int .i64 x.num, .string x.name, .slice u1 x.args.length u2] 27)))
          have HC := Lib.hid (HI.out b s x (.slice u1 x.args.length u2) r _ (by have h1 := nodes_at hx; have := HNE.out; omega) (HM1.out.kept HBX.out) HFT.out (hu.kept HBX.out) (by have h1 := sz_at hx; have := HS.out; omega) (HG.out.each hx) hr0' hr1')
          have HNM := Lib.hid (nodesL_map_take (s := s) hx)
          have HNP := Lib.hid (nodes_pos (putT s x))
          clear hc hu hx hq
          go_wp2_with fail
          refine HC.out.mono ?_
          rintro e w3 ⟨r', rfl, hr', hb⟩
          have HB3 := Lib.hid (belowOn HBX.out (Nat.le_refl _) hb)
          have hb0 := hr'.2.2.1
          have hb1 := hr'.2.2.2
          have HR3 := Lib.hid (room_step HRK.out hr' HNP.out)
          clear hb HC hr' d0 d1 d2 d3
          go_wp2
          go_roundw
          case rel => exact ⟨k + 1, r', by omega, by go_num, rfl, by omega, by omega, Lib.hid (by rw [HNM.out, ← Nat.add_assoc]; exact HR3.out), HB3⟩
          case measure => simp [intOf]; omega
        · obtain rfl : k = t.args.length := by omega
          have HRF := HRK
          rw [List.take_length] at HRF
          go_wp2
          go_ret
          exact ⟨r, rfl, by rw [HRN.out]; exact HRF.out, belowOn HW1.out (Nat.le_refl _) HB.out⟩

set_option maxRecDepth 100000 in
set_option maxHeartbeats 4000000 in
theorem applied_any (N : Nat) : ∀ (b : Nat) (s : List Bd) (t : Tm) (V : Value) (w : World), t.nodes < N → MapG w b (getO s) → FitB s → ArgsAt w V t.args → t.sz ≤ 1048576 → Good t →
    Calls Tryz.prog 43 #[.map (some b), .agg #[.int .i64 t.kind, .int .i64 t.num, .string t.name, V]] w (NewTm (putT s t) w) := by
  induction N with
  | zero => intro b s t V w hN; omega
  | succ N ih =>
    intro b s t V w hN hM hF hA hZ hG
    obtain ⟨aa, ca, rfl⟩ := hA.slice
    have HX := Lib.hid (at_box_of w #[.int .i64 t.kind, .int .i64 t.num, .string t.name, .slice aa t.args.length ca] 27 w.heap.size rfl)
    have HR := Lib.hid (at_box_of (w.alloc (.cells #[.int .i64 t.kind, .int .i64 t.num, .string t.name, .slice aa t.args.length ca] 27)) #[.int .i64 0, .int .i64 0, .string ⟨#[]⟩, .slice none 0 0] 27 (w.heap.size + 1) (by simp))
    replace HX := Lib.hid (HX.out.read (belowAlloc (Below.refl _ _) (.cells #[.int .i64 0, .int .i64 0, .string ⟨#[]⟩, .slice none 0 0] 27)))
    have HW := Lib.hid (belowAlloc (belowAlloc (Below.refl w.heap.size w) (.cells #[.int .i64 t.kind, .int .i64 t.num, .string t.name, .slice aa t.args.length ca] 27)) (.cells #[.int .i64 0, .int .i64 0, .string ⟨#[]⟩, .slice none 0 0] 27))
    have HA := Lib.hid (at_args (hA.kept HW.out))
    have HM := Lib.hid (hM.kept HW.out)
    have HI := Lib.hid ih
    have HG := Lib.hid hG
    have HFT := Lib.hid hF
    have HVW := Lib.hid hG.wfVar
    have HS := Lib.hid (sz_eq t)
    have HNE := Lib.hid (nodes_eq t)
    have HPF := Lib.hid (fun (x : Tm) (h : ofG (getO s) t = some x) => And.intro (putT_found h) (hF.of h))
    have HPN := Lib.hid (fun (h : ofG (getO s) t = none) => (putT_not hG h).1)
    have HPP := Lib.hid (fun (x y : Tm) (h : t.kind = 4) (hl : t.args = [x, y]) => putT_two (s := s) h hl)
    generalize putT s t = r at HPF HPN HPP ⊢
    clear hA hM ih hG hF
    go_enter Tryz.func43, Tryz.ntmps43
    go_upto_region 1 with (fail)
    generalize hw0 : (w.alloc (.cells #[.int .i64 t.kind, .int .i64 t.num, .string t.name, .slice aa t.args.length ca] 27)).alloc (.cells #[.int .i64 0, .int .i64 0, .string ⟨#[]⟩, .slice none 0 0] 27) = w0 at HA HX HR HW HM ⊢
    clear hw0
    have HC := Lib.hid (termFor_any b (getO s) t _ w0 HM.out HVW.out HA.out.argsAt)
    obtain ⟨c0, c1, c2, c3⟩ := HX.out.cells
    have z0 := HX.out.le
    generalize ofG (getO s) t = o at HC HPF HPN
    go_wp2_with fail
    refine HC.out.mono ?_
    rintro e w1 ⟨xa, xc, rfl, hax, hb⟩
    replace HX := Lib.hid (HX.out.read hb)
    replace HR := Lib.hid (HR.out.read hb)
    replace HW := Lib.hid (belowOn HW.out (Nat.le_refl _) hb)
    replace HA := Lib.hid (HA.out.read hb)
    replace HM := Lib.hid (HM.out.kept hb)
    have HAX := Lib.hid (at_args hax)
    clear hb hax HC c0 c1 c2 c3 z0
    go_upto_region 2 with (fail)
    have hal : Below w1.heap.size w1 (w1.alloc (.cells #[.int .i64 (orZero o).kind, .int .i64 (orZero o).num, .string (orZero o).name, .slice xa (orZero o).args.length xc] 27)) := belowAlloc (Below.refl _ _) _
    have HY := Lib.hid (at_box_of w1 #[.int .i64 (orZero o).kind, .int .i64 (orZero o).num, .string (orZero o).name, .slice xa (orZero o).args.length xc] 27 w1.heap.size rfl)
    replace HX := Lib.hid (HX.out.read hal)
    replace HR := Lib.hid (HR.out.read hal)
    replace HW := Lib.hid (belowOn HW.out (Nat.le_refl _) hal)
    replace HA := Lib.hid (HA.out.read hal)
    replace HM := Lib.hid (HM.out.kept hal)
    replace HAX := Lib.hid (HAX.out.read hal)
    clear hal
    generalize hw2 : w1.alloc (.cells #[.int .i64 (orZero o).kind, .int .i64 (orZero o).num, .string (orZero o).name, .slice xa (orZero o).args.length xc] 27) = w2 at HX HR HW HA HM HAX HY ⊢
    clear hw2
    generalize w1.heap.size = nb at HY ⊢
    cases o with
    | some x =>
      obtain ⟨hn, hok, hxz⟩ := HPF.out x rfl
      subst hn
      have HC := Lib.hid (copied_any (r.nodes + 1) r _ w2 (Nat.lt_succ_self _) HAX.out.argsAt hxz hok.2)
      clear HPF HPN HPP hok
      obtain ⟨y0, y1, y2, y3⟩ := HY.out.cells
      have z1 := HY.out.le
      go_wp2_with fail
      refine HC.out.mono ?_
      rintro e w3 ⟨u, rfl, hn⟩
      have HRE := Lib.hid (HR.out.read hn.2).now
      obtain ⟨r0, r1, r2, r3, rf⟩ := box_cells (HR.out.read hn.2).now
      have HRL : Hid (w.heap.size ≤ w.heap.size + 1 ∧ w.heap.size + 1 < w2.heap.size) := Lib.hid ⟨by omega, by have := HR.out.le; omega⟩
      obtain ⟨a0, c0, rfl⟩ := hn.1.argsAt.slice
      have HN := Lib.hid hn
      have hl1 := hn.2.size
      have hl2 := HR.out.le
      clear hn y0 y1 y2 y3 z1 HC
      go_wp2
      exact newTm_end (p := 4) (b := w.heap.size + 1) (W := w2) rfl rfl rfl Tryz.underlying27 (by kernel_rfl) HRE.out HW.out HRL.out.1 HRL.out.2 HN.out
    | none =>
      have HIP := Lib.hid (isPair_any t.kind t.num t.name (.slice aa t.args.length ca) w2)
      obtain ⟨c0a, c0b, c0c, c0d⟩ := HX.out.cells
      have z0 := HX.out.le
      go_wp2_with fail
      refine HIP.out.mono ?_
      rintro e w3 ⟨rfl, hb⟩
      clear c0a c0b c0c c0d z0 HIP HY HAX
      replace HX := Lib.hid (HX.out.read hb)
      replace HR := Lib.hid (HR.out.read hb)
      replace HW := Lib.hid (belowOn HW.out (Nat.le_refl _) hb)
      replace HA := Lib.hid (HA.out.read hb)
      replace HM := Lib.hid (HM.out.kept hb)
      clear hb
      by_cases hk : t.kind = 4
      · have hd : decide (t.kind = 4) = true := decide_eq_true hk
        rw [hd]
        obtain ⟨x, y, hxy⟩ := HG.out.fit.pair hk
        obtain ⟨ga, offa, u1, u2, v1, v2, rfl, hga, hla, hcx, hcy, hax, hay⟩ := HA.out.argsAt.two hxy
        have HGA := Lib.hid hga
        have HLA := Lib.hid hla
        have HPA := Lib.hid (And.intro hcx (And.intro hcy (And.intro hax hay)))
        have HGX := Lib.hid ((good_two HG.out.fit hxy).1 HG.out)
        have HNX : Hid (nodesL t.args = x.nodes + y.nodes ∧ szL t.args = 2 + x.sz + y.sz ∧ 1 ≤ x.nodes ∧ 1 ≤ y.nodes) := Lib.hid (by
          rw [hxy]; simp only [nodesL, szL]; have := nodes_pos x; have := nodes_pos y; omega)
        have HQV : Hid (r.kind = 4 ∧ r.num = 0 ∧ r.name = ⟨#[]⟩ ∧ r.args = [putT s x, putT s y]) := Lib.hid (by rw [HPP.out x y hk hxy]; exact ⟨rfl, rfl, rfl, rfl⟩)
        clear hd hxy hga hla hcx hcy hax hay hk HPP HPN HPF
        have hself : Below w3.heap.size w3 w3 := Below.refl _ _
        have hdrew : Below w3.heap.size w3 w3.drew := hself.drew
        obtain ⟨c0a, c0b, c0c, c0d⟩ := HX.out.cells
        have z0 := HX.out.le
        have HCE : Hid (∀ W, Below w3.heap.size w3 W → W.cell? ⟨w.heap.size, 0, none⟩ = some (.int .i64 t.kind) ∧ W.cell? ⟨w.heap.size, 1, none⟩ = some (.int .i64 t.num) ∧ W.cell? ⟨w.heap.size, 2, none⟩ = some (.string t.name) ∧ W.cell? ⟨w.heap.size, 3, none⟩ = some (.slice (some ⟨ga, offa, none⟩) t.args.length ca)) := Lib.hid fun W hW => by
          obtain ⟨y0a, y0b, y0c, y0d⟩ := (HX.out.read hW).cells
          exact ⟨y0a, y0b, y0c, y0d⟩
        have HTR : Hid (∀ a b, Below w3.heap.size w3 a → Below a.heap.size a b → Below w3.heap.size w3 b) := Lib.hid fun a b h1 h2 => belowOn h1 (Nat.le_refl _) h2
        have HH0 : Hid (∀ W, Below w3.heap.size w3 W → Calls Tryz.prog 62 #[.agg #[.int .i64 t.kind, .int .i64 t.num, .string t.name, .slice (some ⟨ga, offa, none⟩) t.args.length ca]] W fun e w' => e = .returned (.agg #[.int .i64 x.kind, .int .i64 x.num, .string x.name, .slice u1 x.args.length u2]) ∧ Below W.heap.size W w') := Lib.hid fun W hW => by
          obtain ⟨q0, q1, q2, q3⟩ := HPA.out.1 W hW
          exact head_any t.kind t.num t.name ga offa t.args.length ca _ _ _ _ _ _ W (Nat.lt_of_lt_of_le HGA.out hW.size) (by have := HLA.out; omega) (by have := HLA.out; omega) q0 q1 q2 q3
        have HH1 : Hid (∀ W, Below w3.heap.size w3 W → Calls Tryz.prog 63 #[.agg #[.int .i64 t.kind, .int .i64 t.num, .string t.name, .slice (some ⟨ga, offa, none⟩) t.args.length ca]] W fun e w' => e = .returned (.agg #[.int .i64 y.kind, .int .i64 y.num, .string y.name, .slice v1 y.args.length v2]) ∧ Below W.heap.size W w') := Lib.hid fun W hW => by
          obtain ⟨q0, q1, q2, q3⟩ := HPA.out.2.1 W hW
          exact tail_any t.kind t.num t.name ga offa t.args.length ca _ _ _ _ _ _ W (Nat.lt_of_lt_of_le HGA.out hW.size) (by have := HLA.out; omega) (by have := HLA.out; omega) q0 q1 q2 q3
        have HC0 : Hid (∀ W, Below w3.heap.size w3 W → Calls Tryz.prog 43 #[.map (some b), .agg #[.int .i64 x.kind, .int .i64 x.num, .string x.name, .slice u1 x.args.length u2]] W (NewTm (putT s x) W)) := Lib.hid fun W hW => HI.out b s x _ W (by have := HNX.out; have := HNE.out; omega) (HM.out.kept hW) HFT.out (HPA.out.2.2.1.kept hW) (by have := HNX.out; have := HS.out; omega) HGX.out.1
        have HC1 : Hid (∀ W, Below w3.heap.size w3 W → Calls Tryz.prog 43 #[.map (some b), .agg #[.int .i64 y.kind, .int .i64 y.num, .string y.name, .slice v1 y.args.length v2]] W (NewTm (putT s y) W)) := Lib.hid fun W hW => HI.out b s y _ W (by have := HNX.out; have := HNE.out; omega) (HM.out.kept hW) HFT.out (HPA.out.2.2.2.kept hW) (by have := HNX.out; have := HS.out; omega) HGX.out.2
        have HRB : Hid (∀ W, Below w3.heap.size w3 W → W.heap[w.heap.size + 1]? = some (Obj.cells #[.int .i64 0, .int .i64 0, .string ⟨#[]⟩, .slice none 0 0] 27)) := Lib.hid fun W hW => (HR.out.read hW).now
        have HRL : Hid (w.heap.size ≤ w.heap.size + 1 ∧ w.heap.size + 1 < w3.heap.size) := Lib.hid ⟨by omega, by have := HR.out.le; omega⟩
        have ne1 : ¬ w.heap.size = w.heap.size + 1 := by omega
        have ne2 : ¬ w.heap.size + 1 = w.heap.size := by omega
        clear HA HX HR HI HPA HM
        go_upto_region 5 with (fail)
        go_region_held3 (fun w' => w'.cell? ⟨w.heap.size, 0, none⟩ = some (.int .i64 t.kind) ∧ w'.cell? ⟨w.heap.size, 1, none⟩ = some (.int .i64 t.num) ∧ w'.cell? ⟨w.heap.size, 2, none⟩ = some (.string t.name) ∧ w'.cell? ⟨w.heap.size, 3, none⟩ = some (.slice (some ⟨ga, offa, none⟩) t.args.length ca)) (go_keep)
          (first
            | (go_at_call 62; (with_reducible refine Calls.mono (HH0.out _ ?_) ?_); (assumption); rintro e wA ⟨rfl, hbA⟩; have hA' := HTR.out _ _ (by assumption) hbA; obtain ⟨k0, k1, k2, k3⟩ := HCE.out _ hA')
            | (go_at_call 43; (with_reducible refine Calls.mono (HC0.out _ ?_) ?_); (assumption); rintro e wB ⟨u0, rfl, hn0⟩; have hB' := HTR.out _ _ (by assumption) hn0.2; obtain ⟨k0, k1, k2, k3⟩ := HCE.out _ hB'; obtain ⟨a0, c0, rfl⟩ := hn0.1.argsAt.slice; have HN0 := Lib.hid (And.intro hA' hn0); clear hn0)
            | (go_at_call 63; (with_reducible refine Calls.mono (HH1.out _ ?_) ?_); (assumption); rintro e wC ⟨rfl, hbC⟩; have hC' := HTR.out _ _ (by assumption) hbC; obtain ⟨k0, k1, k2, k3⟩ := HCE.out _ hC'; have HBC := Lib.hid hbC; clear hbC)
            | (go_at_call 43; (with_reducible refine Calls.mono (HC1.out _ ?_) ?_); (assumption); rintro e wD ⟨u9, rfl, hn1⟩; have hD' := HTR.out _ _ (by assumption) hn1.2; obtain ⟨k0, k1, k2, k3⟩ := HCE.out _ hD'; obtain ⟨a1, c1, rfl⟩ := hn1.1.argsAt.slice; have HN1 := Lib.hid hn1; clear hn1)
            | (go_at_call 61; (with_reducible refine Calls.mono (pairOf_any _ _ _ _ _ _ _ _ _ _ _ _ _) ?_); rintro e wE ⟨gE, rfl, hg1, hg2, hgh, hbE⟩; have hE' := HTR.out _ _ (by assumption) hbE; obtain ⟨k0, k1, k2, k3⟩ := HCE.out _ hE'; have HP := Lib.hid (newPair HN0.out.1 HN0.out.2 HBC.out HN1.out hg1 hg2 hgh hbE); have HRE := Lib.hid (HRB.out _ hE'); obtain ⟨r0, r1, r2, r3, rf⟩ := box_cells (HRB.out _ hE'); clear hg1 hg2 hgh hbE))
        all_goals (go_wp2_with fail; exact newTm_end' (p := 4) (b := w.heap.size + 1) (W := w3) HQV.out.1 HQV.out.2.1 HQV.out.2.2.1 rfl rfl rfl Tryz.underlying27 (by kernel_rfl) HRE.out HW.out HRL.out.1 HRL.out.2 (by rw [HQV.out.2.2.2]; exact HP.out))
      · have hd : decide (t.kind = 4) = false := decide_eq_false hk
        rw [hd]
        obtain rfl := HPN.out (by simp) hk
        clear hd hk HPP HPN HPF
        have HC := Lib.hid (copied_any (r.nodes + 1) r _ w3 (by omega) HA.out.argsAt hZ HG.out)
        obtain ⟨c0a, c0b, c0c, c0d⟩ := HX.out.cells
        have z0 := HX.out.le
        go_wp2_with fail
        refine HC.out.mono ?_
        rintro e w4 ⟨u, rfl, hn⟩
        have HRE := Lib.hid (HR.out.read hn.2).now
        obtain ⟨r0, r1, r2, r3, rf⟩ := box_cells (HR.out.read hn.2).now
        have HRL : Hid (w.heap.size ≤ w.heap.size + 1 ∧ w.heap.size + 1 < w3.heap.size) := Lib.hid ⟨by omega, by have := HR.out.le; omega⟩
        obtain ⟨a0, c0, rfl⟩ := hn.1.argsAt.slice
        have HN := Lib.hid hn
        have hl1 := hn.2.size
        have hl2 := HR.out.le
        clear hn c0a c0b c0c c0d HC
        go_wp2
        exact newTm_end (p := 4) (b := w.heap.size + 1) (W := w3) rfl rfl rfl Tryz.underlying27 (by kernel_rfl) HRE.out HW.out HRL.out.1 HRL.out.2 HN.out

/-- What applying gives, if it fits. -/
def fitT (s : List Bd) (t : Tm) : Tm := if (putT s t).nodes ≤ 5000 then putT s t else zeroTm
def fitB (s : List Bd) (t : Tm) : Bool := decide ((putT s t).nodes ≤ 5000)
theorem fit_yes {s : List Bd} {t : Tm} (h : (putT s t).nodes ≤ 5000) : fitT s t = putT s t ∧ fitB s t = true := ⟨if_pos h, decide_eq_true h⟩
theorem fit_no {s : List Bd} {t : Tm} (h : ¬ (putT s t).nodes ≤ 5000) : fitT s t = zeroTm ∧ fitB s t = false := ⟨if_neg h, decide_eq_false h⟩
theorem fitT_sz {s : List Bd} {t : Tm} (hs : FitB s) (hG : Good t) : (fitT s t).sz ≤ 1048575 ∧ Good (fitT s t) ∧ (fitT s t).nodes ≤ 5000 := by
  unfold fitT
  split
  · rename_i h
    have hg : Good (putT s t) := putT_good (fun b hb => (hs b hb).2) t.nodes t (Nat.le_refl _) hG
    have := good_sz hg
    exact ⟨by omega, hg, h⟩
  · exact ⟨by rw [zeroTm, Tm.sz, szL]; exact Nat.zero_le _, .nil, by rw [zeroTm, Tm.nodes, nodesL]; decide⟩

set_option maxRecDepth 100000 in
set_option maxHeartbeats 1000000 in
theorem apply_any (b : Nat) (s : List Bd) (t : Tm) (V : Value) (w : World) (hM : MapG w b (getO s)) (hF : FitB s) (hA : ArgsAt w V t.args) (hZ : t.sz ≤ 1048576) (hG : Good t) :
    Calls Tryz.prog 20 #[.map (some b), .agg #[.int .i64 t.kind, .int .i64 t.num, .string t.name, V]] w (NewTm2 (fitT s t) (fitB s t) w) := by
  obtain ⟨aa, ca, rfl⟩ := hA.slice
  have HX := Lib.hid (at_box_of w #[.int .i64 t.kind, .int .i64 t.num, .string t.name, .slice aa t.args.length ca] 27 w.heap.size rfl)
  have HR := Lib.hid (at_box_of (w.alloc (.cells #[.int .i64 t.kind, .int .i64 t.num, .string t.name, .slice aa t.args.length ca] 27)) #[.int .i64 0, .int .i64 0, .string ⟨#[]⟩, .slice none 0 0] 27 (w.heap.size + 1) (by simp))
  replace HX := Lib.hid (HX.out.read (belowAlloc (Below.refl _ _) (.cells #[.int .i64 0, .int .i64 0, .string ⟨#[]⟩, .slice none 0 0] 27)))
  have HW := Lib.hid (belowAlloc (belowAlloc (Below.refl w.heap.size w) (.cells #[.int .i64 t.kind, .int .i64 t.num, .string t.name, .slice aa t.args.length ca] 27)) (.cells #[.int .i64 0, .int .i64 0, .string ⟨#[]⟩, .slice none 0 0] 27))
  have HA := Lib.hid (at_args (hA.kept HW.out))
  have HM := Lib.hid (hM.kept HW.out)
  have HYES := Lib.hid (fun h => fit_yes (s := s) (t := t) h)
  have HNO := Lib.hid (fun h => fit_no (s := s) (t := t) h)
  generalize fitT s t = rt at HYES HNO ⊢
  generalize fitB s t = rb at HYES HNO ⊢
  have HROOM : Hid (∀ W, Below w.heap.size w W → ArgsAt W (.slice aa t.args.length ca) t.args → MapG W b (getO s) → Calls Tryz.prog 42 #[.map (some b), .agg #[.int .i64 t.kind, .int .i64 t.num, .string t.name, .slice aa t.args.length ca], .int .i64 5000] W fun e w' => ∃ r : Int, e = .returned (.int .i64 r) ∧ RoomP (putT s t).nodes 5000 r ∧ Below W.heap.size W w') := Lib.hid fun W hW h1 h2 =>
    roomAfter_any (t.nodes + 1) b s t _ 5000 W (Nat.lt_succ_self _) h2 hF h1 hZ hG (by omega) (by omega)
  have HAPP : Hid (∀ W, ArgsAt W (.slice aa t.args.length ca) t.args → MapG W b (getO s) → Calls Tryz.prog 43 #[.map (some b), .agg #[.int .i64 t.kind, .int .i64 t.num, .string t.name, .slice aa t.args.length ca]] W (NewTm (putT s t) W)) := Lib.hid fun W h1 h2 =>
    applied_any (t.nodes + 1) b s t _ W (Nat.lt_succ_self _) h2 hF h1 hZ hG
  clear hA hM hF hG
  generalize putT s t = q at HYES HNO HROOM HAPP
  go_enter Tryz.func20, Tryz.ntmps20
  go_upto_region 1 with (fail)
  generalize hw0 : (w.alloc (.cells #[.int .i64 t.kind, .int .i64 t.num, .string t.name, .slice aa t.args.length ca] 27)).alloc (.cells #[.int .i64 0, .int .i64 0, .string ⟨#[]⟩, .slice none 0 0] 27) = w0 at HA HX HR HW HM ⊢
  clear hw0
  have HC := Lib.hid (HROOM.out w0 HW.out HA.out.argsAt HM.out)
  obtain ⟨c0, c1, c2, c3⟩ := HX.out.cells
  have z0 := HX.out.le
  go_wp2_with fail
  refine HC.out.mono ?_
  rintro e w1 ⟨r, rfl, hr, hb⟩
  have hrb := hr.2.2.1
  have hrc := hr.2.2.2
  have HRR := Lib.hid hr
  replace HX := Lib.hid (HX.out.read hb)
  replace HR := Lib.hid (HR.out.read hb)
  replace HW := Lib.hid (belowOn HW.out (Nat.le_refl _) hb)
  replace HA := Lib.hid (HA.out.read hb)
  replace HM := Lib.hid (HM.out.kept hb)
  clear hb hr HC c0 c1 c2 c3 z0 HROOM
  have HRL : Hid (w.heap.size ≤ w.heap.size + 1 ∧ w.heap.size + 1 < w1.heap.size) := Lib.hid ⟨by omega, by have := HR.out.le; omega⟩
  by_cases hneg : r < 0
  · obtain ⟨rfl, rfl⟩ := HNO.out fun h => by have := HRR.out.1 (by omega); omega
    obtain ⟨r0, r1, r2, r3, rf⟩ := box_cells HR.out.now
    go_wp2
    exact newTm2_end (t := zeroTm) (p := 4) (q := 5) (b := w.heap.size + 1) (W := w1) rfl rfl rfl rfl rfl rfl rfl Tryz.underlying27 (by kernel_rfl) HR.out.now HW.out HRL.out.1 HRL.out.2 (zero_new (Below.refl _ _))
  · obtain ⟨rfl, rfl⟩ := HYES.out (by
      by_cases h : q.nodes ≤ 5000
      · exact h
      · have := HRR.out.2.1 (by omega); omega)
    have HC := Lib.hid (HAPP.out w1 HA.out.argsAt HM.out)
    obtain ⟨c0, c1, c2, c3⟩ := HX.out.cells
    have z0 := HX.out.le
    go_wp2_with fail
    refine HC.out.mono ?_
    rintro e w2 ⟨u, rfl, hn⟩
    have HRE := Lib.hid (HR.out.read hn.2).now
    obtain ⟨r0, r1, r2, r3, rf⟩ := box_cells (HR.out.read hn.2).now
    obtain ⟨a0, d0, rfl⟩ := hn.1.argsAt.slice
    have HN := Lib.hid hn
    clear hn c0 c1 c2 c3 z0 HC
    go_wp2
    exact newTm2_end (t := rt) (p := 4) (q := 5) (b := w.heap.size + 1) (W := w1) rfl rfl rfl rfl rfl rfl rfl Tryz.underlying27 (by kernel_rfl) HRE.out HW.out HRL.out.1 HRL.out.2 HN.out

/-- Whether the equation of two terms holds under s. -/
def solvesB (s : List Bd) (a b : Tm) : Bool := decide ((putT s a).nodes ≤ 5000 ∧ (putT s b).nodes ≤ 5000 ∧ ((putT s a).cmp (putT s b) == 0) = true)
theorem solves_true {s : List Bd} {a b : Tm} : solvesB s a b = true ↔ ((putT s a).nodes ≤ 5000 ∧ (putT s b).nodes ≤ 5000 ∧ ((putT s a).cmp (putT s b) == 0) = true) := by simp [solvesB]
theorem solves_false {s : List Bd} {a b : Tm} : solvesB s a b = false ↔ ¬ ((putT s a).nodes ≤ 5000 ∧ (putT s b).nodes ≤ 5000 ∧ ((putT s a).cmp (putT s b) == 0) = true) := by unfold solvesB; exact decide_eq_false_iff_not

set_option maxRecDepth 100000 in
set_option maxHeartbeats 2000000 in
theorem solves_any (b : Nat) (s : List Bd) (x y : Tm) (Vx Vy : Value) (w : World) (hM : MapG w b (getO s)) (hF : FitB s) (hA : ArgsAt w Vx x.args) (hB : ArgsAt w Vy y.args) (hZx : x.sz ≤ 1048576) (hZy : y.sz ≤ 1048576) (hGx : Good x) (hGy : Good y) :
    Calls Tryz.prog 28 #[.map (some b), .agg #[.int .i64 x.kind, .int .i64 x.num, .string x.name, Vx], .agg #[.int .i64 y.kind, .int .i64 y.num, .string y.name, Vy]] w fun e w' => e = .returned (.bool (solvesB s x y)) ∧ Below w.heap.size w w' := by
  obtain ⟨xa, xc, rfl⟩ := hA.slice
  obtain ⟨ya, yc, rfl⟩ := hB.slice
  have HX := Lib.hid (at_box_of w #[.int .i64 x.kind, .int .i64 x.num, .string x.name, .slice xa x.args.length xc] 27 w.heap.size rfl)
  have HY := Lib.hid (at_box_of (w.alloc (.cells #[.int .i64 x.kind, .int .i64 x.num, .string x.name, .slice xa x.args.length xc] 27)) #[.int .i64 y.kind, .int .i64 y.num, .string y.name, .slice ya y.args.length yc] 27 (w.heap.size + 1) (by simp))
  replace HX := Lib.hid (HX.out.read (belowAlloc (Below.refl _ _) (.cells #[.int .i64 y.kind, .int .i64 y.num, .string y.name, .slice ya y.args.length yc] 27)))
  have HW := Lib.hid (belowAlloc (belowAlloc (Below.refl w.heap.size w) (.cells #[.int .i64 x.kind, .int .i64 x.num, .string x.name, .slice xa x.args.length xc] 27)) (.cells #[.int .i64 y.kind, .int .i64 y.num, .string y.name, .slice ya y.args.length yc] 27))
  have HA := Lib.hid (hA.kept HW.out)
  have HB := Lib.hid (hB.kept HW.out)
  have HM := Lib.hid (hM.kept HW.out)
  have HNO := Lib.hid (fun h => (solves_false (s := s) (a := x) (b := y)).2 h)
  have HYES := Lib.hid (fun h => (solves_true (s := s) (a := x) (b := y)).2 h)
  generalize solvesB s x y = r at HNO HYES ⊢
  have HCX := Lib.hid (fun W h1 h2 => apply_any b s x (.slice xa x.args.length xc) W h2 hF h1 hZx hGx)
  have HCY := Lib.hid (fun W h1 h2 => apply_any b s y (.slice ya y.args.length yc) W h2 hF h1 hZy hGy)
  have HFX := Lib.hid (fitT_sz hF hGx)
  have HFY := Lib.hid (fitT_sz hF hGy)
  have HXY := Lib.hid (fun h => fit_yes (s := s) (t := x) h)
  have HXN := Lib.hid (fun h => fit_no (s := s) (t := x) h)
  have HYY := Lib.hid (fun h => fit_yes (s := s) (t := y) h)
  have HYN := Lib.hid (fun h => fit_no (s := s) (t := y) h)
  generalize fitT s x = fx at HCX HFX HXY HXN
  generalize fitB s x = bx at HCX HXY HXN
  generalize fitT s y = fy at HCY HFY HYY HYN
  generalize fitB s y = by' at HCY HYY HYN
  clear hA hB hM hF hGx hGy
  go_enter Tryz.func28, Tryz.ntmps28
  go_upto_region 1 with (fail)
  generalize hw0 : (w.alloc (.cells #[.int .i64 x.kind, .int .i64 x.num, .string x.name, .slice xa x.args.length xc] 27)).alloc (.cells #[.int .i64 y.kind, .int .i64 y.num, .string y.name, .slice ya y.args.length yc] 27) = w0 at HX HY HW HA HB HM ⊢
  clear hw0
  have HC := Lib.hid (HCX.out w0 HA.out HM.out)
  obtain ⟨c0, c1, c2, c3⟩ := HX.out.cells
  have z0 := HX.out.le
  go_wp2_with fail
  refine HC.out.mono ?_
  rintro e w1 ⟨u, rfl, hn⟩
  obtain ⟨ua, uc, rfl⟩ := hn.1.argsAt.slice
  have hb := belowAlloc hn.2 (.cells #[.int .i64 fx.kind, .int .i64 fx.num, .string fx.name, .slice ua fx.args.length uc] 27)
  have HU := Lib.hid (at_args (hn.1.argsAt.kept (belowAlloc (Below.refl _ _) (.cells #[.int .i64 fx.kind, .int .i64 fx.num, .string fx.name, .slice ua fx.args.length uc] 27))))
  have HUB := Lib.hid (at_box_of w1 #[.int .i64 fx.kind, .int .i64 fx.num, .string fx.name, .slice ua fx.args.length uc] 27 w1.heap.size rfl)
  replace HY := Lib.hid (HY.out.read hb)
  replace HW := Lib.hid (belowOn HW.out (Nat.le_refl _) hb)
  replace HB := Lib.hid (HB.out.kept hb)
  replace HM := Lib.hid (HM.out.kept hb)
  clear hb hn HC c0 c1 c2 c3 z0 HX HA HCX
  go_upto_region 2 with (fail)
  generalize hw1 : w1.alloc (.cells #[.int .i64 fx.kind, .int .i64 fx.num, .string fx.name, .slice ua fx.args.length uc] 27) = w2 at HY HW HB HM HU HUB ⊢
  clear hw1
  generalize w1.heap.size = n1 at HUB ⊢
  have HC := Lib.hid (HCY.out w2 HB.out HM.out)
  obtain ⟨c0, c1, c2, c3⟩ := HY.out.cells
  have z0 := HY.out.le
  go_wp2_with fail
  refine HC.out.mono ?_
  rintro e w3 ⟨v, rfl, hn⟩
  obtain ⟨va, vc, rfl⟩ := hn.1.argsAt.slice
  have hb := belowAlloc hn.2 (.cells #[.int .i64 fy.kind, .int .i64 fy.num, .string fy.name, .slice va fy.args.length vc] 27)
  have HV := Lib.hid (at_args (hn.1.argsAt.kept (belowAlloc (Below.refl _ _) (.cells #[.int .i64 fy.kind, .int .i64 fy.num, .string fy.name, .slice va fy.args.length vc] 27))))
  have HVB := Lib.hid (at_box_of w3 #[.int .i64 fy.kind, .int .i64 fy.num, .string fy.name, .slice va fy.args.length vc] 27 w3.heap.size rfl)
  replace HU := Lib.hid (HU.out.read hb)
  replace HUB := Lib.hid (HUB.out.read hb)
  replace HW := Lib.hid (belowOn HW.out (Nat.le_refl _) hb)
  clear hb hn HC c0 c1 c2 c3 z0 HY HB HM HCY
  go_upto_region 3 with (fail)
  generalize hw1 : w3.alloc (.cells #[.int .i64 fy.kind, .int .i64 fy.num, .string fy.name, .slice va fy.args.length vc] 27) = w4 at HW HU HUB HV HVB ⊢
  clear hw1
  generalize w3.heap.size = n2 at HVB ⊢
  by_cases hx : (putT s x).nodes ≤ 5000
  · obtain ⟨rfl, rfl⟩ := HXY.out hx
    by_cases hy : (putT s y).nodes ≤ 5000
    · obtain ⟨rfl, rfl⟩ := HYY.out hy
      have HC := Lib.hid (compare_any ((putT s x).nodes + 1) (putT s x) (putT s y) _ _ w4 (Nat.lt_succ_self _) HU.out.argsAt HV.out.argsAt (by have := HFX.out.1; omega) (by have := HFY.out.1; omega) HFX.out.2.1 HFY.out.2.1)
      have HR : Hid (((putT s x).cmp (putT s y) == 0) = r) := Lib.hid (by
        cases h : ((putT s x).cmp (putT s y) == 0) with
        | true => rw [HYES.out ⟨hx, hy, h⟩]
        | false => rw [HNO.out fun h2 => by rw [h] at h2; cases h2.2.2])
      clear hx hy HXY HXN HYY HYN HYES HNO HFX HFY
      generalize putT s x = px at HC HR HU HUB ⊢
      generalize putT s y = py at HC HR HV HVB ⊢
      obtain ⟨a0, a1, a2, a3⟩ := HUB.out.cells
      have y0 := HUB.out.le
      obtain ⟨b0, b1, b2, b3⟩ := HVB.out.cells
      have y1 := HVB.out.le
      go_wp2_with fail
      refine HC.out.mono ?_
      rintro e w5 ⟨rfl, hb⟩
      have HW5 := Lib.hid (belowOn HW.out (Nat.le_refl _) hb)
      clear hb HC a0 a1 a2 a3 b0 b1 b2 b3 y0 y1
      go_wp2
      go_ret
      exact ⟨by rw [← HR.out]; rfl, HW5.out⟩
    · obtain ⟨rfl, rfl⟩ := HYN.out hy
      obtain rfl := HNO.out fun h => hy h.2.1
      clear hx hy
      go_wp2
      go_ret
      exact ⟨rfl, HW.out⟩
  · obtain ⟨rfl, rfl⟩ := HXN.out hx
    obtain rfl := HNO.out fun h => hx h.1
    clear hx
    go_wp2
    go_ret
    exact ⟨rfl, HW.out⟩
end Go.Proofs.YtjmmeccfjanpcaaGreatDoor

namespace Go.Proofs.YtjmmeccfjanpcaaGreatDoor
open Go.RowKit
set_option linter.unusedVariables false
set_option linter.unusedSimpArgs false

theorem fineB.wf {s : List Bd} (h : fineB s) : ∀ b ∈ s, wfI b.v := fun b hb => (h b hb).2
theorem implSubstOk_any (s : List Bd) (V : Value) (w : World) (hA : ListS bdE w Any V s) (hZ : szB s ≤ 1048576) (hF : fineB s) :
    Calls Tryz.prog 9 #[V] w fun e w' => e = .returned (.bool (substB s)) ∧ Below w.heap.size w w' := implSubstOk_e s V w hA (eachB_of hZ) hF.wf

theorem ap_fit {s : List Bd} {t : Tm} (hs : SubstP s) (ht : Ok t) : apT s t = fitT s t ∧ apB s t = fitB s t := by
  by_cases h : (putT s t).nodes ≤ 5000
  · obtain ⟨a1, a2⟩ := ap_yes ⟨hs, ht, h⟩
    obtain ⟨b1, b2⟩ := fit_yes (s := s) (t := t) h
    exact ⟨by rw [a1, b1], by rw [a2, b2]⟩
  · obtain ⟨a1, a2⟩ := ap_no (s := s) (t := t) fun hh => h hh.2.2
    obtain ⟨b1, b2⟩ := fit_no (s := s) (t := t) h
    exact ⟨by rw [a1, b1], by rw [a2, b2]⟩

set_option maxRecDepth 100000 in
set_option maxHeartbeats 2000000 in
theorem implApplySubst_any (s : List Bd) (Vs : Value) (t : Tm) (V : Value) (w : World) (hA : ListS bdE w Any Vs s) (hZs : szB s ≤ 1048576) (hF : fineB s) (hT : ArgsAt w V t.args) (hZ : t.sz ≤ 1048576) :
    Calls Tryz.prog 8 #[Vs, .agg #[.int .i64 t.kind, .int .i64 t.num, .string t.name, V]] w (NewTm2 (apT s t) (apB s t) w) := by
  obtain ⟨sa, sc, rfl⟩ := hA.slice
  obtain ⟨aa, ca, rfl⟩ := hT.slice
  have HX := Lib.hid (at_box_of w #[.int .i64 t.kind, .int .i64 t.num, .string t.name, .slice aa t.args.length ca] 27 w.heap.size rfl)
  have HR := Lib.hid (at_box_of (w.alloc (.cells #[.int .i64 t.kind, .int .i64 t.num, .string t.name, .slice aa t.args.length ca] 27)) #[.int .i64 0, .int .i64 0, .string ⟨#[]⟩, .slice none 0 0] 27 (w.heap.size + 1) (by simp))
  replace HX := Lib.hid (HX.out.read (belowAlloc (Below.refl _ _) (.cells #[.int .i64 0, .int .i64 0, .string ⟨#[]⟩, .slice none 0 0] 27)))
  have HW := Lib.hid (belowAlloc (belowAlloc (Below.refl w.heap.size w) (.cells #[.int .i64 t.kind, .int .i64 t.num, .string t.name, .slice aa t.args.length ca] 27)) (.cells #[.int .i64 0, .int .i64 0, .string ⟨#[]⟩, .slice none 0 0] 27))
  have HA := Lib.hid (hA.kept HW.out)
  have HT := Lib.hid (at_args (hT.kept HW.out))
  have HNO := Lib.hid (fun (h : ¬ (SubstP s ∧ Ok t)) => ap_no (s := s) (t := t) fun hh => h ⟨hh.1, hh.2.1⟩)
  have HYES := Lib.hid (fun h1 h2 => ap_fit (s := s) (t := t) h1 h2)
  generalize apT s t = rt at HYES HNO ⊢
  generalize apB s t = rb at HYES HNO ⊢
  have HE := Lib.hid (eachB_of hZs)
  have HF := Lib.hid hF.wf
  clear hA hF hT
  go_enter Tryz.func8, Tryz.ntmps8
  go_upto_region 1 with (fail)
  generalize hw0 : (w.alloc (.cells #[.int .i64 t.kind, .int .i64 t.num, .string t.name, .slice aa t.args.length ca] 27)).alloc (.cells #[.int .i64 0, .int .i64 0, .string ⟨#[]⟩, .slice none 0 0] 27) = w0 at HX HR HW HA HT ⊢
  clear hw0
  have HC := Lib.hid (implSubstOk_e s _ w0 HA.out HE.out HF.out)
  go_wp2_with fail
  refine HC.out.mono ?_
  rintro e w1 ⟨rfl, hb⟩
  replace HX := Lib.hid (HX.out.read hb)
  replace HR := Lib.hid (HR.out.read hb)
  replace HW := Lib.hid (belowOn HW.out (Nat.le_refl _) hb)
  replace HA := Lib.hid (HA.out.kept hb)
  replace HT := Lib.hid (HT.out.read hb)
  clear hb HC
  have HRL : Hid (w.heap.size ≤ w.heap.size + 1 ∧ w.heap.size + 1 < w1.heap.size) := Lib.hid ⟨by omega, by have := HR.out.le; omega⟩
  cases hs : substB s with
  | false =>
    obtain ⟨rfl, rfl⟩ := HNO.out fun h => substB_false.1 hs h.1
    clear hs
    obtain ⟨r0, r1, r2, r3, rf⟩ := box_cells HR.out.now
    go_wp2
    exact newTm2_end (t := zeroTm) (p := 4) (q := 5) (b := w.heap.size + 1) (W := w1) rfl rfl rfl rfl rfl rfl rfl Tryz.underlying27 (by kernel_rfl) HR.out.now HW.out HRL.out.1 HRL.out.2 (zero_new (Below.refl _ _))
  | true =>
  have HS := Lib.hid (substB_true.1 hs)
  clear hs
  have HC := Lib.hid (implTermOk_any t _ w1 HT.out.argsAt hZ)
  obtain ⟨c0, c1, c2, c3⟩ := HX.out.cells
  have z0 := HX.out.le
  go_wp2_with fail
  refine HC.out.mono ?_
  rintro e w2 ⟨rfl, hb⟩
  replace HX := Lib.hid (HX.out.read hb)
  replace HR := Lib.hid (HR.out.read hb)
  replace HW := Lib.hid (belowOn HW.out (Nat.le_refl _) hb)
  replace HA := Lib.hid (HA.out.kept hb)
  replace HT := Lib.hid (HT.out.read hb)
  clear hb HC c0 c1 c2 c3 z0 HRL
  have HRL : Hid (w.heap.size ≤ w.heap.size + 1 ∧ w.heap.size + 1 < w2.heap.size) := Lib.hid ⟨by omega, by have := HR.out.le; omega⟩
  cases hok : okB t with
  | false =>
    obtain ⟨rfl, rfl⟩ := HNO.out fun h => okB_false.1 hok h.2
    clear hok
    obtain ⟨r0, r1, r2, r3, rf⟩ := box_cells HR.out.now
    go_wp2
    exact newTm2_end (t := zeroTm) (p := 4) (q := 5) (b := w.heap.size + 1) (W := w2) rfl rfl rfl rfl rfl rfl rfl Tryz.underlying27 (by kernel_rfl) HR.out.now HW.out HRL.out.1 HRL.out.2 (zero_new (Below.refl _ _))
  | true =>
    have HOK := Lib.hid (okB_true.1 hok)
    clear hok
    have HEQ := Lib.hid (HYES.out HS.out HOK.out)
    clear HYES HNO
    have hself : Below w2.heap.size w2 w2 := Below.refl _ _
    have hdrew : Below w2.heap.size w2 w2.drew := hself.drew
    have HCE : Hid (∀ W, Below w2.heap.size w2 W → W.cell? ⟨w.heap.size, 0, none⟩ = some (.int .i64 t.kind) ∧ W.cell? ⟨w.heap.size, 1, none⟩ = some (.int .i64 t.num) ∧ W.cell? ⟨w.heap.size, 2, none⟩ = some (.string t.name) ∧ W.cell? ⟨w.heap.size, 3, none⟩ = some (.slice aa t.args.length ca)) := Lib.hid fun W hW => by
      obtain ⟨y0a, y0b, y0c, y0d⟩ := (HX.out.read hW).cells
      exact ⟨y0a, y0b, y0c, y0d⟩
    obtain ⟨c0a, c0b, c0c, c0d⟩ := HCE.out w2 hself
    have HMO : Hid (∀ W, Below w2.heap.size w2 W → Calls Tryz.prog 19 #[.slice sa s.length sc] W fun e w' => ∃ b, e = .returned (.map (some b)) ∧ MapG w' b (getO s) ∧ Below W.heap.size W w') := Lib.hid fun W hW => (mapOf_any s _ W (HA.out.kept hW) HE.out.1 HF.out).mono fun e w' ⟨b, he, _, hm, hb⟩ => ⟨b, he, hm.same (lastO_subst HS.out), hb⟩
    have HAP : Hid (∀ W b, Below w2.heap.size w2 W → MapG W b (getO s) → Calls Tryz.prog 20 #[.map (some b), .agg #[.int .i64 t.kind, .int .i64 t.num, .string t.name, .slice aa t.args.length ca]] W (NewTm2 rt rb W)) := Lib.hid fun W b hW hm => by
      rw [HEQ.out.1, HEQ.out.2]
      exact apply_any b s t _ W hm HS.out.fits (HT.out.read hW).argsAt hZ HOK.out.2
    have HTR : Hid (∀ a b, Below w2.heap.size w2 a → Below a.heap.size a b → Below w2.heap.size w2 b) := Lib.hid fun a b h1 h2 => belowOn h1 (Nat.le_refl _) h2
    have HRB : Hid (∀ W, Below w2.heap.size w2 W → W.heap[w.heap.size + 1]? = some (Obj.cells #[.int .i64 0, .int .i64 0, .string ⟨#[]⟩, .slice none 0 0] 27)) := Lib.hid fun W hW => (HR.out.read hW).now
    have ne1 : ¬ w.heap.size = w.heap.size + 1 := by omega
    have ne2 : ¬ w.heap.size + 1 = w.heap.size := by omega
    clear HX HR HA HT
    go_upto_region 3 with (fail)
    go_region_held3 (fun w' => w'.cell? ⟨w.heap.size, 0, none⟩ = some (.int .i64 t.kind) ∧ w'.cell? ⟨w.heap.size, 1, none⟩ = some (.int .i64 t.num) ∧ w'.cell? ⟨w.heap.size, 2, none⟩ = some (.string t.name) ∧ w'.cell? ⟨w.heap.size, 3, none⟩ = some (.slice aa t.args.length ca)) (go_keep)
      (first
        | (go_at_call 19; (with_reducible refine Calls.mono (HMO.out _ ?_) ?_); (assumption); rintro e wA ⟨mb, rfl, hmA, hbA⟩; have hA' := HTR.out _ _ (by assumption) hbA; obtain ⟨k0, k1, k2, k3⟩ := HCE.out _ hA'; have HMA := Lib.hid hmA; clear hmA)
        | (go_at_call 20; (with_reducible refine Calls.mono (HAP.out _ _ ?_ HMA.out) ?_); (assumption); rintro e wB ⟨u, rfl, hn⟩; have hB' := HTR.out _ _ (by assumption) hn.2; have HAB := Lib.hid hA'; obtain ⟨k0, k1, k2, k3⟩ := HCE.out _ hB'; obtain ⟨ua, uc, rfl⟩ := hn.1.argsAt.slice; have HN := Lib.hid hn; have HRE := Lib.hid (HRB.out _ hB'); obtain ⟨r0, r1, r2, r3, rf⟩ := box_cells (HRB.out _ hB'); clear hn))
    all_goals
      go_wp2_with fail
      exact newTm2_end (t := rt) (p := 4) (q := 5) (b := w.heap.size + 1) rfl rfl rfl rfl rfl rfl rfl Tryz.underlying27 (by kernel_rfl) HRE.out (belowOn HW.out (Nat.le_refl _) HAB.out) HRL.out.1 (Nat.lt_of_lt_of_le HRL.out.2 HAB.out.size) HN.out

theorem more_solves {t : List Bd} {b : Bd} : EqnP t b ↔ solvesB t (varTm b.v) b.t = true := by rw [solves_true]; rfl

set_option maxRecDepth 100000 in
set_option maxHeartbeats 4000000 in
theorem implMoreGeneral_any (s : List Bd) (Vs : Value) (t : List Bd) (Vt : Value) (w : World) (hA : ListS bdE w Any Vs s) (hZs : szB s ≤ 1048576) (hFs : fineB s) (hT : ListS bdE w Any Vt t) (hZt : szB t ≤ 1048576) (hFt : fineB t) :
    Calls Tryz.prog 10 #[Vs, Vt] w fun e w' => e = .returned (.bool (moreB s t)) ∧ Below w.heap.size w w' := by
  obtain ⟨a, cap, rfl⟩ := hA.slice
  obtain ⟨ta, tc, rfl⟩ := hT.slice
  have HE := Lib.hid (eachB_of hZs)
  have HEt := Lib.hid (eachB_of hZt)
  have hL : s.length ≤ 1048576 := HE.out.1
  have HF := Lib.hid hFs.wf
  have HFt := Lib.hid hFt.wf
  have HA := Lib.hid hA
  have HT := Lib.hid hT
  have HNO := Lib.hid (fun (h : ¬ MoreP s t) => more_false.2 h)
  have HYES := Lib.hid (fun (h : MoreP s t) => more_true.2 h)
  generalize moreB s t = r at HYES HNO ⊢
  have HC := Lib.hid (implSubstOk_e s _ w hA HE.out HF.out)
  clear hA hT hFs hFt
  go_enter Tryz.func10, Tryz.ntmps10
  go_wp2_with fail
  refine HC.out.mono ?_
  rintro e w0 ⟨rfl, hb⟩
  have HW := Lib.hid hb
  clear hb HC
  cases hs : substB s with
  | false =>
    obtain rfl := HNO.out fun h => substB_false.1 hs h.1
    clear hs
    go_wp2
    go_ret
    exact ⟨rfl, HW.out⟩
  | true =>
  have HSP := Lib.hid (substB_true.1 hs)
  have HC := Lib.hid (implSubstOk_e t _ w0 (HT.out.kept HW.out) HEt.out HFt.out)
  clear hs
  go_wp2_with fail
  refine HC.out.mono ?_
  rintro e w1 ⟨rfl, hb⟩
  have HW1 := Lib.hid (belowOn HW.out (Nat.le_refl _) hb)
  clear hb HC HW
  cases ht : substB t with
  | false =>
    obtain rfl := HNO.out fun h => substB_false.1 ht h.2.1
    clear ht
    go_wp2
    go_ret
    exact ⟨rfl, HW1.out⟩
  | true =>
  have HTP := Lib.hid (substB_true.1 ht)
  have HC := Lib.hid (mapOf_any t _ w1 (HT.out.kept HW1.out) HEt.out.1 HFt.out)
  clear ht
  go_wp2_with fail
  refine HC.out.mono ?_
  rintro e w2 ⟨mb, rfl, hmb, hm, hb⟩
  have HM := Lib.hid (hm.same (lastO_subst HTP.out))
  have HW2 := Lib.hid (belowOn HW1.out (Nat.le_refl _) hb)
  clear hb HC HW1 hmb hm
  go_wp2
  go_loopw [20] (fun iv wr => ∃ k : Nat, k ≤ s.length ∧ iv = .int .i64 k ∧ Hid (∀ (i : Nat) (b : Bd), i < k → s[i]? = some b → EqnP t b) ∧ Hid (Below w2.heap.size w2 wr)) (fun iv _ => s.length - (intOf iv).toNat)
  case atStart => exact ⟨0, Nat.zero_le _, rfl, Lib.hid (fun i b hi => absurd hi (Nat.not_lt_zero _)), Lib.hid (Below.refl _ _)⟩
  case round =>
    obtain ⟨k, hk, rfl, HN, HB⟩ := hrel
    by_cases hlt : k < s.length
    · have hltI : (k : Int) < (s.length : Int) := by omega
      obtain ⟨x, hx⟩ : ∃ x, s[k]? = some x := ⟨_, List.getElem?_eq_getElem hlt⟩
      obtain ⟨g, off, u1, u2, rfl, hg, hq, hc, hu⟩ := HA.out.bd hx
      obtain ⟨d0, d1, d2, d3, d4⟩ := hc wr (belowOn HW2.out (Nat.le_refl _) HB.out)
      have HX := Lib.hid hx
      have HXO := Lib.hid (HSP.out.1.1 k x hx)
      have HU := Lib.hid (at_args (hu.at.kept (belowOn HW2.out (Nat.le_refl _) HB.out)))
      have hxz : x.t.sz ≤ 1048576 := by have := HE.out.2 x (List.mem_of_getElem? hx); omega
      clear hq hc hu hx
      go_upto_region 7 with (fail)
      have hal : Below wr.heap.size wr (wr.alloc (.cells #[.int .i64 x.v, .int .i64 x.t.kind, .int .i64 x.t.num, .string x.t.name, .slice u1 x.t.args.length u2] 47)) := belowAlloc (Below.refl _ _) _
      have HBX := Lib.hid (at_box_of wr #[.int .i64 x.v, .int .i64 x.t.kind, .int .i64 x.t.num, .string x.t.name, .slice u1 x.t.args.length u2] 47 wr.heap.size rfl)
      have HB1 := Lib.hid (belowOn HB.out (Nat.le_refl _) hal)
      have HU1 := Lib.hid (HU.out.read hal)
      have HM1 := Lib.hid ((HM.out.kept HB.out).kept hal)
      clear hal d0 d1 d2 d3 d4 HB HU
      generalize hw1 : wr.alloc (.cells #[.int .i64 x.v, .int .i64 x.t.kind, .int .i64 x.t.num, .string x.t.name, .slice u1 x.t.args.length u2] 47) = w3 at HBX HB1 HU1 HM1 ⊢
      clear hw1
      generalize wr.heap.size = nb at HBX ⊢
      have hself : Below w3.heap.size w3 w3 := Below.refl _ _
      have hdrew : Below w3.heap.size w3 w3.drew := hself.drew
      have HCE : Hid (∀ W, Below w3.heap.size w3 W → W.cell? ⟨nb, 0, none⟩ = some (.int .i64 x.v) ∧ W.cell? ⟨nb, 1, none⟩ = some (.int .i64 x.t.kind) ∧ W.cell? ⟨nb, 2, none⟩ = some (.int .i64 x.t.num) ∧ W.cell? ⟨nb, 3, none⟩ = some (.string x.t.name) ∧ W.cell? ⟨nb, 4, none⟩ = some (.slice u1 x.t.args.length u2)) := Lib.hid fun W hW => by
        obtain ⟨y0, y1, y2, y3, y4, _⟩ := box_cells5 (HBX.out.read hW).now
        exact ⟨y0, y1, y2, y3, y4⟩
      obtain ⟨e0, e1, e2, e3, e4⟩ := HCE.out w3 hself
      have HTR : Hid (∀ a b, Below w3.heap.size w3 a → Below a.heap.size a b → Below w3.heap.size w3 b) := Lib.hid fun a b h1 h2 => belowOn h1 (Nat.le_refl _) h2
      have HVA : Hid (∀ W, Below w3.heap.size w3 W → Calls Tryz.prog 29 #[.agg #[.int .i64 x.v, .int .i64 x.t.kind, .int .i64 x.t.num, .string x.t.name, .slice u1 x.t.args.length u2]] W fun e w' => e = .returned (.agg #[.int .i64 1, .int .i64 x.v, .string ⟨#[]⟩, .slice none 0 0]) ∧ Below W.heap.size W w') := Lib.hid fun W hW => variable_any x _ W (HU1.out.read hW).argsAt
      have HSO : Hid (∀ W, Below w3.heap.size w3 W → Calls Tryz.prog 28 #[.map (some mb), .agg #[.int .i64 1, .int .i64 x.v, .string ⟨#[]⟩, .slice none 0 0], .agg #[.int .i64 x.t.kind, .int .i64 x.t.num, .string x.t.name, .slice u1 x.t.args.length u2]] W fun e w' => e = .returned (.bool (solvesB t (varTm x.v) x.t)) ∧ Below W.heap.size W w') := Lib.hid fun W hW =>
        solves_any mb t (varTm x.v) x.t (.slice none 0 0) _ W (HM1.out.kept hW) HTP.out.fits (.nil _ _) (HU1.out.read hW).argsAt (by show ByteArray.size ⟨#[]⟩ + szL [] ≤ 1048576; decide) hxz (varTm_ok HXO.out.1).2 HXO.out.2.2
      have HEND : Hid (∀ W, Below w3.heap.size w3 W → Below w.heap.size w W ∧ Below w2.heap.size w2 W) := Lib.hid fun W hW => ⟨belowOn HW2.out (Nat.le_refl _) (belowOn HB1.out (Nat.le_refl _) hW), belowOn HB1.out (Nat.le_refl _) hW⟩
      have HSV := Lib.hid (more_solves (t := t) (b := x))
      generalize solvesB t (varTm x.v) x.t = q at HSO HSV
      clear HBX HU1 HM1
      go_region_held3 (fun w' => w'.cell? ⟨nb, 0, none⟩ = some (.int .i64 x.v) ∧ w'.cell? ⟨nb, 1, none⟩ = some (.int .i64 x.t.kind) ∧ w'.cell? ⟨nb, 2, none⟩ = some (.int .i64 x.t.num) ∧ w'.cell? ⟨nb, 3, none⟩ = some (.string x.t.name) ∧ w'.cell? ⟨nb, 4, none⟩ = some (.slice u1 x.t.args.length u2)) (go_keep)
        (first
          | (go_at_call 29; (with_reducible refine Calls.mono (HVA.out _ ?_) ?_); (assumption); rintro e wA ⟨rfl, hbA⟩; have hA' := HTR.out _ _ (by assumption) hbA; obtain ⟨k0, k1, k2, k3, k4⟩ := HCE.out _ hA')
          | (go_at_call 28; (with_reducible refine Calls.mono (HSO.out _ ?_) ?_); (assumption); rintro e wB ⟨rfl, hbB⟩; have hB' := HTR.out _ _ (by assumption) hbB; obtain ⟨k0, k1, k2, k3, k4⟩ := HCE.out _ hB'; have HWB := Lib.hid (HEND.out _ hB')))
      all_goals
        cases q with
        | false =>
          obtain rfl := HNO.out fun h => by have := HSV.out.1 (h.2.2 x (List.mem_of_getElem? HX.out)); cases this
          go_wp2
          go_ret
          exact ⟨rfl, HWB.out.1⟩
        | true =>
          have HEQ := Lib.hid (HSV.out.2 rfl)
          go_wp2
          go_roundw
          case rel =>
            refine ⟨k + 1, by omega, by go_num, Lib.hid fun i y hi hy => ?_, Lib.hid HWB.out.2⟩
            by_cases q : i = k
            · subst q
              cases hy.symm.trans HX.out
              exact HEQ.out
            · exact HN.out i y (by omega) hy
          case measure => simp [intOf]; omega
    · obtain rfl : k = s.length := by omega
      obtain rfl := HYES.out ⟨HSP.out, HTP.out, fun b hb => by
        obtain ⟨i, hi⟩ := List.getElem?_of_mem hb
        exact HN.out i b (List.getElem?_eq_some_iff.1 hi).1 hi⟩
      go_wp2
      go_ret
      exact ⟨rfl, belowOn HW2.out (Nat.le_refl _) HB.out⟩
end Go.Proofs.YtjmmeccfjanpcaaGreatDoor

namespace Go.Proofs.YtjmmeccfjanpcaaGreatDoor
open Go.RowKit
set_option linter.unusedVariables false
set_option linter.unusedSimpArgs false

/-- What has come out of a map, what is left aside. -/
structure Got (f : Ent) (left : Int → Bool) (l : List Bd) : Prop where
  come : ∀ b ∈ l, (∃ U, f b.v = some (b.t, U)) ∧ left b.v = false
  once : l.Pairwise fun a b => ¬ a.v = b.v
  all : ∀ v, (f v).isSome = true → left v = false → ∃ b ∈ l, b.v = v
theorem got_start (f : Ent) : Got f (fun v => (f v).isSome) [] := ⟨fun b hb => by simp at hb, List.Pairwise.nil, fun v h1 h2 => by rw [h1] at h2; cases h2⟩
theorem Got.step {f : Ent} {left : Int → Bool} {l : List Bd} (h : Got f left l) {v : Int} {t : Tm} {U : Value} (hl : left v = true) (hf : f v = some (t, U)) : Got f (fun x => left x && !decide (x = v)) (l ++ [⟨v, t⟩]) := by
  refine ⟨fun b hb => ?_, ?_, fun x hx hlx => ?_⟩
  · rcases List.mem_append.1 hb with hb | hb
    · obtain ⟨h1, h2⟩ := h.come b hb
      exact ⟨h1, by rw [h2]; rfl⟩
    · simp at hb
      subst hb
      exact ⟨⟨U, hf⟩, by simp⟩
  · rw [List.pairwise_append]
    refine ⟨h.once, List.pairwise_singleton _ _, fun a ha b hb => ?_⟩
    simp at hb
    subst hb
    intro e
    have e' : a.v = v := e
    have := (h.come a ha).2
    rw [e', hl] at this
    cases this
  · by_cases e : x = v
    · subst e
      exact ⟨⟨x, t⟩, by simp, rfl⟩
    · have : left x = false := by simpa [e] using hlx
      obtain ⟨b, hb, hbv⟩ := h.all x hx this
      exact ⟨b, by simp [hb], hbv⟩
/-- All of a map, once each. -/
structure BindsOf (f : Ent) (l : List Bd) : Prop where
  come : ∀ b ∈ l, ∃ U, f b.v = some (b.t, U)
  once : l.Pairwise fun a b => ¬ a.v = b.v
  all : ∀ v, (f v).isSome = true → ∃ b ∈ l, b.v = v
theorem Got.fin {f : Ent} {left : Int → Bool} {l : List Bd} (h : Got f left l) (hl : ∀ v, left v = false) : BindsOf f l := ⟨fun b hb => (h.come b hb).1, h.once, fun v hv => h.all v hv (hl v)⟩

theorem heap_next {w w' : World} {r lo : Nat} (hg : w.grownBy w' (some r)) (hr : r < lo) : ∀ k, lo ≤ k → k < w.heap.size → w'.heap[k]? = w.heap[k]? := fun k h1 h2 => hg.block k h2 (fun e => by cases e; omega)

set_option maxRecDepth 100000 in
set_option maxHeartbeats 4000000 in
theorem bindings_any (b n : Nat) (f : Ent) (w : World) (hM : MapF w b n f) (hA : ∀ v p, f v = some p → ArgsAt w p.2 p.1.args ∧ p.1.sz ≤ 1048576 ∧ Good p.1) (hn : n ≤ 1048576) :
    Calls Tryz.prog 21 #[.map (some b)] w fun e w' => ∃ V l, e = .returned V ∧ ListO bdE 47 w' (iv w.heap.size w'.heap.size) V l ∧ (l = [] → V = .slice none 0 0) ∧ BindsOf f l ∧ l.length ≤ n ∧ Below w.heap.size w w' := by
  obtain ⟨i0, hi, hz0, hz1, hz2⟩ := info_parts infoBinding
  have HII := Lib.hid (And.intro hi (And.intro hz0 (And.intro hz1 hz2)))
  have HM := Lib.hid hM
  have HA := Lib.hid hA
  clear hi hz0 hz1 hz2 hM hA
  go_enter Tryz.func21, Tryz.ntmps21
  go_wp2_with (at_range; refine wpList_rangeF _ rfl _ rfl b n f rfl HM.out ?_; intro w0 cnt0 hc0 hrg0 hb0 hs0)
  have HR0 := Lib.hid hrg0
  have HB0 := Lib.hid hb0
  have HS0 := Lib.hid hs0
  have HG0 := Lib.hid (got_start f)
  clear hrg0 hb0 hs0
  go_frame
  go_loopw [3] (fun lv wr => ∃ (left : Int → Bool) (cnt : Nat) (l : List Bd), Hid (RanF wr b w.heap.size n f left cnt) ∧ Hid (ListO bdE 47 wr (iv (w.heap.size + 1) wr.heap.size) lv l) ∧ Hid (Got f left l) ∧ Hid (l = [] → lv = .slice none 0 0) ∧ l.length + cnt ≤ n ∧ Hid (Below w.heap.size w wr) ∧ Hid (w.heap.size + 1 ≤ wr.heap.size)) (fun _ wr => wr.rangeLeft b w.heap.size)
  case atStart => exact ⟨_, cnt0, [], HR0, Lib.hid .nil, HG0, Lib.hid (fun _ => rfl), by simpa using hc0, HB0, Lib.hid (by rw [HS0.out]; exact Nat.le_refl _)⟩
  case round =>
    obtain ⟨left, cnt, l, HR, HO, HG, HNI, hlc, HB, HSZ⟩ := hrel
    obtain ⟨oa, oc, rfl⟩ := HO.out.slice
    clear HR0 HB0 HS0 HG0 hc0
    have hrl := HR.out.left_eq
    have HRL := Lib.hid hrl
    clear hrl
    go_wp2_with (at_next; refine wpList_nextF _ rfl _ rfl b w.heap.size n cnt f left rfl HR.out ?_ ?_)
    · intro hc1 hl0
      have HF := Lib.hid (HG.out.fin hl0)
      clear hl0
      go_wp2
      go_ret
      exact ⟨_, l, rfl, HO.out.sub fun k hk => ⟨by have := hk.1; omega, hk.2⟩, HNI.out, HF.out, by omega, HB.out⟩
    · intro v t U w1 cnt1 hwf hlv hfv hrg hlt hgr hsz hen
      obtain ⟨hat, htz, htg⟩ := HA.out v (t, U) hfv
      obtain ⟨ua, uc, rfl⟩ := (show ArgsAt w U t.args from hat).slice
      have HB1 : Hid (Below w.heap.size w w1) := Lib.hid (HB.out.trans (below_of_grown hgr HB.out.size (fun j hj => by cases hj; exact Nat.le_refl _)))
      have HAT := Lib.hid (show ArgsAt w1 (.slice ua t.args.length uc) t.args from hat.kept HB1.out)
      have HTG := Lib.hid (show Good t from htg)
      have htz' : t.sz ≤ 1048576 := htz
      have HRN := Lib.hid hrg
      have HGN := Lib.hid (HG.out.step hlv hfv)
      have HON : Hid (ListO bdE 47 w1 (iv (w.heap.size + 1) w1.heap.size) (.slice oa l.length oc) l) := Lib.hid ((HO.out.frame fun k hk hks => hgr.block k hks (fun e => by cases e; have := hk.1; omega)).sub fun k hk => ⟨hk.1, by rw [hsz]; exact hk.2⟩)
      have HSZ1 : Hid (w.heap.size + 1 ≤ w1.heap.size) := Lib.hid (by rw [hsz]; exact HSZ.out)
      clear hrg hgr hat htz htg hfv hlv hwf hsz HR HO HG HB HSZ
      go_upto_region 5 with (fail)
      have hal : Below w1.heap.size w1 (w1.alloc (.cells #[.int .i64 t.kind, .int .i64 t.num, .string t.name, .slice ua t.args.length uc] 27)) := belowAlloc (Below.refl _ _) _
      have HBX := Lib.hid (at_box_of w1 #[.int .i64 t.kind, .int .i64 t.num, .string t.name, .slice ua t.args.length uc] 27 w1.heap.size rfl)
      have HO1 := Lib.hid ((HON.out.kept hal).sub (fun j hj => (⟨hj.1, by have := hj.2; have := hal.size; omega⟩ : iv (w.heap.size + 1) (w1.alloc (.cells #[.int .i64 t.kind, .int .i64 t.num, .string t.name, .slice ua t.args.length uc] 27)).heap.size j)))
      have HB2 := Lib.hid (belowOn HB1.out (Nat.le_refl _) hal)
      have HA2 := Lib.hid (HAT.out.kept hal)
      have HR2 := Lib.hid (HRN.out.kept hal)
      have HSZ2 : Hid (w.heap.size + 1 ≤ (w1.alloc (.cells #[.int .i64 t.kind, .int .i64 t.num, .string t.name, .slice ua t.args.length uc] 27)).heap.size) := Lib.hid (Nat.le_trans HSZ1.out hal.size)
      clear hal hen HON HB1 HAT HRN HSZ1
      generalize hw1 : w1.alloc (.cells #[.int .i64 t.kind, .int .i64 t.num, .string t.name, .slice ua t.args.length uc] 27) = w2 at HBX HO1 HB2 HA2 HR2 HSZ2 ⊢
      clear hw1
      generalize w1.heap.size = nb at HBX ⊢
      have HCO := Lib.hid (copied_any (t.nodes + 1) t _ w2 (Nat.lt_succ_self _) HA2.out htz' HTG.out)
      obtain ⟨c0, c1, c2, c3⟩ := HBX.out.cells
      have z0 := HBX.out.le
      go_wp2_with fail
      refine HCO.out.mono ?_
      rintro e w3 ⟨u, rfl, hnt⟩
      obtain ⟨va, vc, rfl⟩ := hnt.1.argsAt.slice
      have HN := Lib.hid hnt
      obtain ⟨L, C, hL1, hrow, hbk, hr, hC, hd⟩ := (HO1.out.kept hnt.2).parts
      obtain ⟨m, hm⟩ : ∃ m, m = l.length := ⟨_, rfl⟩
      have hmn : m ≤ 1048576 := by omega
      have hLn : m = L.length := by have := congrArg List.length hL1; rw [List.length_map, ← hm] at this; exact this
      rw [← hLn, ← hm] at hrow
      rw [← hm] at hbk hC ⊢
      have HROW := Lib.hid hrow
      have HPA := Lib.hid (And.intro hL1 (And.intro hLn (And.intro hbk (And.intro hr (And.intro hC hd)))))
      have HB3 := Lib.hid (belowOn HB2.out (Nat.le_refl _) hnt.2)
      have HR3 := Lib.hid (HR2.out.kept hnt.2)
      have HSZ3 : Hid (w.heap.size + 1 ≤ w3.heap.size) := Lib.hid (Nat.le_trans HSZ2.out hnt.2.size)
      have HS23 := Lib.hid hnt.2.size
      have HMM := Lib.hid hm
      clear hL1 hLn hrow hbk hr hC hd hnt HCO c0 c1 c2 c3 z0 hm
      go_wp2_with (at_builtin; refine wpList_append_lies _ rfl _ _ 23 rfl 0 47 i0 _ 5 64 Tryz.underlying23 HII.out.1 HII.out.2.1 HII.out.2.2.1 HII.out.2.2.2 rfl (by omega) (.slice oa m oc) m (cellsE bdE L) rfl (HROW.out.alloc _) ⟨w3.heap.size, 0, none⟩ 1 1 (bdE.cells ⟨v, t⟩ (.slice va t.args.length vc)) rfl rfl (World.news_of_block (heap_alloc_new w3 _)) (by simp [bdE, Value.oneCell']) (by omega) (by unfold maxLen; omega) (by omega) (Nat.zero_le _) (w3.heap.size + 1) (by simp) ?_; intro gg cap' w4 hown1 hgrow hat hlt1; have HAP := Lib.hid (And.intro hown1 (And.intro hgrow (And.intro hat hlt1))); clear hown1 hgrow hat hlt1)
      have HLO : Hid (ListO bdE 47 w4 (iv (w.heap.size + 1) w4.heap.size) (.slice (some ⟨gg, 0, none⟩) (m + 1) cap') (l ++ [⟨v, t⟩])) := Lib.hid (by
        have hgs := HAP.out.2.1.size
        simp only [World.size_alloc] at hgs
        have hb1 := HSZ2.out
        have hb2 := HSZ3.out
        have h := listO_append (E := bdE) (x := ⟨v, t⟩) (S' := iv (w.heap.size + 1) w4.heap.size) HPA.out.2.1 HPA.out.2.2.1 HPA.out.2.2.2.1 HPA.out.2.2.2.2.1 HPA.out.2.2.2.2.2 HN.out.1 (fun j hj => by have := hj.2; have := HS23.out; omega) (fun j hj => ⟨hj.2, fun h => by have h1 := hj.1; have h2 := h.2; omega⟩) (belowAlloc (Below.refl _ _) _) HAP.out.1 HAP.out.2.1 (HAP.out.2.2.1.imp id (fun h => by omega)) (fun j hj => by
          have hl := HAP.out.2.2.2
          have h23 := HS23.out
          rcases hj with hj | hj | hj
          · exact ⟨hj.1, by have := hj.2; omega⟩
          · exact ⟨by have := hj.1; omega, by have := hj.2; omega⟩
          · subst hj
            refine ⟨?_, hl⟩
            rcases HAP.out.2.2.1 with h | h
            · exact (HPA.out.2.2.1 _ h).1
            · omega)
        rw [← HPA.out.1] at h
        exact h)
      have HBF : Hid (Below w.heap.size w w4) := Lib.hid ((belowAlloc HB3.out _).trans (below_of_grown HAP.out.2.1 (by have := HSZ3.out; simp; omega) (fun j hj => by have h := (HPA.out.2.2.1 j hj).1; omega)))
      have HRF : Hid (RanF w4 b w.heap.size n f (fun x => left x && !decide (x = v)) cnt1) := Lib.hid (by
        have h1 := HR3.out.kept (belowAlloc (Below.refl _ _) (.cells #[.int .i64 v, .int .i64 t.kind, .int .i64 t.num, .string t.name, .slice va t.args.length vc] 47))
        have hlt := HM.out.lt
        refine h1.frame (HAP.out.2.1.block b h1.lt.1 (fun e => ?_)) (HAP.out.2.1.block w.heap.size h1.lt.2.1 (fun e => ?_))
        · have := (HPA.out.2.2.1 b e.symm).1; omega
        · have := (HPA.out.2.2.1 w.heap.size e.symm).1; omega)
      have HSF : Hid (w.heap.size + 1 ≤ w4.heap.size) := Lib.hid (by have hgs := HAP.out.2.1.size; simp only [World.size_alloc] at hgs; have := HSZ3.out; omega)
      clear HAP HPA HROW HN HSZ2 HSZ3 HS23 HB2 HB3 HR2 HR3 HO1 HBX
      go_roundw
      case rel => exact ⟨_, cnt1, l ++ [⟨v, t⟩], HRF, HLO, HGN, Lib.hid (fun h => by simp at h), by have := HMM.out; rw [List.length_append, List.length_singleton]; omega, HBF, HSF⟩
      case measure => rw [HRF.out.left_eq, HRL.out]; omega
end Go.Proofs.YtjmmeccfjanpcaaGreatDoor

namespace Go.Proofs.YtjmmeccfjanpcaaGreatDoor
open Go.RowKit
set_option linter.unusedVariables false
set_option linter.unusedSimpArgs false

theorem not_self {s t : List Bd} (hs : SubstP s) (ht : SubstP t) {b : Bd} (hb : b ∈ s) : selfB (mapped t b) = false := by
  unfold selfB
  refine decide_eq_false fun h => ?_
  have hk : (putT t b.t).kind = 1 := h.1
  have hn : (putT t b.t).num = b.v := h.2
  have hg := hs.good b hb
  have hlow : b.t.kind = 1 → b.t.num < b.v := fun h1 => by
    have h2 := (hs.2 b hb).1
    rcases Int.lt_or_le b.t.num b.v with h3 | h3
    · exact h3
    · exact absurd ⟨h1, h3⟩ h2
  by_cases h1 : b.t.kind = 1
  · rw [putT_var h1] at hk hn
    cases hget : getO t b.t.num with
    | none =>
      rw [hget] at hn
      have := hlow h1
      have hn' : b.t.num = b.v := hn
      omega
    | some x =>
      rw [hget] at hk hn
      obtain ⟨c, hc, h3, h4⟩ := getO_some hget
      have h5 := (ht.2 c hc).1
      have hk' : x.kind = 1 := hk
      have hn' : x.num = b.v := hn
      rw [h4] at h5
      have := hlow h1
      exact h5 ⟨hk', by omega⟩
  · by_cases h4 : b.t.kind = 4
    · rw [putT_pair h4] at hk
      have hk' : (4 : Int) = 1 := hk
      omega
    · rw [putT_atom h1 h4] at hk
      exact h1 hk
theorem cmpA_map {s t : List Bd} (hs : SubstP s) (ht : SubstP t) : cmpA s t = s.map (mapped t) := by
  unfold cmpA
  refine List.filter_eq_self.2 fun b hb => ?_
  obtain ⟨c, hc, rfl⟩ := List.mem_map.1 hb
  rw [not_self hs ht hc]; rfl
theorem insB_perm (s : List Bd) (b : Bd) : (insB s b).Perm (b :: s) := by
  unfold insB
  refine List.perm_middle.trans ?_
  rw [List.take_append_drop]
theorem foldB_perm : ∀ (r s : List Bd), (r.foldl insB s).Perm (r ++ s)
  | [], s => List.Perm.refl _
  | b :: r, s => by
    rw [List.foldl_cons]
    exact (foldB_perm r _).trans ((List.Perm.append_left r (insB_perm s b)).trans List.perm_middle)
theorem ValuesP.pair {s : List Bd} (h : ValuesP s) : s.Pairwise (fun a b => a.v < b.v) := by
  rw [List.pairwise_iff_getElem]
  intro i j hi hj hij
  exact h.less hij (List.getElem?_eq_getElem hi) (List.getElem?_eq_getElem hj)
/-- Bindings in ascending order with the same members are one list. -/
theorem asc_perm : ∀ {l m : List Bd}, l.Pairwise (fun a b => a.v < b.v) → m.Pairwise (fun a b => a.v < b.v) → l.Perm m → l = m
  | [], m, _, _, hp => (List.nil_perm.1 hp).symm
  | a :: l, [], _, _, hp => by have := hp.length_eq; simp at this
  | a :: l, b :: m, h1, h2, hp => by
    obtain ⟨a1, a2⟩ := List.pairwise_cons.1 h1
    obtain ⟨b1, b2⟩ := List.pairwise_cons.1 h2
    have hab : a = b := by
      rcases List.mem_cons.1 (hp.mem_iff.1 (List.mem_cons_self (a := a) (l := l))) with e | ha
      · exact e
      · rcases List.mem_cons.1 (hp.mem_iff.2 (List.mem_cons_self (a := b) (l := m))) with e | hb
        · exact e.symm
        · have h3 := b1 a ha
          have h4 := a1 b hb
          omega
    subst hab
    rw [asc_perm a2 b2 (List.Perm.cons_inv hp)]
theorem scanB_after {s : List Bd} {v : Int} : ∀ (k j : Nat) (x : Bd), scanB s v k ≤ j → j < k → s[j]? = some x → v < x.v
  | 0, j, x, _, h, _ => absurd h (Nat.not_lt_zero _)
  | k + 1, j, x, h1, h2, hx => by
    rw [scanB] at h1
    split at h1
    · rename_i hc
      by_cases hj : j = k
      · subst hj
        rw [hx] at hc
        exact hc
      · exact scanB_after k j x h1 (by omega) hx
    · omega
theorem scanB_before {s : List Bd} {v : Int} : ∀ (k : Nat), k ≤ s.length → 0 < scanB s v k → ∃ x, s[scanB s v k - 1]? = some x ∧ x.v ≤ v
  | 0, _, h => by rw [scanB] at h; omega
  | k + 1, hk, h => by
    rw [scanB] at h ⊢
    split
    · rename_i hc
      rw [if_pos hc] at h
      exact scanB_before k (by omega) h
    · rename_i hc
      obtain ⟨x, hx⟩ : ∃ x, s[k]? = some x := ⟨_, List.getElem?_eq_getElem (by omega)⟩
      rw [hx] at hc
      refine ⟨x, by simpa using hx, ?_⟩
      have hc' : ¬ v < x.v := hc
      omega
theorem insB_asc {s : List Bd} {b : Bd} (h : s.Pairwise (fun a b => a.v < b.v)) (hb : ∀ c ∈ s, c.v ≠ b.v) : (insB s b).Pairwise (fun a b => a.v < b.v) := by
  have hle := scanB_le s b.v s.length
  have hidx := List.pairwise_iff_getElem.1 h
  have hbef : ∀ a ∈ s.take (scanB s b.v s.length), a.v < b.v := by
    intro a ha
    obtain ⟨i, hi⟩ := List.getElem?_of_mem ha
    have hil := (List.getElem?_eq_some_iff.1 hi).1
    rw [List.length_take] at hil
    rw [List.getElem?_take_of_lt (by omega)] at hi
    obtain ⟨x, hx, hxv⟩ := scanB_before (s := s) (v := b.v) s.length (Nat.le_refl _) (by omega)
    have hne := hb a (List.mem_of_getElem? hi)
    obtain ⟨hxl, hxe⟩ := List.getElem?_eq_some_iff.1 hx
    obtain ⟨hal, hae⟩ := List.getElem?_eq_some_iff.1 hi
    by_cases hix : i = scanB s b.v s.length - 1
    · subst hix
      rw [hx] at hi
      cases hi
      omega
    · have := hidx i (scanB s b.v s.length - 1) hal hxl (by omega)
      rw [hxe, hae] at this
      omega
  have haft : ∀ a ∈ s.drop (scanB s b.v s.length), b.v < a.v := by
    intro a ha
    obtain ⟨i, hi⟩ := List.getElem?_of_mem ha
    rw [List.getElem?_drop] at hi
    exact scanB_after s.length _ a (by omega) (List.getElem?_eq_some_iff.1 hi).1 hi
  unfold insB
  rw [List.pairwise_append]
  refine ⟨h.sublist (List.take_sublist _ _), List.pairwise_cons.2 ⟨haft, h.sublist (List.drop_sublist _ _)⟩, fun a ha c hc => ?_⟩
  rcases List.mem_cons.1 hc with rfl | hc
  · exact hbef a ha
  · have h1 := hbef a ha
    have h2 := haft c hc
    omega
theorem foldB_asc : ∀ (r s : List Bd), s.Pairwise (fun a b => a.v < b.v) → r.Pairwise (fun a b => a.v < b.v) → (∀ c ∈ s, ∀ d ∈ r, c.v ≠ d.v) → (r.foldl insB s).Pairwise (fun a b => a.v < b.v)
  | [], s, h, _, _ => h
  | b :: r, s, h, hr, hd => by
    obtain ⟨r1, r2⟩ := List.pairwise_cons.1 hr
    rw [List.foldl_cons]
    refine foldB_asc r _ (insB_asc h fun c hc => hd c hc b (by simp)) r2 fun c hc d hdm => ?_
    rcases insB_mem.1 hc with rfl | hc
    · have := r1 d hdm; omega
    · exact hd c hc d (by simp [hdm])
theorem mapped_asc {s t : List Bd} (h : s.Pairwise (fun a b => a.v < b.v)) : (s.map (mapped t)).Pairwise (fun a b => a.v < b.v) := by
  rw [List.pairwise_map]
  exact h
theorem cmpB_asc {s t : List Bd} (hs : SubstP s) (ht : SubstP t) : (cmpB s t).Pairwise (fun a b => a.v < b.v) := by
  unfold cmpB
  rw [cmpA_map hs ht]
  refine foldB_asc _ _ (mapped_asc hs.1.pair) (ht.1.pair.sublist List.filter_sublist) fun c hc d hd => ?_
  obtain ⟨x, hx, rfl⟩ := List.mem_map.1 hc
  obtain ⟨hd1, hd2⟩ := List.mem_filter.1 hd
  intro e
  have h1 : getB s d.v = false := by simpa using hd2
  exact (getO_none.1 (getB_none.1 h1)) x hx e
/-- Whatever list the program sorts: the mapped bindings, and the rest in any order. -/
theorem sorted_is {s t l m : List Bd} (hs : SubstP s) (ht : SubstP t) (hl : l.Perm (rest s t)) (hm : m.Perm (s.map (mapped t) ++ l)) (ha : m.Pairwise (fun a b => ¬ b.v < a.v)) : m = cmpB s t := by
  have hp : m.Perm (cmpB s t) := by
    unfold cmpB
    rw [cmpA_map hs ht]
    exact (hm.trans ((List.Perm.append_left _ hl).trans List.perm_append_comm)).trans (foldB_perm _ _).symm
  have hnd : (m.map Bd.v).Nodup := by
    rw [(hp.map Bd.v).nodup_iff]
    rw [List.nodup_iff_pairwise_ne, List.pairwise_map]
    exact (cmpB_asc hs ht).imp fun h => by omega
  rw [List.nodup_iff_pairwise_ne, List.pairwise_map] at hnd
  exact asc_perm ((ha.and hnd).imp fun {a b} h => by have h1 := h.1; have h2 := h.2; omega) (cmpB_asc hs ht) hp
end Go.Proofs.YtjmmeccfjanpcaaGreatDoor

namespace Go.Proofs.YtjmmeccfjanpcaaGreatDoor
open Go.RowKit
open Go.Sort (HoldsK putRowK grow flatK get_flatK size_flatK SWO PermIn SortedIn mapBlock putCells onCells)
set_option linter.unusedVariables false
set_option linter.unusedSimpArgs false

abbrev EntB := Bd × (Option Addr × Nat × Nat)
instance : Inhabited EntB := ⟨(zeroBd, none, 0, 0)⟩
def pairB (a : EntB) : Bd × Value := (a.1, .slice a.2.1 a.2.2.1 a.2.2.2)
def encB (a : EntB) : List Value := [.int .i64 a.1.v, .int .i64 a.1.t.kind, .int .i64 a.1.t.num, .string a.1.t.name, .slice a.2.1 a.2.2.1 a.2.2.2]
theorem encB_cells (a : EntB) : encB a = bdE.cells (pairB a).1 (pairB a).2 := rfl
theorem flat_cells (d : Array EntB) : (flatK encB 5 d).toList = cellsE bdE (d.toList.map pairB) := by
  apply List.ext_getElem?
  intro i
  by_cases hi : i < d.size * 5
  · have hq : i / 5 < d.size := by omega
    have hp : (d.toList.map pairB)[i / 5]? = some (pairB d[i / 5]) := by simp [hq]
    obtain ⟨v, hv⟩ : ∃ v, (encB d[i / 5])[i % 5]? = some v := ⟨_, List.getElem?_eq_getElem (show i % 5 < (encB d[i / 5]).length by show i % 5 < 5; omega)⟩
    have h1 := cellsE_at (E := bdE) hp (by rw [← encB_cells]; exact hv)
    rw [show i / 5 * bdE.n + i % 5 = i from by show i / 5 * 5 + i % 5 = i; omega] at h1
    rw [h1, Array.getElem?_toList]
    have h2 := get_flatK encB 5 d i hi
    have hs : i < (flatK encB 5 d).size := by rw [size_flatK]; exact hi
    rw [Array.getElem?_eq_getElem hs]
    rw [getElem!_pos _ i hs] at h2
    rw [h2, getElem!_pos d (i / 5) hq]
    have h3 := (List.getElem?_eq_some_iff.1 hv)
    rw [getElem!_pos _ (i % 5) h3.1, h3.2]
  · rw [List.getElem?_eq_none (by simp [size_flatK]; omega), List.getElem?_eq_none (by rw [cellsE_length]; show (d.toList.map pairB).length * 5 ≤ i; simp; omega)]
def cfB (x y : EntB) : Int := cmpI x.1.v y.1.v
theorem ltB (x y : EntB) : ltOf cfB x y = decide (x.1.v < y.1.v) := by
  unfold ltOf cfB cmpI
  by_cases h1 : x.1.v < y.1.v
  · simp [h1]
  · by_cases h2 : y.1.v < x.1.v <;> simp [h1, h2]
theorem swoB : SWO (ltOf cfB) where
  irrefl x := by rw [ltB]; simp
  trans x y z h1 h2 := by rw [ltB] at *; simp at *; omega
  ntrans x y z h1 h2 := by rw [ltB] at *; simp at *; omega

set_option maxHeartbeats 1000000 in
theorem closureB_any (x y : EntB) (W : World) : Calls Tryz.prog 23 (#[.agg (encB x).toArray, .agg (encB y).toArray] ++ #[]) W fun e w' => e = .returned (.int .i64 (cfB x y)) ∧ ∃ q os', w' = grow (W.drewN q) os' := by
  show Calls Tryz.prog 23 #[.agg #[.int .i64 x.1.v, .int .i64 x.1.t.kind, .int .i64 x.1.t.num, .string x.1.t.name, .slice x.2.1 x.2.2.1 x.2.2.2], .agg #[.int .i64 y.1.v, .int .i64 y.1.t.kind, .int .i64 y.1.t.num, .string y.1.t.name, .slice y.2.1 y.2.2.1 y.2.2.2]] W _
  have hcon := fun W' => cmpInt_any x.1.v y.1.v W'
  show Calls _ _ _ _ fun e w' => e = .returned (.int .i64 (cmpI x.1.v y.1.v)) ∧ _
  generalize cmpI x.1.v y.1.v = r at hcon ⊢
  go_enter Tryz.func23, Tryz.ntmps23
  go_wp2_with (go_at_call 24; refine (hcon _).mono ?_; rintro e w' ⟨rfl, rfl⟩)
  go_ret
  exact ⟨rfl, 0, _, by rw [Go.Sort.alloc_eq_grow, Go.Sort.alloc_eq_grow, Go.Sort.grow_grow]; rfl⟩

theorem perm_lift {α β : Type} (f : α → β) : ∀ {l' : List β} {m : List β}, l'.Perm m → ∀ l : List α, m = l.map f → ∃ k : List α, k.Perm l ∧ k.map f = l' := by
  intro l' m h
  induction h with
  | nil => intro l hl; exact ⟨[], by rw [List.map_eq_nil_iff.1 hl.symm], rfl⟩
  | cons x h ih =>
    intro l hl
    cases l with
    | nil => simp at hl
    | cons a l =>
      simp only [List.map_cons, List.cons.injEq] at hl
      obtain ⟨k, hk, hkm⟩ := ih l hl.2
      exact ⟨a :: k, hk.cons a, by rw [List.map_cons, hkm, hl.1]⟩
  | swap x y t =>
    intro l hl
    match l, hl with
    | a :: b :: l, hl =>
      simp only [List.map_cons, List.cons.injEq] at hl
      exact ⟨b :: a :: l, List.Perm.swap a b l, by rw [List.map_cons, List.map_cons, hl.1, hl.2.1, hl.2.2]⟩
  | trans h1 h2 ih1 ih2 =>
    intro l hl
    obtain ⟨k2, hk2, hm2⟩ := ih2 l hl
    obtain ⟨k1, hk1, hm1⟩ := ih1 k2 hm2.symm
    exact ⟨k1, hk1.trans hk2, hm1⟩
/-- The order of an owned list's elements changed. -/
theorem listO_perm {α : Type} {E : El α} {e : TypeId} {w w' : World} {S : Nat → Prop} {g n cap : Nat} {L L' : List (α × Value)} {C : Nat → Nat → Prop} (hn : n = L.length) (hp : L'.Perm L) (hg : S g)
    (hr : ∀ (j : Nat) (p : α × Value), L[j]? = some p → E.own w (C j) p.2 p.1) (hC : ∀ j k, j < n → C j k → S k ∧ k ≠ g) (hd : ∀ i j k, i < n → j < n → C i k → C j k → i = j)
    (hown : w'.ownsRow 0 e E.n (.slice (some ⟨g, 0, none⟩) n cap) n (cellsE E L')) (hb : ∀ k, k < w.heap.size → k ≠ g → w'.heap[k]? = w.heap[k]?) : ListO E e w' S (.slice (some ⟨g, 0, none⟩) n cap) (L'.map Prod.fst) := by
  subst hn
  obtain ⟨T, hT, hTf⟩ : ∃ T : List ((α × Value) × (Nat → Prop)), T.map Prod.fst = L ∧ ∀ (j : Nat) q, T[j]? = some q → q.2 = C j ∧ L[j]? = some q.1 := by
    refine ⟨(List.range L.length).filterMap fun j => (L[j]?).map fun p => (p, C j), ?_, ?_⟩
    · have h2 : ∀ m, ((List.range m).filterMap fun j => (L[j]?).map fun p => (p, C j)).map Prod.fst = L.take m := by
        intro m
        induction m with
        | zero => simp
        | succ m ih =>
          rw [List.range_succ, List.filterMap_append, List.map_append, ih, List.take_add_one]
          cases h : L[m]? with
          | none => simp [h]
          | some x => simp [h]
      rw [h2, List.take_length]
    · have h3 : ∀ m, m ≤ L.length → ((List.range m).filterMap fun j => (L[j]?).map fun p => (p, C j)).length = m ∧ ∀ (j : Nat) q, ((List.range m).filterMap fun j => (L[j]?).map fun p => (p, C j))[j]? = some q → q.2 = C j ∧ L[j]? = some q.1 := by
        intro m
        induction m with
        | zero => intro _; exact ⟨rfl, fun j q h => by simp at h⟩
        | succ m ih =>
          intro hm
          obtain ⟨i1, i2⟩ := ih (by omega)
          obtain ⟨x, hx⟩ : ∃ x, L[m]? = some x := ⟨_, List.getElem?_eq_getElem (by omega)⟩
          rw [List.range_succ, List.filterMap_append]
          have e1 : ([m].filterMap fun j => (L[j]?).map fun p => (p, C j)) = [(x, C m)] := by simp [hx]
          rw [e1]
          refine ⟨by rw [List.length_append, i1]; rfl, fun j q hq => ?_⟩
          by_cases hj : j < m
          · rw [List.getElem?_append_left (by rw [i1]; exact hj)] at hq
            exact i2 j q hq
          · rw [List.getElem?_append_right (by rw [i1]; omega), i1] at hq
            have hjm : j = m := by
              have := (List.getElem?_eq_some_iff.1 hq).1
              simp at this
              omega
            subst hjm
            rw [Nat.sub_self] at hq
            simp at hq
            subst hq
            exact ⟨rfl, hx⟩
      exact (h3 L.length (Nat.le_refl _)).2
  obtain ⟨T', hpT, hT'⟩ := perm_lift Prod.fst hp T hT.symm
  have lT : T.length = L.length := by rw [← hT, List.length_map]
  have lT' : T'.length = L.length := by rw [hpT.length_eq, lT]
  have lL' : L'.length = L.length := hp.length_eq
  have all : ∀ q ∈ T, E.own w q.2 q.1.2 q.1.1 ∧ ∀ k, q.2 k → S k ∧ k ≠ g := by
    intro q hq
    obtain ⟨j, hj⟩ := List.getElem?_of_mem hq
    obtain ⟨h1, h2⟩ := hTf j q hj
    have hjl : j < L.length := (List.getElem?_eq_some_iff.1 h2).1
    exact ⟨h1 ▸ hr j q.1 h2, fun k hk => hC j k hjl (h1 ▸ hk)⟩
  have dis : T.Pairwise fun a b => ∀ k, a.2 k → ¬ b.2 k := by
    rw [List.pairwise_iff_getElem]
    intro i j hi hj hij k h1 h2
    obtain ⟨e1, _⟩ := hTf i T[i] (List.getElem?_eq_getElem hi)
    obtain ⟨e2, _⟩ := hTf j T[j] (List.getElem?_eq_getElem hj)
    have := hd i j k (by omega) (by omega) (e1 ▸ h1) (e2 ▸ h2)
    omega
  have dis' : T'.Pairwise fun a b => ∀ k, a.2 k → ¬ b.2 k := (hpT.pairwise_iff (fun {a b} h k h1 h2 => h k h2 h1)).2 dis
  have hidx := List.pairwise_iff_getElem.1 dis'
  refine .row g L.length cap L' (fun j k => ∃ q, T'[j]? = some q ∧ q.2 k) _ rfl lL'.symm hg hown ?_ ?_ ?_
  · intro j p hj
    have hjl := (List.getElem?_eq_some_iff.1 hj).1
    obtain ⟨q, hq⟩ : ∃ q, T'[j]? = some q := ⟨_, List.getElem?_eq_getElem (by omega)⟩
    have hqp : q.1 = p := by
      rw [← hT', List.getElem?_map, hq] at hj
      simpa using hj
    obtain ⟨o1, o2⟩ := all q (hpT.mem_iff.1 (List.mem_of_getElem? hq))
    rw [hqp] at o1
    refine E.ownSub (E.ownFrame o1 fun k hk hks => hb k hks (o2 k hk).2) fun k hk => ⟨q, hq, hk⟩
  · rintro j k hj ⟨q, hq, hk⟩
    exact (all q (hpT.mem_iff.1 (List.mem_of_getElem? hq))).2 k hk
  · rintro i j k hi hj ⟨q, hq, hk⟩ ⟨q', hq', hk'⟩
    obtain ⟨a1, a2⟩ := List.getElem?_eq_some_iff.1 hq
    obtain ⟨b1, b2⟩ := List.getElem?_eq_some_iff.1 hq'
    rcases Nat.lt_trichotomy i j with h | h | h
    · exact absurd (b2.symm ▸ hk') (hidx i j a1 b1 h k (a2.symm ▸ hk))
    · exact h
    · exact absurd (a2.symm ▸ hk) (hidx j i b1 a1 h k (b2.symm ▸ hk'))

theorem heap_put {w : World} {g n : Nat} {os : Array Obj} {cur : Array Value} {e : TypeId} {fr : Nat × Nat} (d : Array Value) (hb : w.heap[g]? = some (.cells cur e fr)) : (grow (Go.Sort.putRow id (Go.Sort.ahead w n) g 0 d) os).heap[g]? = some (.cells (putCells id 0 d cur) e fr) := by
  have hg := (Array.getElem?_eq_some_iff.1 hb).1
  rw [Go.Sort.heap_grow_old _ _ (by simpa [Go.Sort.putRow, mapBlock, Go.Sort.ahead] using hg)]
  simp [Go.Sort.putRow, mapBlock, Go.Sort.ahead, Array.getElem?_modify, hb, onCells]
theorem only_put {w : World} {g n : Nat} {os : Array Obj} (d : Array Value) : Only (fun k => k = g) w (grow (Go.Sort.putRow id (Go.Sort.ahead w n) g 0 d) os) := by
  refine ⟨rfl, rfl, rfl, by simp [Go.Sort.putRow, mapBlock, Go.Sort.ahead], fun k hk hne => ?_⟩
  rw [Go.Sort.heap_grow_old _ _ (by simpa [Go.Sort.putRow, mapBlock, Go.Sort.ahead] using hk)]
  have : g ≠ k := fun e => hne e.symm
  simp [Go.Sort.putRow, mapBlock, Go.Sort.ahead, Array.getElem?_modify, this]
theorem take_put (cur : Array Value) (D : Array Value) (h : D.size ≤ cur.size) : (putCells id 0 D cur).toList.take D.size = D.toList := by
  apply List.ext_getElem?
  intro j
  by_cases hj : j < D.size
  · rw [List.getElem?_take_of_lt hj, Array.getElem?_toList]
    simp [putCells, hj, show j < cur.size by omega]
  · rw [List.getElem?_take_eq_none (by omega), List.getElem?_eq_none (by simp; omega)]
theorem holds_row {w : World} {g : Nat} {cur : Array Value} {e : TypeId} {D : Array Value} (hb : w.heap[g]? = some (.cells cur e (0, 0))) (ht : cur.toList.take D.size = D.toList) : Go.Sort.Holds id w g 0 D := by
  intro j hj
  refine ⟨?_, by simp [World.frozen?, hb]⟩
  have h1 : (cur.toList.take D.size)[j]? = D.toList[j]? := by rw [ht]
  rw [List.getElem?_take_of_lt hj] at h1
  simp only [World.cell?, hb, Nat.zero_add]
  simp only [Option.isSome_none, Bool.false_eq_true, if_false]
  rw [← Array.getElem?_toList, h1, Array.getElem?_toList, Array.getElem?_eq_getElem hj, getElem!_pos _ j hj]
  rfl
/-- The answer: the row's elements in ascending order. -/
def SortedP (l : List Bd) (S : Nat → Prop) (v : Value) (w : World) (e : Ending) (w' : World) : Prop :=
  e = .returned (.tuple #[]) ∧ ∃ m, m.Perm l ∧ m.Pairwise (fun a b => ¬ b.v < a.v) ∧ ListO bdE 47 w' S v m ∧ Only S w w'

theorem sortB_any (l : List Bd) (S : Nat → Prop) (v : Value) (w : World) (h : ListO bdE 47 w S v l) (hl : l.length ≤ 4194304) :
    Calls Tryz.prog 22 #[v, .func (.func 23) #[] #[]] w (SortedP l S v w) := by
  have eg : ∀ args w, (callFunc 23 args).run Tryz.prog w = .ok (.enter 23 args) w := enters_of Tryz.func23 (by kernel_rfl) rfl
  cases h with
  | nil =>
    have hcon := AnyF.slices_SortFunc_none Tryz.sortBd none 0 (.func (.func 23) #[] #[]) w
    exact Calls.mono hcon fun e w' hh => ⟨hh.1, [], List.Perm.refl _, List.Pairwise.nil, by rw [hh.2]; exact .nil, by rw [hh.2]; exact Only.refl _ _⟩
  | row g n cap L C l hl1 hn hg hown hr hC hd =>
    subst hl1
    subst hn
    obtain ⟨d, hd1⟩ : ∃ d : Array EntB, d.toList.map pairB = L := by
      have each : ∀ M : List (Bd × Value), (∀ p ∈ M, ∃ a, pairB a = p) → ∃ D : List EntB, D.map pairB = M := by
        intro M
        induction M with
        | nil => exact fun _ => ⟨[], rfl⟩
        | cons p M ih =>
          intro hM
          obtain ⟨D, hD⟩ := ih fun q hq => hM q (by simp [hq])
          obtain ⟨a, ha⟩ := hM p (by simp)
          exact ⟨a :: D, by rw [List.map_cons, hD, ha]⟩
      obtain ⟨D, hD⟩ := each L fun p hp => by
        obtain ⟨j, hj⟩ := List.getElem?_of_mem hp
        obtain ⟨a, c, ha⟩ := (show Own w 27 (C j) p.2 p.1.t.args from hr j p hj).argsAt.slice
        exact ⟨(p.1, a, p.1.t.args.length, c), by unfold pairB; rw [← ha]⟩
      exact ⟨D.toArray, by simpa using hD⟩
    have hdl : d.size = L.length := by rw [← hd1]; simp
    obtain ⟨cur, fr0, hb, hcap1, hcap2, hcs, htk⟩ : ∃ cur : Array Value, ∃ _ : True, w.heap[g]? = some (.cells cur 47 (0, 0)) ∧ L.length ≤ cap ∧ cap ≤ maxLen ∧ cur.size = cap * 5 ∧ cur.toList.take (L.length * 5) = cellsE bdE L := by
      rcases hown.2 with ⟨h1, _⟩ | ⟨g', cap', cur, he, h1, h2, h3, h4, h5, h6⟩
      · cases h1
      · simp only [Value.slice.injEq, Option.some.injEq, Addr.mk.injEq] at he
        obtain ⟨⟨rfl, _⟩, _, rfl⟩ := he
        exact ⟨cur, trivial, h2, h3, h4, h5, h6⟩
    have hgl : g < w.heap.size := (Array.getElem?_eq_some_iff.1 hb).1
    have hfl : (flatK encB 5 d).size = L.length * 5 := by rw [size_flatK, hdl]
    have hH : HoldsK encB 5 w g 0 d := holds_row hb (by rw [hfl, htk, flat_cells, hd1])
    have hsz : L.length ≤ 4194304 := by rw [List.length_map] at hl; exact hl
    have hcon := AnyQ.slices_SortFunc Tryz.sortBd 5 Tryz.isAgg47 Tryz.sizeOf47 encB (fun _ => rfl) (fun x v hv => by simp [encB] at hv; rcases hv with rfl | rfl | rfl | rfl | rfl <;> rfl) cfB swoB 23 #[] g 0 cap d w eg (fun _ _ _ _ x y => closureB_any x y _) hH hgl (by omega)
    rw [hdl] at hcon
    refine Calls.mono (P := Tryz.prog) (show Calls Tryz.prog 22 _ _ _ from hcon) ?_
    rintro e w' ⟨rfl, d', nn, os, hp, hs, rfl⟩
    obtain ⟨hp1, _, hp2⟩ := hp
    have hd's : d'.size = L.length := by rw [hp1, hdl]
    have hpl : d'.toList.Perm d.toList := by
      have e1 : d'.extract 0 L.length = d' := by rw [← hd's]; simp
      have e2 : d.extract 0 L.length = d := by rw [← hdl]; simp
      rw [e1, e2] at hp2
      exact hp2
    have hLp : (d'.toList.map pairB).Perm L := by rw [← hd1]; exact hpl.map pairB
    have hfl' : (flatK encB 5 d').size = L.length * 5 := by rw [size_flatK, hd's]
    refine ⟨rfl, (d'.toList.map pairB).map Prod.fst, hLp.map _, ?_, ?_, (only_put _).sub fun k hk => by subst hk; exact hg⟩
    · rw [List.pairwise_map, List.pairwise_map, List.pairwise_iff_getElem]
      intro i j hi hj hij
      have hi' : i < d'.size := by simpa using hi
      have hj' : j < d'.size := by simpa using hj
      have h1 := hs i j (Nat.zero_le _) hij (by omega)
      rw [ltB, getElem!_pos d' i hi', getElem!_pos d' j hj'] at h1
      simpa [pairB] using h1
    · refine listO_perm (n := L.length) rfl hLp hg hr hC hd ?_ fun k hk hne => (only_put _).block k hk hne
      refine ⟨?_, .inr ⟨g, cap, _, rfl, Nat.zero_le _, heap_put _ hb, hcap1, hcap2, by simp [putCells, hcs]; rfl, ?_⟩⟩
      · rw [cellsE_length, List.length_map, Array.length_toList, hd's]
      · have h1 := take_put cur (flatK encB 5 d') (by rw [hfl', hcs]; exact Nat.mul_le_mul_right _ hcap1)
        rw [hfl', flat_cells] at h1
        exact h1
end Go.Proofs.YtjmmeccfjanpcaaGreatDoor

namespace Go.Proofs.YtjmmeccfjanpcaaGreatDoor
open Go.RowKit
set_option linter.unusedVariables false
set_option linter.unusedSimpArgs false

/-- Two owned lists made one. -/
theorem listO_both {α : Type} {E : El α} {w W1 w1 : World} {e : TypeId} {S Su S' : Nat → Prop} {v : Value} {L M : List (α × Value)} {C D : Nat → Nat → Prop} {gg cap n m : Nat} (hn : n = L.length) (hm : m = M.length)
    (hb : ∀ k, v.ownBlock = some k → S k) (hr : ∀ (j : Nat) (p : α × Value), L[j]? = some p → E.own w (C j) p.2 p.1) (hC : ∀ j k, j < L.length → C j k → S k ∧ v.ownBlock ≠ some k) (hd : ∀ i j k, i < L.length → j < L.length → C i k → C j k → i = j)
    (hrM : ∀ (j : Nat) (p : α × Value), M[j]? = some p → E.own w (D j) p.2 p.1) (hD : ∀ j k, j < M.length → D j k → Su k) (hdM : ∀ i j k, i < M.length → j < M.length → D i k → D j k → i = j)
    (hS : ∀ k, S k → k < w.heap.size) (hSu : ∀ k, Su k → k < w.heap.size ∧ ¬ S k) (hW : Below w.heap.size w W1)
    (hown : w1.ownsRow 0 e E.n (.slice (some ⟨gg, 0, none⟩) (n + m) cap) (n + m) (cellsE E L ++ cellsE E M)) (hgr : W1.grownBy w1 v.ownBlock) (hat : v.ownBlock = some gg ∨ w.heap.size ≤ gg)
    (hS' : ∀ k, S k ∨ Su k ∨ k = gg → S' k) : ListO E e w1 S' (.slice (some ⟨gg, 0, none⟩) (n + m) cap) (L.map Prod.fst ++ M.map Prod.fst) := by
  subst hn
  subst hm
  have same : ∀ j, j < w.heap.size → v.ownBlock ≠ some j → w1.heap[j]? = w.heap[j]? := fun j hj hne => (hgr.block j (Nat.lt_of_lt_of_le hj hW.size) (fun e => hne e.symm)).trans (hW.block j hj)
  have hSub : ∀ k, Su k → v.ownBlock ≠ some k := fun k hk e => (hSu k hk).2 (hb k e)
  rw [← cellsE_append] at hown
  refine .row gg (L.length + M.length) cap (L ++ M) (fun j k => if j < L.length then C j k else D (j - L.length) k) _ (by simp) (by simp) (hS' gg (.inr (.inr rfl))) hown ?_ ?_ ?_
  · intro j p hj
    by_cases hjl : j < L.length
    · rw [List.getElem?_append_left hjl] at hj
      refine E.ownSub (E.ownFrame (hr j p hj) fun k hk hks => same k hks (hC j k hjl hk).2) fun k hk => ?_
      rw [if_pos hjl]; exact hk
    · rw [List.getElem?_append_right (by omega)] at hj
      have hjm := (List.getElem?_eq_some_iff.1 hj).1
      refine E.ownSub (E.ownFrame (hrM _ p hj) fun k hk hks => same k hks (hSub k (hD _ k hjm hk))) fun k hk => ?_
      rw [if_neg hjl]; exact hk
  · intro j k hj hk
    by_cases hjl : j < L.length
    · rw [if_pos hjl] at hk
      have h1 := hC j k hjl hk
      refine ⟨hS' k (.inl h1.1), fun e => ?_⟩
      subst e
      rcases hat with h | h
      · exact h1.2 h
      · have := hS k h1.1; omega
    · rw [if_neg hjl] at hk
      have h1 := hD _ k (by omega) hk
      refine ⟨hS' k (.inr (.inl h1)), fun e => ?_⟩
      subst e
      rcases hat with h | h
      · exact hSub k h1 h
      · have := (hSu k h1).1; omega
  · intro i j k hi hj hik hjk
    by_cases hil : i < L.length
    · rw [if_pos hil] at hik
      by_cases hjl : j < L.length
      · rw [if_pos hjl] at hjk
        exact hd i j k hil hjl hik hjk
      · rw [if_neg hjl] at hjk
        exact absurd (hC i k hil hik).1 (hSu k (hD _ k (by omega) hjk)).2
    · rw [if_neg hil] at hik
      by_cases hjl : j < L.length
      · rw [if_pos hjl] at hjk
        exact absurd (hC j k hjl hjk).1 (hSu k (hD _ k (by omega) hik)).2
      · rw [if_neg hjl] at hjk
        have := hdM _ _ k (by omega) (by omega) hik hjk
        omega

/-- What is left of a map, some variables struck. -/
def without (f : Ent) (s : List Bd) : Ent := fun v => if getB s v = true then none else f v
theorem without_nil (f : Ent) : without f [] = f := by funext v; rfl
theorem getB_snoc (s : List Bd) (x : Bd) (v : Int) : getB (s ++ [x]) v = (getB s v || decide (x.v = v)) := by
  cases h : getB (s ++ [x]) v with
  | false =>
    have h1 := getO_none.1 (getB_none.1 h)
    have h2 : getB s v = false := getB_none.2 (getO_none.2 fun b hb => h1 b (by simp [hb]))
    have h3 : ¬ x.v = v := h1 x (by simp)
    rw [h2]; simp [h3]
  | true =>
    cases h2 : getB s v with
    | true => rfl
    | false =>
      by_cases e : x.v = v
      · simp [e]
      · have : getB (s ++ [x]) v = false := getB_none.2 (getO_none.2 fun b hb => by
          rcases List.mem_append.1 hb with hb | hb
          · exact getO_none.1 (getB_none.1 h2) b hb
          · simp at hb; subst hb; exact e)
        rw [this] at h; cases h
theorem without_del {f : Ent} {s : List Bd} {k : Nat} {x : Bd} (hx : s[k]? = some x) : delF (without f (s.take k)) x.v = without f (s.take (k + 1)) := by
  funext v
  unfold without
  rw [takeE hx, getB_snoc]
  by_cases e : v = x.v
  · subst e
    rw [delF_self]; simp
  · rw [delF_ne _ e]
    have : ¬ x.v = v := fun h => e h.symm
    simp [this]
/-- What comes out of the rest of the map is the rest. -/
theorem binds_rest {f : Ent} {s t l : List Bd} (ht : SubstP t) (hf : ∀ v, (f v).map Prod.fst = getO t v) (h : BindsOf (without f s) l) : l.Perm (rest s t) := by
  have hu := ht.1.uniq
  have nd : l.Nodup := by
    rw [List.nodup_iff_pairwise_ne]
    exact h.once.imp fun {a b} hab e => hab (by rw [e])
  have ndr : (rest s t).Nodup := by
    rw [List.nodup_iff_pairwise_ne]
    exact (ht.1.pair.sublist List.filter_sublist).imp fun {a b} hab e => by rw [e] at hab; omega
  refine (List.perm_ext_iff_of_nodup nd ndr).2 fun b => ⟨fun hb => ?_, fun hb => ?_⟩
  · obtain ⟨U, hU⟩ := h.come b hb
    unfold without at hU
    split at hU
    · cases hU
    · rename_i hn
      have hg : getO t b.v = some b.t := by rw [← hf b.v, hU]; rfl
      obtain ⟨c, hc, h1, h2⟩ := getO_some hg
      have : c = b := by cases c; cases b; simp at h1 h2; rw [h1, h2]
      subst this
      refine List.mem_filter.2 ⟨hc, ?_⟩
      cases hgb : getB s c.v with
      | true => exact absurd hgb hn
      | false => rfl
  · obtain ⟨hb1, hb2⟩ := List.mem_filter.1 hb
    have hgb : getB s b.v = false := by simpa using hb2
    have hg := getO_uniq hu hb1
    have hsome : (without f s b.v).isSome = true := by
      unfold without
      rw [if_neg (by rw [hgb]; simp)]
      have := hf b.v
      rw [hg] at this
      cases hfv : f b.v with
      | none => rw [hfv] at this; cases this
      | some p => rfl
    obtain ⟨c, hc, hcv⟩ := h.all b.v hsome
    obtain ⟨U, hU⟩ := h.come c hc
    rw [hcv] at hU
    unfold without at hU
    rw [if_neg (by rw [hgb]; simp)] at hU
    have h3 := hf b.v
    rw [hU, hg] at h3
    simp at h3
    have : c = b := by cases c; cases b; simp at hcv h3; rw [hcv, h3]
    exact this ▸ hc
theorem rest_vars {s t : List Bd} (hs : SubstP s) (ht : SubstP t) : ∀ b ∈ cmpB s t, wfI b.v := by
  intro b hb
  rw [cmpB, foldB_mem] at hb
  have key : ∀ {u : List Bd}, SubstP u → ∀ c ∈ u, wfI c.v := fun hu c hc => by
    obtain ⟨i, hi⟩ := List.getElem?_of_mem hc
    have := (hu.1.1 i c hi).1
    exact wfI_of (by omega) (by omega)
  rcases hb with hb | hb
  · exact key ht b (List.mem_filter.1 hb).1
  · obtain ⟨c, hc, rfl⟩ := List.mem_map.1 (List.mem_filter.1 hb).1
    exact key hs c hc
theorem fits_take {s t : List Bd} (h : ∀ (i : Nat) (b : Bd), i < s.length → s[i]? = some b → (putT t b.t).nodes ≤ 5000) : ∀ b ∈ s, (putT t b.t).nodes ≤ 5000 := fun b hb => by
  obtain ⟨i, hi⟩ := List.getElem?_of_mem hb
  exact h i b (List.getElem?_eq_some_iff.1 hi).1 hi
theorem listO_cases {α : Type} {E : El α} {e : TypeId} {w : World} {S : Nat → Prop} {v : Value} {l : List α} (h : ListO E e w S v l) : (v = .slice none 0 0 ∧ l = []) ∨ ∃ (g cap : Nat) (L : List (α × Value)) (C : Nat → Nat → Prop), v = .slice (some ⟨g, 0, none⟩) L.length cap ∧ l = L.map Prod.fst ∧ S g ∧ w.ownsRow 0 e E.n (.slice (some ⟨g, 0, none⟩) L.length cap) L.length (cellsE E L) ∧ (∀ (j : Nat) (p : α × Value), L[j]? = some p → E.own w (C j) p.2 p.1) ∧ (∀ j k, j < L.length → C j k → S k ∧ k ≠ g) ∧ (∀ i j k, i < L.length → j < L.length → C i k → C j k → i = j) := by
  cases h with
  | nil => exact .inl ⟨rfl, rfl⟩
  | row g n cap L C l hl hn hg hown hr hC hd => subst hn; exact .inr ⟨g, cap, L, C, rfl, hl, hg, hown, hr, hC, hd⟩
theorem row_news {w : World} {e : TypeId} {g n cap : Nat} {L : List (Bd × Value)} (h : w.ownsRow 0 e bdE.n (.slice (some ⟨g, 0, none⟩) n cap) n (cellsE bdE L)) (hn : n = L.length) : ∀ j u, (cellsE bdE L)[j]? = some u → w.cell? ((⟨g, 0, none⟩ : Addr).add j) = some u := by
  intro j u hu
  have hj := (List.getElem?_eq_some_iff.1 hu).1
  rw [cellsE_length] at hj
  rw [add_at5, Nat.zero_add, World.ownsRow.cellAt h _ (by rw [hn]; exact hj)]
  exact hu
theorem below_after_only {B : Nat} {S : Nat → Prop} {w0 w w' : World} (h : Below B w0 w) (ho : Only S w w') (hS : ∀ k, S k → B ≤ k) (hB : B ≤ w.heap.size) : Below B w0 w' := h.trans (ho.below hS hB)

set_option maxRecDepth 100000 in
set_option maxHeartbeats 16000000 in
theorem implComposeSubst_any (s : List Bd) (Vs : Value) (t : List Bd) (Vt : Value) (w : World) (hA : ListS bdE w Any Vs s) (hZs : szB s ≤ 1048576) (hFs : fineB s) (hT : ListS bdE w Any Vt t) (hZt : szB t ≤ 1048576) (hFt : fineB t) :
    Calls Tryz.prog 7 #[Vs, Vt] w (NewB2 (coL s t) (coB s t) w) := by
  obtain ⟨i0, hi, hz0, hz1, hz2⟩ := info_parts infoBinding
  have HII := Lib.hid (And.intro hi (And.intro hz0 (And.intro hz1 hz2)))
  obtain ⟨a, cap, rfl⟩ := hA.slice
  obtain ⟨ta, tc, rfl⟩ := hT.slice
  have HE := Lib.hid (eachB_of hZs)
  have HEt := Lib.hid (eachB_of hZt)
  have HF := Lib.hid hFs.wf
  have HFt := Lib.hid hFt.wf
  have HA := Lib.hid hA
  have HT := Lib.hid hT
  have HNO := Lib.hid (fun (h : ¬ CompP s t) => co_no h)
  have HYES := Lib.hid (fun (h : CompP s t) => co_yes h)
  generalize coL s t = rl at HYES HNO ⊢
  generalize coB s t = rb at HYES HNO ⊢
  have HC := Lib.hid (implSubstOk_e s _ w hA HE.out HF.out)
  clear hA hT hFs hFt hi hz0 hz1 hz2
  go_enter Tryz.func7, Tryz.ntmps7
  go_wp2_with fail
  refine HC.out.mono ?_
  rintro e w0 ⟨rfl, hb⟩
  have HW := Lib.hid hb
  clear hb HC
  cases hs : substB s with
  | false =>
    obtain ⟨rfl, rfl⟩ := HNO.out fun h => substB_false.1 hs h.1
    clear hs
    go_wp2
    go_ret2
    exact ⟨_, rfl, .nil, HW.out⟩
  | true =>
  have HSP := Lib.hid (substB_true.1 hs)
  have HC := Lib.hid (implSubstOk_e t _ w0 (HT.out.kept HW.out) HEt.out HFt.out)
  clear hs
  go_wp2_with fail
  refine HC.out.mono ?_
  rintro e w1 ⟨rfl, hb⟩
  have HW1 := Lib.hid (belowOn HW.out (Nat.le_refl _) hb)
  clear hb HC HW
  cases ht : substB t with
  | false =>
    obtain ⟨rfl, rfl⟩ := HNO.out fun h => substB_false.1 ht h.2.1
    clear ht
    go_wp2
    go_ret2
    exact ⟨_, rfl, .nil, HW1.out⟩
  | true =>
  have HTP := Lib.hid (substB_true.1 ht)
  have hsl : s.length ≤ 400 := HSP.out.1.2.2
  have htl : t.length ≤ 400 := HTP.out.1.2.2
  have HC := Lib.hid (mapOf_low t _ w1 (HT.out.kept HW1.out) HEt.out.1 HFt.out)
  clear ht
  go_wp2_with fail
  refine HC.out.mono ?_
  rintro e w2 ⟨mb, rfl, hmb, hm, hb⟩
  obtain ⟨n, f, hn, hmf, hmg, hms⟩ := hm
  have HM2 := Lib.hid hmf
  have HMG := Lib.hid (fun v => (hmg v).trans (lastO_subst HTP.out v))
  have HMS := Lib.hid hms
  have HMB := Lib.hid hmb
  have hmbl : mb < w2.heap.size := hmf.lt
  have HMBL := Lib.hid hmbl
  have HL1 := Lib.hid hb.size
  have HW2 := Lib.hid (belowOn HW1.out (Nat.le_refl _) hb)
  clear hb HC hmf hmg hms hmb hmbl
  go_wp2
  go_loopw [7, 26] (fun lv cv wr => ∃ k : Nat, k ≤ s.length ∧ cv = .int .i64 k ∧ Hid (ListO bdE 47 wr (iv w2.heap.size wr.heap.size) lv ((s.take k).map (mapped t))) ∧ Hid (∀ (i : Nat) (b : Bd), i < k → s[i]? = some b → (putT t b.t).nodes ≤ 5000) ∧ Hid (Below w2.heap.size w2 wr)) (fun _ cv _ => s.length - (intOf cv).toNat)
  case atStart => exact ⟨0, Nat.zero_le _, rfl, Lib.hid .nil, Lib.hid (fun i b hi => absurd hi (Nat.not_lt_zero _)), Lib.hid (Below.refl _ _)⟩
  case round =>
    obtain ⟨k, hk, rfl, HO, HN, HB⟩ := hrel
    obtain ⟨oa, oc, rfl⟩ := HO.out.slice
    have hkl : ((s.take k).map (mapped t)).length = k := by rw [List.length_map, List.length_take]; omega
    rw [hkl] at HO ⊢
    clear hkl
    by_cases hlt : k < s.length
    · have hltI : (k : Int) < (s.length : Int) := by omega
      obtain ⟨x, hx⟩ : ∃ x, s[k]? = some x := ⟨_, List.getElem?_eq_getElem hlt⟩
      obtain ⟨g, off, u1, u2, rfl, hg, hq, hc, hu⟩ := HA.out.bd hx
      obtain ⟨d0, d1, d2, d3, d4⟩ := hc wr (belowOn HW2.out (Nat.le_refl _) HB.out)
      have HX := Lib.hid hx
      have HXO := Lib.hid (HSP.out.1.1 k x hx).2
      have HU := Lib.hid (hu.at.kept (belowOn HW2.out (Nat.le_refl _) HB.out))
      have hxz : x.t.sz ≤ 1048576 := by have := HE.out.2 x (List.mem_of_getElem? hx); omega
      clear hq hc hu hx
      go_upto_region 8 with (fail)
      have hal : Below wr.heap.size wr (wr.alloc (.cells #[.int .i64 x.v, .int .i64 x.t.kind, .int .i64 x.t.num, .string x.t.name, .slice u1 x.t.args.length u2] 47)) := belowAlloc (Below.refl _ _) _
      have HBX := Lib.hid (at_box_of wr #[.int .i64 x.v, .int .i64 x.t.kind, .int .i64 x.t.num, .string x.t.name, .slice u1 x.t.args.length u2] 47 wr.heap.size rfl)
      have HO1 := Lib.hid ((HO.out.kept hal).sub (fun j hj => (⟨hj.1, by have := hj.2; have := hal.size; omega⟩ : iv w2.heap.size (wr.alloc (.cells #[.int .i64 x.v, .int .i64 x.t.kind, .int .i64 x.t.num, .string x.t.name, .slice u1 x.t.args.length u2] 47)).heap.size j)))
      have HB1 := Lib.hid (belowOn HB.out (Nat.le_refl _) hal)
      have HU1 := Lib.hid (HU.out.kept hal)
      clear hal d0 d1 d2 d3 d4 HO HB HU
      generalize hw1 : wr.alloc (.cells #[.int .i64 x.v, .int .i64 x.t.kind, .int .i64 x.t.num, .string x.t.name, .slice u1 x.t.args.length u2] 47) = w3 at HBX HO1 HB1 HU1 ⊢
      clear hw1
      generalize wr.heap.size = nb at HBX ⊢
      have HMW : Hid (MapG w3 mb (getO t)) := Lib.hid ⟨n, f, hn, HM2.out.kept HB1.out, HMG.out, fun v p hp => (HMS.out v p hp).at.kept HB1.out⟩
      have HC := Lib.hid (apply_any mb t x.t _ w3 HMW.out HTP.out.fits HU1.out hxz HXO.out.2)
      have HFZ := Lib.hid (fitT_sz HTP.out.fits HXO.out.2)
      have HFY := Lib.hid (fun h => fit_yes (s := t) (t := x.t) h)
      have HFN := Lib.hid (fun h => fit_no (s := t) (t := x.t) h)
      generalize fitT t x.t = ft at HC HFZ HFY HFN
      generalize fitB t x.t = fb at HC HFY HFN
      obtain ⟨e0, e1, e2, e3, e4, ef⟩ := box_cells5 HBX.out.now
      go_wp2_with fail
      refine HC.out.mono ?_
      rintro e w4 ⟨u, rfl, hnt⟩
      obtain ⟨ua, uc, rfl⟩ := hnt.1.argsAt.slice
      have hb4 := belowAlloc hnt.2 (.cells #[.int .i64 ft.kind, .int .i64 ft.num, .string ft.name, .slice ua ft.args.length uc] 27)
      have HBX4 := Lib.hid (HBX.out.read hb4)
      have HFX4 := Lib.hid (at_box_of w4 #[.int .i64 ft.kind, .int .i64 ft.num, .string ft.name, .slice ua ft.args.length uc] 27 w4.heap.size rfl)
      have HO4 := Lib.hid (HO1.out.kept hb4)
      have HN4 : Hid (Own (w4.alloc (.cells #[.int .i64 ft.kind, .int .i64 ft.num, .string ft.name, .slice ua ft.args.length uc] 27)) 27 (iv w3.heap.size w4.heap.size) (.slice ua ft.args.length uc) ft.args) := Lib.hid (hnt.1.kept (belowAlloc (Below.refl _ _) _))
      have HB4 := Lib.hid (belowOn HB1.out (Nat.le_refl _) hb4)
      have HB3 := Lib.hid HB1.out.size
      have HS4 : Hid (w3.heap.size ≤ w4.heap.size ∧ w4.heap.size < (w4.alloc (.cells #[.int .i64 ft.kind, .int .i64 ft.num, .string ft.name, .slice ua ft.args.length uc] 27)).heap.size) := Lib.hid ⟨hnt.2.size, by simp⟩
      clear hb4 hnt HC e0 e1 e2 e3 e4 ef HBX HO1 HB1 HU1 HMW
      go_upto_region 9 with (fail)
      generalize hw1 : w4.alloc (.cells #[.int .i64 ft.kind, .int .i64 ft.num, .string ft.name, .slice ua ft.args.length uc] 27) = w5 at HBX4 HFX4 HO4 HN4 HB4 HS4 ⊢
      clear hw1
      obtain ⟨n4, hn4⟩ : ∃ n : Nat, n = w4.heap.size := ⟨_, rfl⟩
      rw [← hn4] at HFX4 HN4 HS4 ⊢
      clear hn4
      by_cases hfit : (putT t x.t).nodes ≤ 5000
      · obtain ⟨rfl, rfl⟩ := HFY.out hfit
        have HFIT := Lib.hid hfit
        have HMP : Hid ((s.take (k + 1)).map (mapped t) = (s.take k).map (mapped t) ++ [⟨x.v, putT t x.t⟩]) := Lib.hid (by rw [takeE HX.out, List.map_append]; rfl)
        clear hfit HFY HFN
        generalize putT t x.t = pt at HFX4 HN4 HFZ HMP HS4 HO4 HB4 HBX4 ⊢
        obtain ⟨L, C, hL1, hrow, hbk, hr, hC, hd⟩ := HO4.out.parts
        have hLn : k = L.length := by have := congrArg List.length hL1; rw [List.length_map, List.length_map, List.length_take] at this; omega
        rw [← hLn] at hrow
        have HROW := Lib.hid hrow
        have HPA := Lib.hid (And.intro hL1 (And.intro hLn (And.intro hbk (And.intro hr (And.intro hC hd)))))
        clear hL1 hLn hrow hbk hr hC hd HO4
        obtain ⟨e0, e1, e2, e3, e4, ef⟩ := box_cells5 HBX4.out.now
        obtain ⟨f0, f1, f2, f3⟩ := HFX4.out.cells
        have z1 := HFX4.out.le
        go_wp2_with (at_builtin; refine wpList_append_lies _ rfl _ _ 23 rfl 0 47 i0 _ 5 64 Tryz.underlying23 HII.out.1 HII.out.2.1 HII.out.2.2.1 HII.out.2.2.2 rfl (by omega) (.slice oa k oc) k (cellsE bdE L) rfl (HROW.out.alloc _) ⟨w5.heap.size, 0, none⟩ 1 1 (bdE.cells ⟨x.v, pt⟩ (.slice ua pt.args.length uc)) rfl rfl (World.news_of_block (heap_alloc_new w5 _)) (by simp [bdE, Value.oneCell']) (by omega) (by unfold maxLen; omega) (by omega) (Nat.zero_le _) (w5.heap.size + 1) (by simp) ?_; intro gg cap' w6 hown1 hgrow hat hlt1; have HAP := Lib.hid (And.intro hown1 (And.intro hgrow (And.intro hat hlt1))); clear hown1 hgrow hat hlt1)
        have HLO : Hid (ListO bdE 47 w6 (iv w2.heap.size w6.heap.size) (.slice (some ⟨gg, 0, none⟩) (k + 1) cap') ((s.take (k + 1)).map (mapped t))) := Lib.hid (by
          have hgs := HAP.out.2.1.size
          simp only [World.size_alloc] at hgs
          have hb4 := HB4.out.size
          have hs4 := HS4.out
          have h := listO_append (E := bdE) (x := ⟨x.v, pt⟩) (S' := iv w2.heap.size w6.heap.size) HPA.out.2.1 HPA.out.2.2.1 HPA.out.2.2.2.1 HPA.out.2.2.2.2.1 HPA.out.2.2.2.2.2 HN4.out (fun j hj => by have := hj.2; omega) (fun j hj => ⟨by have := hj.2; omega, fun h => by have h1 := hj.1; have h2 := h.2; omega⟩) (belowAlloc (Below.refl _ _) _) HAP.out.1 HAP.out.2.1 (HAP.out.2.2.1.imp id (fun h => by omega)) (fun j hj => by
            have hl := HAP.out.2.2.2
            rcases hj with hj | hj | hj
            · exact ⟨hj.1, by have := hj.2; omega⟩
            · exact ⟨by have := hj.1; have := HB3.out; omega, by have := hj.2; omega⟩
            · subst hj
              refine ⟨?_, hl⟩
              rcases HAP.out.2.2.1 with h | h
              · exact (HPA.out.2.2.1 _ h).1
              · omega)
          rw [← HPA.out.1, ← HMP.out] at h
          exact h)
        have HBF : Hid (Below w2.heap.size w2 w6) := Lib.hid ((belowAlloc HB4.out _).trans (below_of_grown HAP.out.2.1 (by have := HB4.out.size; simp; omega) (fun j hj => by have h := (HPA.out.2.2.1 j hj).1; omega)))
        clear HAP HPA HROW e0 e1 e2 e3 e4 ef f0 f1 f2 f3 z1
        go_roundw
        case rel =>
          refine ⟨k + 1, by omega, by go_num, HLO, Lib.hid fun i y hi hy => ?_, HBF⟩
          by_cases q : i = k
          · subst q
            cases hy.symm.trans HX.out
            exact HFIT.out
          · exact HN.out i y (by omega) hy
        case measure => simp [intOf]; omega
      · obtain ⟨rfl, rfl⟩ := HFN.out hfit
        obtain ⟨rfl, rfl⟩ := HNO.out fun h => hfit (h.2.2.1 x (List.mem_of_getElem? HX.out))
        clear hfit HFY HFN
        go_wp2
        go_ret2
        exact ⟨_, rfl, .nil, belowOn HW2.out (Nat.le_refl _) HB4.out⟩
    · obtain rfl : k = s.length := by omega
      obtain ⟨wo, rfl⟩ : ∃ wo : World, wo = wr := ⟨_, rfl⟩
      have HFITS := Lib.hid (fits_take HN.out)
      have HO3 : Hid (ListO bdE 47 wo (iv w2.heap.size wo.heap.size) (.slice oa s.length oc) (s.map (mapped t))) := Lib.hid (by have := HO.out; rw [List.take_length] at this; exact this)
      have HW3 := Lib.hid (belowOn HW2.out (Nat.le_refl _) HB.out)
      have HM3 : Hid (MapF wo mb n (without f (s.take 0))) := Lib.hid (by rw [List.take_zero, without_nil]; exact HM2.out.kept HB.out)
      have HLOW : Hid (w.heap.size ≤ mb ∧ mb < w2.heap.size ∧ w2.heap.size ≤ wo.heap.size ∧ w.heap.size ≤ w1.heap.size ∧ w1.heap.size ≤ mb) := Lib.hid ⟨by have := HW1.out.size; have := HMB.out; omega, HMBL.out, HB.out.size, HW1.out.size, HMB.out⟩
      clear HO HN
      go_wp2
      go_loopw [49] (fun cv wr => ∃ k : Nat, k ≤ s.length ∧ cv = .int .i64 k ∧ Hid (MapF wr mb n (without f (s.take k))) ∧ Hid (Only (fun j => j = mb) wo wr)) (fun cv _ => s.length - (intOf cv).toNat)
      case atStart => exact ⟨0, Nat.zero_le _, rfl, HM3, Lib.hid (Only.refl _ _)⟩
      case round =>
        obtain ⟨k, hk, rfl, HMK, HOK⟩ := hrel
        clear HM3
        have HWQ : Hid (Below w.heap.size w wr) := Lib.hid (below_after_only HW3.out HOK.out (fun j hj => by subst hj; exact HLOW.out.1) (by have := HLOW.out; omega))
        by_cases hlt : k < s.length
        · have hltI : (k : Int) < (s.length : Int) := by omega
          obtain ⟨x, hx⟩ : ∃ x, s[k]? = some x := ⟨_, List.getElem?_eq_getElem hlt⟩
          obtain ⟨g, off, u1, u2, rfl, hg, hq, hc, hu⟩ := HA.out.bd hx
          obtain ⟨d0, d1, d2, d3, d4⟩ := hc wr HWQ.out
          have HWX := Lib.hid (without_del (f := f) hx)
          have HWFX := Lib.hid (HF.out x (List.mem_of_getElem? hx))
          clear hq hc hu hx
          go_upto_region 16 with (fail)
          have hal : Below wr.heap.size wr (wr.alloc (.cells #[.int .i64 x.v, .int .i64 x.t.kind, .int .i64 x.t.num, .string x.t.name, .slice u1 x.t.args.length u2] 47)) := belowAlloc (Below.refl _ _) _
          have HBX := Lib.hid (at_box_of wr #[.int .i64 x.v, .int .i64 x.t.kind, .int .i64 x.t.num, .string x.t.name, .slice u1 x.t.args.length u2] 47 wr.heap.size rfl)
          have HM4 := Lib.hid (HMK.out.kept hal)
          have HO4 : Hid (Only (fun j => j = mb) wo (wr.alloc (.cells #[.int .i64 x.v, .int .i64 x.t.kind, .int .i64 x.t.num, .string x.t.name, .slice u1 x.t.args.length u2] 47))) := Lib.hid (HOK.out.trans (Only.of_below hal))
          clear hal d0 d1 d2 d3 d4 HMK HOK HWQ
          generalize hw1 : wr.alloc (.cells #[.int .i64 x.v, .int .i64 x.t.kind, .int .i64 x.t.num, .string x.t.name, .slice u1 x.t.args.length u2] 47) = w4 at HBX HM4 HO4 ⊢
          clear hw1
          generalize wr.heap.size = nb at HBX ⊢
          obtain ⟨e0, e1, e2, e3, e4, ef⟩ := box_cells5 HBX.out.now
          go_wp2_with (at_delete; refine wpList_del _ rfl _ _ rfl mb n (without f (s.take k)) rfl HM4.out x.v rfl HWFX.out ?_; intro w5 hm5 hg5; have HG := Lib.hid (And.intro hm5 hg5); clear hm5 hg5)
          have HO5 : Hid (Only (fun j => j = mb) wo w5) := Lib.hid (HO4.out.trans (Only.of_grown HG.out.2 rfl))
          clear e0 e1 e2 e3 e4 ef
          go_roundw
          case rel => exact ⟨k + 1, by omega, by go_num, Lib.hid (by rw [← HWX.out]; exact HG.out.1), HO5⟩
          case measure => simp [intOf]; omega
        · obtain rfl : k = s.length := by omega
          have HMF : Hid (MapF wr mb n (without f s)) := Lib.hid (by have := HMK.out; rw [List.take_length] at this; exact this)
          have HLQ : Hid (ListO bdE 47 wr (iv w2.heap.size wo.heap.size) (.slice oa s.length oc) (s.map (mapped t))) := Lib.hid (HO3.out.only HOK.out fun j hj e => by subst e; have := HLOW.out; have := hj.1; omega)
          have HSQ := Lib.hid HOK.out.size
          have HARG : Hid (∀ v p, without f s v = some p → ArgsAt wr p.2 p.1.args ∧ p.1.sz ≤ 1048576 ∧ Good p.1) := Lib.hid fun v p hp => by
            have hfp : f v = some p := by
              unfold without at hp
              split at hp
              · cases hp
              · exact hp
            have hg : getO t v = some p.1 := by rw [← HMG.out v, hfp]; rfl
            obtain ⟨ho, hz⟩ := HTP.out.fits.get hg
            have hfr := (HMS.out v p hfp).kept HB.out
            have hlow := HLOW.out
            exact ⟨(hfr.frame HOK.out.size fun j hj hjs => HOK.out.block j hjs (fun e => by subst e; omega)).at, hz, ho.2⟩
          have HC := Lib.hid (bindings_any mb n (without f s) wr HMF.out HARG.out hn)
          clear HMK HOK HO3
          go_wp2_with fail
          refine HC.out.mono ?_
          rintro e w5 ⟨V2, l2, rfl, hl2, hni, hbo, hln, hb5⟩
          have HPR := Lib.hid (binds_rest HTP.out HMG.out hbo)
          have HL5 := Lib.hid (HLQ.out.kept hb5)
          have HW5 := Lib.hid (belowOn HWQ.out (Nat.le_refl _) hb5)
          have HS5 := Lib.hid hb5.size
          have hl2n : l2.length ≤ 1048576 := by omega
          obtain ⟨L, C, hL1, hrow, hbk, hr, hC, hd⟩ := HL5.out.parts
          have hLn : s.length = L.length := by have := congrArg List.length hL1; rw [List.length_map, List.length_map] at this; exact this
          rw [← hLn] at hrow
          have HROW := Lib.hid hrow
          have HPA := Lib.hid (And.intro hL1 (And.intro hLn (And.intro hbk (And.intro hr (And.intro hC hd)))))
          clear hL1 hLn hrow hbk hr hC hd HC hbo hb5 HMF HARG hln
          rcases listO_cases hl2 with ⟨rfl, rfl⟩ | ⟨g2, cap2, M, D, rfl, hlM, hg2, hownM, hrM, hDM, hdM⟩
          · clear hl2 hni
            go_wp2_with (at_builtin; refine wpList_append_own_none rfl _ _ 23 rfl 0 47 i0 5 Tryz.underlying23 HII.out.1 (.slice oa s.length oc) s.length (cellsE bdE L) rfl HROW.out rfl ?_)
            have HL6 : Hid (ListO bdE 47 w5 (iv w2.heap.size w5.heap.size) (.slice oa s.length oc) (s.map (mapped t) ++ [])) := Lib.hid (by
              rw [List.append_nil]
              exact HL5.out.sub fun j hj => ⟨hj.1, by have := hj.2; have := HS5.out; have := HSQ.out; omega⟩)
            have hlen6 : (s.map (mapped t) ++ []).length ≤ 4194304 := by rw [List.length_append, List.length_map]; simp; omega
            have HW6 := HW5
            have HS6 : Hid (w2.heap.size ≤ w5.heap.size) := Lib.hid (by have := HS5.out; have := HSQ.out; have := HLOW.out; omega)
            clear HPA HROW
            have HC := Lib.hid (sortB_any _ _ _ w5 HL6.out hlen6)
            go_wp2_with fail
            refine HC.out.mono ?_
            rintro e w7 ⟨rfl, m, hpm, hpw, hlm, hom⟩
            have HMC := Lib.hid (sorted_is HSP.out HTP.out HPR.out hpm hpw)
            have HW7 : Hid (Below w.heap.size w w7) := Lib.hid (below_after_only HW6.out hom (fun j hj => by have := hj.1; have := HLOW.out; omega) HW6.out.size)
            have HL7 := Lib.hid hlm
            have HS7 := Lib.hid hom.size
            clear hpm hpw hlm hom HC hlen6
            have HCB : Hid (EachB m ∧ ∀ b ∈ m, wfI b.v) := Lib.hid (by rw [HMC.out]; exact ⟨cmpB_each HSP.out HTP.out HFITS.out, rest_vars HSP.out HTP.out⟩)
            have HC := Lib.hid (implSubstOk_e m _ w7 HL7.out.inS.any HCB.out.1 HCB.out.2)
            have HR : Hid ((substB m = true → rl = m ∧ rb = true) ∧ (substB m = false → rl = [] ∧ rb = false)) := Lib.hid (by
              rw [HMC.out]
              exact ⟨fun h => HYES.out ⟨HSP.out, HTP.out, HFITS.out, substB_true.1 h⟩, fun h => HNO.out fun hc => substB_false.1 h hc.2.2.2⟩)
            go_wp2_with fail
            refine HC.out.mono ?_
            rintro e w8 ⟨rfl, hb⟩
            have HW8 := Lib.hid (belowOn HW7.out (Nat.le_refl _) hb)
            have HL8 := Lib.hid (HL7.out.kept hb)
            have HS8 := Lib.hid hb.size
            clear hb HC
            cases hcs : substB m with
            | false =>
              obtain ⟨rfl, rfl⟩ := HR.out.2 hcs
              clear hcs
              go_wp2
              go_ret2
              exact ⟨_, rfl, .nil, HW8.out⟩
            | true =>
              obtain ⟨rfl, rfl⟩ := HR.out.1 hcs
              clear hcs
              go_wp2
              go_ret2
              exact ⟨_, rfl, HL8.out.sub fun j hj => ⟨by have := hj.1; have := HLOW.out; have := HS6.out; omega, by have := hj.2; have := HS7.out; have := HS8.out; omega⟩, HW8.out⟩
          · have hMp : 0 < M.length := by
              rcases Nat.eq_zero_or_pos M.length with h | h
              · have h1 := hni (by rw [hlM, List.length_eq_zero_iff.1 h]; rfl)
                simp at h1
              · exact h
            have hMl : M.length ≤ 1048576 := by rw [hlM, List.length_map] at hl2n; exact hl2n
            have HMM := Lib.hid (And.intro hlM (And.intro hg2 (And.intro hrM (And.intro hDM hdM))))
            have HNEW := Lib.hid (row_news hownM rfl)
            have HONE : Hid (∀ u ∈ cellsE bdE M, u.oneCell' = true) := Lib.hid (bd_one fun j p hj => by
              obtain ⟨a, c, ha⟩ := (show Own w5 27 (D j) p.2 p.1.t.args from hrM j p hj).argsAt.slice
              rw [ha]; rfl)
            have HCL := Lib.hid (cellsE_length bdE M)
            clear hl2 hni hlM hg2 hownM hrM hDM hdM
            go_wp2_with (at_builtin; refine wpList_append_lies _ rfl _ _ 23 rfl 0 47 i0 _ 5 64 Tryz.underlying23 HII.out.1 HII.out.2.1 HII.out.2.2.1 HII.out.2.2.2 rfl (by omega) (.slice oa s.length oc) s.length (cellsE bdE L) rfl HROW.out ⟨g2, 0, none⟩ M.length cap2 (cellsE bdE M) rfl HCL.out HNEW.out HONE.out hMp (by unfold maxLen; omega) (by omega) (Nat.zero_le _) w5.heap.size rfl ?_; intro gg cap' w6 hown1 hgrow hat hlt1; have HAP := Lib.hid (And.intro hown1 (And.intro hgrow (And.intro hat hlt1))); clear hown1 hgrow hat hlt1)
            have HS6 : Hid (w2.heap.size ≤ w6.heap.size ∧ w5.heap.size ≤ w6.heap.size) := Lib.hid (by have := HS5.out; have := HSQ.out; have := HLOW.out; have := HAP.out.2.1.size; omega)
            have HL6 : Hid (ListO bdE 47 w6 (iv w2.heap.size w6.heap.size) (.slice (some ⟨gg, 0, none⟩) (s.length + M.length) cap') (s.map (mapped t) ++ l2)) := Lib.hid (by
              have hs5 := HS5.out
              have hsq := HSQ.out
              have hlow := HLOW.out
              have hs6 := HS6.out
              have h := listO_both (E := bdE) (S := iv w2.heap.size wo.heap.size) (Su := iv wr.heap.size w5.heap.size) (S' := iv w2.heap.size w6.heap.size) HPA.out.2.1 rfl HPA.out.2.2.1 HPA.out.2.2.2.1 HPA.out.2.2.2.2.1 HPA.out.2.2.2.2.2 HMM.out.2.2.1 (fun j k hj hk => (HMM.out.2.2.2.1 j k hj hk).1) HMM.out.2.2.2.2 (fun j hj => by have := hj.2; omega) (fun j hj => ⟨hj.2, fun h => by have h1 := hj.1; have h2 := h.2; omega⟩) (Below.refl w5.heap.size w5) HAP.out.1 HAP.out.2.1 (HAP.out.2.2.1.imp id (fun h => by omega)) (fun j hj => by
                have hl := HAP.out.2.2.2
                rcases hj with hj | hj | hj
                · exact ⟨hj.1, by have := hj.2; omega⟩
                · exact ⟨by have := hj.1; omega, by have := hj.2; omega⟩
                · subst hj
                  refine ⟨?_, hl⟩
                  rcases HAP.out.2.2.1 with h | h
                  · exact (HPA.out.2.2.1 _ h).1
                  · omega)
              rw [← HPA.out.1, ← HMM.out.1] at h
              exact h)
            have hlen6 : (s.map (mapped t) ++ l2).length ≤ 4194304 := by rw [List.length_append, List.length_map]; have := HMM.out.1; rw [this, List.length_map]; omega
            have HW6 : Hid (Below w.heap.size w w6) := Lib.hid (HW5.out.trans (below_of_grown HAP.out.2.1 HW5.out.size (fun j hj => by have h := (HPA.out.2.2.1 j hj).1; have := HLOW.out; omega)))
            replace HS6 : Hid (w2.heap.size ≤ w6.heap.size) := Lib.hid HS6.out.1
            clear HPA HROW HAP HMM HNEW HONE HCL
            have HC := Lib.hid (sortB_any _ _ _ w6 HL6.out hlen6)
            go_wp2_with fail
            refine HC.out.mono ?_
            rintro e w7 ⟨rfl, m, hpm, hpw, hlm, hom⟩
            have HMC := Lib.hid (sorted_is HSP.out HTP.out HPR.out hpm hpw)
            have HW7 : Hid (Below w.heap.size w w7) := Lib.hid (below_after_only HW6.out hom (fun j hj => by have := hj.1; have := HLOW.out; omega) HW6.out.size)
            have HL7 := Lib.hid hlm
            have HS7 := Lib.hid hom.size
            clear hpm hpw hlm hom HC hlen6
            have HCB : Hid (EachB m ∧ ∀ b ∈ m, wfI b.v) := Lib.hid (by rw [HMC.out]; exact ⟨cmpB_each HSP.out HTP.out HFITS.out, rest_vars HSP.out HTP.out⟩)
            have HC := Lib.hid (implSubstOk_e m _ w7 HL7.out.inS.any HCB.out.1 HCB.out.2)
            have HR : Hid ((substB m = true → rl = m ∧ rb = true) ∧ (substB m = false → rl = [] ∧ rb = false)) := Lib.hid (by
              rw [HMC.out]
              exact ⟨fun h => HYES.out ⟨HSP.out, HTP.out, HFITS.out, substB_true.1 h⟩, fun h => HNO.out fun hc => substB_false.1 h hc.2.2.2⟩)
            go_wp2_with fail
            refine HC.out.mono ?_
            rintro e w8 ⟨rfl, hb⟩
            have HW8 := Lib.hid (belowOn HW7.out (Nat.le_refl _) hb)
            have HL8 := Lib.hid (HL7.out.kept hb)
            have HS8 := Lib.hid hb.size
            clear hb HC
            cases hcs : substB m with
            | false =>
              obtain ⟨rfl, rfl⟩ := HR.out.2 hcs
              clear hcs
              go_wp2
              go_ret2
              exact ⟨_, rfl, .nil, HW8.out⟩
            | true =>
              obtain ⟨rfl, rfl⟩ := HR.out.1 hcs
              clear hcs
              go_wp2
              go_ret2
              exact ⟨_, rfl, HL8.out.sub fun j hj => ⟨by have := hj.1; have := HLOW.out; have := HS6.out; omega, by have := hj.2; have := HS7.out; have := HS8.out; omega⟩, HW8.out⟩
end Go.Proofs.YtjmmeccfjanpcaaGreatDoor

