/-
  The program's substitutions applied: roomAfter, applied, apply, solves.
  Lookup, ApplySubst, MoreGeneral of the program.
-/
import Derived.Test.YtnmdnajbafpfiaaMapSubst
import Derived.Test.YtnmdnajbafpfiaaSpecSubs
import Derived.Test.YtnmdnajbafpfiaaUnifT
import Derived.Test.YtnmdnajbafpfiaaSpecComp
import Derived.Deep.RegionLaw
import Derived.Deep.AppendLies
namespace Go.Proofs.Ytnmdnajbafpfiaa
open Go.RowKit
set_option linter.unusedVariables false
set_option linter.unusedSimpArgs false

theorem putT_found {s : List Bd} {t x : Tm} (h : ofG (getO s) t = some x) : putT s t = x := by
  by_cases hk : t.kind = 1
  · rw [ofG_var hk] at h
    rw [putT_var hk, h]
  · rw [ofG_no hk] at h; cases h
theorem putT_not {s : List Bd} {t : Tm} (hG : Good t) (h : ofG (getO s) t = none) : (¬ t.kind = 4 → putT s t = t) ∧ (putT s t).nodes = 1 + nodesL (t.args.map (putT s)) := by
  by_cases hk : t.kind = 1
  · rw [ofG_var hk] at h
    have e : putT s t = t := by rw [putT_var hk, h]
    refine ⟨fun _ => e, ?_⟩
    rw [e, fit_var hG.fit hk, nodes_eq, fit_var hG.fit hk]; rfl
  · by_cases h4 : t.kind = 4
    · refine ⟨fun h => absurd h4 h, ?_⟩
      rw [putT_pair h4, nodes_eq]; rfl
    · have e : putT s t = t := putT_atom hk h4
      refine ⟨fun _ => e, ?_⟩
      rw [e, hG.fit.atom h4, nodes_eq, hG.fit.atom h4]; rfl
theorem room_step {N n : Nat} {room r r' : Int} (h : RoomP N room r) (h' : RoomP n r r') (hn : 1 ≤ n) : RoomP (N + n) room r' := by
  obtain ⟨a1, a2, a3, a4⟩ := h
  obtain ⟨b1, b2, b3, b4⟩ := h'
  refine ⟨fun hle => ?_, fun hlt => ?_, b3, by omega⟩
  · have h1 := a1 (by omega)
    have h2 := b1 (by omega)
    omega
  · by_cases hN : (N : Int) ≤ room
    · have h1 := a1 hN
      exact b2 (by omega)
    · have h1 := a2 (by omega)
      exact b2 (by omega)
theorem room_one {room : Int} (h0 : 0 ≤ room) : RoomP 1 room (room - 1) := ⟨fun _ => rfl, fun h => by omega, by omega, by omega⟩
theorem room_less {n : Nat} {room : Int} (h0 : room < 0) (h1 : -5000 ≤ room) : RoomP n room room := ⟨fun h => by omega, fun _ => h0, h1, Int.le_refl _⟩
theorem room_take {n : Nat} {room : Int} (h0 : 0 ≤ room) (hn : n ≤ 5000) : RoomP n room (room - n) := ⟨fun _ => rfl, fun h => by omega, by omega, by omega⟩
/-- Terms to be put in the place of variables. -/
def FitB (s : List Bd) : Prop := ∀ b ∈ s, Ok b.t
theorem FitB.get {s : List Bd} (h : FitB s) {v : Int} {x : Tm} (hg : getO s v = some x) : Ok x ∧ x.sz ≤ 1048576 := by
  obtain ⟨b, hb, _, rfl⟩ := getO_some hg
  have h1 := h b hb
  exact ⟨h1, by have h2 := good_sz h1.2; have h3 := h1.1; omega⟩
theorem FitB.of {s : List Bd} {t x : Tm} (h : FitB s) (hg : ofG (getO s) t = some x) : Ok x ∧ x.sz ≤ 1048576 := by
  by_cases hk : t.kind = 1
  · rw [ofG_var hk] at hg; exact h.get hg
  · rw [ofG_no hk] at hg; cases hg
theorem SubstP.fits {s : List Bd} (h : SubstP s) : FitB s := fun b hb => ⟨h.nodes b hb, h.good b hb⟩
theorem Good.wfVar {t : Tm} (hG : Good t) : t.kind = 1 → wfI t.num := fun hk => by
  have h := hG.var_range hk
  exact wfI_of (by omega) (by omega)

set_option maxRecDepth 100000 in
set_option maxHeartbeats 2000000 in
theorem roomAfter_any (N : Nat) : ∀ (b : Nat) (s : List Bd) (t : Tm) (V : Value) (room : Int) (w : World), t.nodes < N → MapG w b (getO s) → FitB s → ArgsAt w V t.args → t.sz ≤ 1048576 → Good t → -5000 ≤ room → room ≤ 5000 →
    Calls Try.prog 97 #[.map (some b), .agg #[.int .i64 t.kind, .int .i64 t.num, .string t.name, V], .int .i64 room] w fun e w' => ∃ r : Int, e = .returned (.int .i64 r) ∧ RoomP (putT s t).nodes room r ∧ Below w.heap.size w w' := by
  induction N with
  | zero => intro b s t V room w hN; omega
  | succ N ih =>
    intro b s t V room w hN hM hF hA hZ hG hr0 hr1
    obtain ⟨aa, ca, rfl⟩ := hA.slice
    have HW := Lib.hid (belowAlloc (Below.refl w.heap.size w) (.cells #[.int .i64 t.kind, .int .i64 t.num, .string t.name, .slice aa t.args.length ca] 28))
    have HX := Lib.hid (at_box_of w #[.int .i64 t.kind, .int .i64 t.num, .string t.name, .slice aa t.args.length ca] 28 w.heap.size rfl)
    have HA := Lib.hid (hA.kept HW.out)
    have HM := Lib.hid (hM.kept HW.out)
    by_cases hneg : room < 0
    · have HR := Lib.hid (room_less (n := (putT s t).nodes) hneg hr0)
      clear HA HM HX ih hM hA hF
      go_enter Try.func97, Try.ntmps97
      go_wp2
      go_ret
      exact ⟨room, rfl, HR.out, HW.out⟩
    have hpos : 0 ≤ room := by omega
    have HI := Lib.hid ih
    have HG := Lib.hid hG
    have HFT := Lib.hid hF
    have HVW := Lib.hid hG.wfVar
    have hlen : t.args.length ≤ 1048576 := by have h1 := length_szL t.args; have h2 := sz_eq t; omega
    have HS := Lib.hid (sz_eq t)
    have HNE := Lib.hid (nodes_eq t)
    have HPF := Lib.hid (fun (x : Tm) (h : ofG (getO s) t = some x) => And.intro (congrArg Tm.nodes (putT_found h)) (hF.of h))
    have HPN := Lib.hid (fun (h : ofG (getO s) t = none) => (putT_not hG h).2)
    generalize (putT s t).nodes = rn at HPF HPN ⊢
    clear hA hM ih hG hF hneg
    go_enter Try.func97, Try.ntmps97
    go_upto_region 1 with (fail)
    generalize hw0 : w.alloc (.cells #[.int .i64 t.kind, .int .i64 t.num, .string t.name, .slice aa t.args.length ca] 28) = w0 at HA HX HW HM ⊢
    clear hw0
    have HC := Lib.hid (termFor_any b (getO s) t _ w0 HM.out HVW.out HA.out)
    obtain ⟨c0, c1, c2, c3⟩ := HX.out.cells
    have z0 := HX.out.le
    generalize ofG (getO s) t = o at HC HPF HPN
    go_wp2_with fail
    refine HC.out.mono ?_
    rintro e w1 ⟨xa, xc, rfl, hax, hb⟩
    have HX1 := Lib.hid (HX.out.read hb)
    have HW1 := Lib.hid (belowOn HW.out (Nat.le_refl _) hb)
    have HA1 := Lib.hid (HA.out.kept hb)
    have HM1 := Lib.hid (HM.out.kept hb)
    have HAX := Lib.hid hax
    clear hb hax HC c0 c1 c2 c3 z0 HX HA HM
    go_upto_region 4 with (fail)
    have hal : Below w1.heap.size w1 (w1.alloc (.cells #[.int .i64 (orZero o).kind, .int .i64 (orZero o).num, .string (orZero o).name, .slice xa (orZero o).args.length xc] 28)) := belowAlloc (Below.refl _ _) _
    have HY := Lib.hid (at_box_of w1 #[.int .i64 (orZero o).kind, .int .i64 (orZero o).num, .string (orZero o).name, .slice xa (orZero o).args.length xc] 28 w1.heap.size rfl)
    replace HX1 := Lib.hid (HX1.out.read hal)
    replace HW1 := Lib.hid (belowOn HW1.out (Nat.le_refl _) hal)
    replace HA1 := Lib.hid (HA1.out.kept hal)
    replace HM1 := Lib.hid (HM1.out.kept hal)
    replace HAX := Lib.hid (HAX.out.kept hal)
    clear hal
    generalize hw2 : w1.alloc (.cells #[.int .i64 (orZero o).kind, .int .i64 (orZero o).num, .string (orZero o).name, .slice xa (orZero o).args.length xc] 28) = w2 at HX1 HW1 HA1 HM1 HAX HY ⊢
    clear hw2
    generalize w1.heap.size = nb at HY ⊢
    cases ho : o.isSome with
    | true =>
      obtain ⟨x, rfl⟩ := Option.isSome_iff_exists.1 ho
      clear ho
      obtain ⟨hn, hok, hxz⟩ := HPF.out x rfl
      subst hn
      have hxn := hok.1
      have HSO := Lib.hid (size_ok hok)
      have HC := Lib.hid (implTermSize_any x _ w2 HAX.out hxz)
      rw [HSO.out] at HC
      clear HPF HPN hok
      obtain ⟨y0, y1, y2, y3⟩ := HY.out.cells
      have z1 := HY.out.le
      have HRM := Lib.hid (room_take hpos hxn)
      go_wp2_with fail
      refine HC.out.mono ?_
      rintro e w3 ⟨rfl, hb⟩
      have HW3 := Lib.hid (belowOn HW1.out (Nat.le_refl _) hb)
      clear hb HC y0 y1 y2 y3 z1
      go_wp2
      go_ret
      exact ⟨room - x.nodes, rfl, HRM.out, HW3.out⟩
    | false =>
      obtain rfl : o = none := by cases o with | none => rfl | some x => cases ho
      clear ho
      have HRN := Lib.hid (HPN.out rfl)
      clear HPF HPN
      have HR1 := Lib.hid (room_one hpos)
      obtain ⟨c0, c1, c2, c3⟩ := HX1.out.cells
      have z0 := HX1.out.le
      go_wp2
      go_loopw [2, 30] (fun rv iv wr => ∃ (k : Nat) (r : Int), k ≤ t.args.length ∧ iv = .int .i64 k ∧ rv = .int .i64 r ∧ -5000 ≤ r ∧ r ≤ 5000 ∧ Hid (RoomP (1 + nodesL ((t.args.take k).map (putT s))) room r) ∧ Hid (Below w2.heap.size w2 wr)) (fun _ iv _ => t.args.length - (intOf iv).toNat)
      case atStart => exact ⟨0, room - 1, Nat.zero_le _, rfl, by go_num, by omega, by omega, Lib.hid (by simpa [nodesL_nil] using HR1.out), Lib.hid (Below.refl _ _)⟩
      case round =>
        obtain ⟨k, r, hk, rfl, rfl, hr0', hr1', HRK, HB⟩ := hrel
        clear HR1 c0 c1 c2 c3 z0
        by_cases hlt : k < t.args.length
        · have hltI : (k : Int) < (t.args.length : Int) := by omega
          obtain ⟨x, hx⟩ : ∃ x, t.args[k]? = some x := ⟨_, List.getElem?_eq_getElem hlt⟩
          obtain ⟨g, off, u1, u2, rfl, hg, hq, hc, hu⟩ := HA1.out.elem hx
          obtain ⟨d0, d1, d2, d3⟩ := hc wr HB.out
          have HBX := Lib.hid (belowOn HB.out (Nat.le_refl _) (belowAlloc (Below.refl wr.heap.size wr) (.cells #[.int .i64 x.kind, .int .i64 x.num, .string x.name, .slice u1 x.args.length u2] 28)))
          have HC := Lib.hid (HI.out b s x (.slice u1 x.args.length u2) r _ (by have h1 := nodes_at hx; have := HNE.out; omega) (HM1.out.kept HBX.out) HFT.out (hu.kept HBX.out) (by have h1 := sz_at hx; have := HS.out; omega) (HG.out.each hx) hr0' hr1')
          have HNM := Lib.hid (nodesL_map_take (s := s) hx)
          have HNP := Lib.hid (nodes_pos (putT s x))
          clear hc hu hx hq
          go_wp2_with fail
          refine HC.out.mono ?_
          rintro e w3 ⟨r', rfl, hr', hb⟩
          have HB3 := Lib.hid (belowOn HBX.out (Nat.le_refl _) hb)
          have hb0 := hr'.2.2.1
          have hb1 := hr'.2.2.2
          have HR3 := Lib.hid (room_step HRK.out hr' HNP.out)
          clear hb HC hr' d0 d1 d2 d3
          go_wp2
          go_roundw
          case rel => exact ⟨k + 1, r', by omega, by go_num, rfl, by omega, by omega, Lib.hid (by rw [HNM.out, ← Nat.add_assoc]; exact HR3.out), HB3⟩
          case measure => simp [intOf]; omega
        · obtain rfl : k = t.args.length := by omega
          have HRF := HRK
          rw [List.take_length] at HRF
          go_wp2
          go_ret
          exact ⟨r, rfl, by rw [HRN.out]; exact HRF.out, belowOn HW1.out (Nat.le_refl _) HB.out⟩

set_option maxRecDepth 100000 in
set_option maxHeartbeats 4000000 in
theorem applied_any (N : Nat) : ∀ (b : Nat) (s : List Bd) (t : Tm) (V : Value) (w : World), t.nodes < N → MapG w b (getO s) → FitB s → ArgsAt w V t.args → t.sz ≤ 1048576 → Good t →
    Calls Try.prog 75 #[.map (some b), .agg #[.int .i64 t.kind, .int .i64 t.num, .string t.name, V]] w (NewTm (putT s t) w) := by
  induction N with
  | zero => intro b s t V w hN; omega
  | succ N ih =>
    intro b s t V w hN hM hF hA hZ hG
    obtain ⟨aa, ca, rfl⟩ := hA.slice
    have HX := Lib.hid (at_box_of w #[.int .i64 t.kind, .int .i64 t.num, .string t.name, .slice aa t.args.length ca] 28 w.heap.size rfl)
    have HR := Lib.hid (at_box_of (w.alloc (.cells #[.int .i64 t.kind, .int .i64 t.num, .string t.name, .slice aa t.args.length ca] 28)) #[.int .i64 0, .int .i64 0, .string ⟨#[]⟩, .slice none 0 0] 28 (w.heap.size + 1) (by simp))
    replace HX := Lib.hid (HX.out.read (belowAlloc (Below.refl _ _) (.cells #[.int .i64 0, .int .i64 0, .string ⟨#[]⟩, .slice none 0 0] 28)))
    have HW := Lib.hid (belowAlloc (belowAlloc (Below.refl w.heap.size w) (.cells #[.int .i64 t.kind, .int .i64 t.num, .string t.name, .slice aa t.args.length ca] 28)) (.cells #[.int .i64 0, .int .i64 0, .string ⟨#[]⟩, .slice none 0 0] 28))
    have HA := Lib.hid (at_args (hA.kept HW.out))
    have HM := Lib.hid (hM.kept HW.out)
    have HI := Lib.hid ih
    have HG := Lib.hid hG
    have HFT := Lib.hid hF
    have HVW := Lib.hid hG.wfVar
    have HS := Lib.hid (sz_eq t)
    have HNE := Lib.hid (nodes_eq t)
    have HPF := Lib.hid (fun (x : Tm) (h : ofG (getO s) t = some x) => And.intro (putT_found h) (hF.of h))
    have HPN := Lib.hid (fun (h : ofG (getO s) t = none) => (putT_not hG h).1)
    have HPP := Lib.hid (fun (x y : Tm) (h : t.kind = 4) (hl : t.args = [x, y]) => putT_two (s := s) h hl)
    generalize putT s t = r at HPF HPN HPP ⊢
    clear hA hM ih hG hF
    go_enter Try.func75, Try.ntmps75
    go_upto_region 1 with (fail)
    generalize hw0 : (w.alloc (.cells #[.int .i64 t.kind, .int .i64 t.num, .string t.name, .slice aa t.args.length ca] 28)).alloc (.cells #[.int .i64 0, .int .i64 0, .string ⟨#[]⟩, .slice none 0 0] 28) = w0 at HA HX HR HW HM ⊢
    clear hw0
    have HC := Lib.hid (termFor_any b (getO s) t _ w0 HM.out HVW.out HA.out.argsAt)
    obtain ⟨c0, c1, c2, c3⟩ := HX.out.cells
    have z0 := HX.out.le
    generalize ofG (getO s) t = o at HC HPF HPN
    go_wp2_with fail
    refine HC.out.mono ?_
    rintro e w1 ⟨xa, xc, rfl, hax, hb⟩
    replace HX := Lib.hid (HX.out.read hb)
    replace HR := Lib.hid (HR.out.read hb)
    replace HW := Lib.hid (belowOn HW.out (Nat.le_refl _) hb)
    replace HA := Lib.hid (HA.out.read hb)
    replace HM := Lib.hid (HM.out.kept hb)
    have HAX := Lib.hid (at_args hax)
    clear hb hax HC c0 c1 c2 c3 z0
    go_upto_region 2 with (fail)
    have hal : Below w1.heap.size w1 (w1.alloc (.cells #[.int .i64 (orZero o).kind, .int .i64 (orZero o).num, .string (orZero o).name, .slice xa (orZero o).args.length xc] 28)) := belowAlloc (Below.refl _ _) _
    have HY := Lib.hid (at_box_of w1 #[.int .i64 (orZero o).kind, .int .i64 (orZero o).num, .string (orZero o).name, .slice xa (orZero o).args.length xc] 28 w1.heap.size rfl)
    replace HX := Lib.hid (HX.out.read hal)
    replace HR := Lib.hid (HR.out.read hal)
    replace HW := Lib.hid (belowOn HW.out (Nat.le_refl _) hal)
    replace HA := Lib.hid (HA.out.read hal)
    replace HM := Lib.hid (HM.out.kept hal)
    replace HAX := Lib.hid (HAX.out.read hal)
    clear hal
    generalize hw2 : w1.alloc (.cells #[.int .i64 (orZero o).kind, .int .i64 (orZero o).num, .string (orZero o).name, .slice xa (orZero o).args.length xc] 28) = w2 at HX HR HW HA HM HAX HY ⊢
    clear hw2
    generalize w1.heap.size = nb at HY ⊢
    cases o with
    | some x =>
      obtain ⟨hn, hok, hxz⟩ := HPF.out x rfl
      subst hn
      have HC := Lib.hid (copied_any (r.nodes + 1) r _ w2 (Nat.lt_succ_self _) HAX.out.argsAt hxz hok.2)
      clear HPF HPN HPP hok
      obtain ⟨y0, y1, y2, y3⟩ := HY.out.cells
      have z1 := HY.out.le
      go_wp2_with fail
      refine HC.out.mono ?_
      rintro e w3 ⟨u, rfl, hn⟩
      have HRE := Lib.hid (HR.out.read hn.2).now
      obtain ⟨r0, r1, r2, r3, rf⟩ := box_cells (HR.out.read hn.2).now
      have HRL : Hid (w.heap.size ≤ w.heap.size + 1 ∧ w.heap.size + 1 < w2.heap.size) := Lib.hid ⟨by omega, by have := HR.out.le; omega⟩
      obtain ⟨a0, c0, rfl⟩ := hn.1.argsAt.slice
      have HN := Lib.hid hn
      have hl1 := hn.2.size
      have hl2 := HR.out.le
      clear hn y0 y1 y2 y3 z1 HC
      go_wp2
      exact newTm_end (p := 4) (b := w.heap.size + 1) (W := w2) rfl rfl rfl Try.underlying28 (by kernel_rfl) HRE.out HW.out HRL.out.1 HRL.out.2 HN.out
    | none =>
      have HIP := Lib.hid (isPair_any t.kind t.num t.name (.slice aa t.args.length ca) w2)
      obtain ⟨c0a, c0b, c0c, c0d⟩ := HX.out.cells
      have z0 := HX.out.le
      go_wp2_with fail
      refine HIP.out.mono ?_
      rintro e w3 ⟨rfl, hb⟩
      clear c0a c0b c0c c0d z0 HIP HY HAX
      replace HX := Lib.hid (HX.out.read hb)
      replace HR := Lib.hid (HR.out.read hb)
      replace HW := Lib.hid (belowOn HW.out (Nat.le_refl _) hb)
      replace HA := Lib.hid (HA.out.read hb)
      replace HM := Lib.hid (HM.out.kept hb)
      clear hb
      by_cases hk : t.kind = 4
      · have hd : decide (t.kind = 4) = true := decide_eq_true hk
        rw [hd]
        obtain ⟨x, y, hxy⟩ := HG.out.fit.pair hk
        obtain ⟨ga, offa, u1, u2, v1, v2, rfl, hga, hla, hcx, hcy, hax, hay⟩ := HA.out.argsAt.two hxy
        have HGA := Lib.hid hga
        have HLA := Lib.hid hla
        have HPA := Lib.hid (And.intro hcx (And.intro hcy (And.intro hax hay)))
        have HGX := Lib.hid ((good_two HG.out.fit hxy).1 HG.out)
        have HNX : Hid (nodesL t.args = x.nodes + y.nodes ∧ szL t.args = 2 + x.sz + y.sz ∧ 1 ≤ x.nodes ∧ 1 ≤ y.nodes) := Lib.hid (by
          rw [hxy]; simp only [nodesL, szL]; have := nodes_pos x; have := nodes_pos y; omega)
        have HQV : Hid (r.kind = 4 ∧ r.num = 0 ∧ r.name = ⟨#[]⟩ ∧ r.args = [putT s x, putT s y]) := Lib.hid (by rw [HPP.out x y hk hxy]; exact ⟨rfl, rfl, rfl, rfl⟩)
        clear hd hxy hga hla hcx hcy hax hay hk HPP HPN HPF
        have hself : Below w3.heap.size w3 w3 := Below.refl _ _
        have hdrew : Below w3.heap.size w3 w3.drew := hself.drew
        obtain ⟨c0a, c0b, c0c, c0d⟩ := HX.out.cells
        have z0 := HX.out.le
        have HCE : Hid (∀ W, Below w3.heap.size w3 W → W.cell? ⟨w.heap.size, 0, none⟩ = some (.int .i64 t.kind) ∧ W.cell? ⟨w.heap.size, 1, none⟩ = some (.int .i64 t.num) ∧ W.cell? ⟨w.heap.size, 2, none⟩ = some (.string t.name) ∧ W.cell? ⟨w.heap.size, 3, none⟩ = some (.slice (some ⟨ga, offa, none⟩) t.args.length ca)) := Lib.hid fun W hW => by
          obtain ⟨y0a, y0b, y0c, y0d⟩ := (HX.out.read hW).cells
          exact ⟨y0a, y0b, y0c, y0d⟩
        have HTR : Hid (∀ a b, Below w3.heap.size w3 a → Below a.heap.size a b → Below w3.heap.size w3 b) := Lib.hid fun a b h1 h2 => belowOn h1 (Nat.le_refl _) h2
        have HH0 : Hid (∀ W, Below w3.heap.size w3 W → Calls Try.prog 94 #[.agg #[.int .i64 t.kind, .int .i64 t.num, .string t.name, .slice (some ⟨ga, offa, none⟩) t.args.length ca]] W fun e w' => e = .returned (.agg #[.int .i64 x.kind, .int .i64 x.num, .string x.name, .slice u1 x.args.length u2]) ∧ Below W.heap.size W w') := Lib.hid fun W hW => by
          obtain ⟨q0, q1, q2, q3⟩ := HPA.out.1 W hW
          exact head_any t.kind t.num t.name ga offa t.args.length ca _ _ _ _ _ _ W (Nat.lt_of_lt_of_le HGA.out hW.size) (by have := HLA.out; omega) (by have := HLA.out; omega) q0 q1 q2 q3
        have HH1 : Hid (∀ W, Below w3.heap.size w3 W → Calls Try.prog 95 #[.agg #[.int .i64 t.kind, .int .i64 t.num, .string t.name, .slice (some ⟨ga, offa, none⟩) t.args.length ca]] W fun e w' => e = .returned (.agg #[.int .i64 y.kind, .int .i64 y.num, .string y.name, .slice v1 y.args.length v2]) ∧ Below W.heap.size W w') := Lib.hid fun W hW => by
          obtain ⟨q0, q1, q2, q3⟩ := HPA.out.2.1 W hW
          exact tail_any t.kind t.num t.name ga offa t.args.length ca _ _ _ _ _ _ W (Nat.lt_of_lt_of_le HGA.out hW.size) (by have := HLA.out; omega) (by have := HLA.out; omega) q0 q1 q2 q3
        have HC0 : Hid (∀ W, Below w3.heap.size w3 W → Calls Try.prog 75 #[.map (some b), .agg #[.int .i64 x.kind, .int .i64 x.num, .string x.name, .slice u1 x.args.length u2]] W (NewTm (putT s x) W)) := Lib.hid fun W hW => HI.out b s x _ W (by have := HNX.out; have := HNE.out; omega) (HM.out.kept hW) HFT.out (HPA.out.2.2.1.kept hW) (by have := HNX.out; have := HS.out; omega) HGX.out.1
        have HC1 : Hid (∀ W, Below w3.heap.size w3 W → Calls Try.prog 75 #[.map (some b), .agg #[.int .i64 y.kind, .int .i64 y.num, .string y.name, .slice v1 y.args.length v2]] W (NewTm (putT s y) W)) := Lib.hid fun W hW => HI.out b s y _ W (by have := HNX.out; have := HNE.out; omega) (HM.out.kept hW) HFT.out (HPA.out.2.2.2.kept hW) (by have := HNX.out; have := HS.out; omega) HGX.out.2
        have HRB : Hid (∀ W, Below w3.heap.size w3 W → W.heap[w.heap.size + 1]? = some (Obj.cells #[.int .i64 0, .int .i64 0, .string ⟨#[]⟩, .slice none 0 0] 28)) := Lib.hid fun W hW => (HR.out.read hW).now
        have HRL : Hid (w.heap.size ≤ w.heap.size + 1 ∧ w.heap.size + 1 < w3.heap.size) := Lib.hid ⟨by omega, by have := HR.out.le; omega⟩
        have ne1 : ¬ w.heap.size = w.heap.size + 1 := by omega
        have ne2 : ¬ w.heap.size + 1 = w.heap.size := by omega
        clear HA HX HR HI HPA HM
        go_upto_region 5 with (fail)
        go_region_held3 (fun w' => w'.cell? ⟨w.heap.size, 0, none⟩ = some (.int .i64 t.kind) ∧ w'.cell? ⟨w.heap.size, 1, none⟩ = some (.int .i64 t.num) ∧ w'.cell? ⟨w.heap.size, 2, none⟩ = some (.string t.name) ∧ w'.cell? ⟨w.heap.size, 3, none⟩ = some (.slice (some ⟨ga, offa, none⟩) t.args.length ca)) (go_keep)
          (first
            | (go_at_call 94; (with_reducible refine Calls.mono (HH0.out _ ?_) ?_); (assumption); rintro e wA ⟨rfl, hbA⟩; have hA' := HTR.out _ _ (by assumption) hbA; obtain ⟨k0, k1, k2, k3⟩ := HCE.out _ hA')
            | (go_at_call 75; (with_reducible refine Calls.mono (HC0.out _ ?_) ?_); (assumption); rintro e wB ⟨u0, rfl, hn0⟩; have hB' := HTR.out _ _ (by assumption) hn0.2; obtain ⟨k0, k1, k2, k3⟩ := HCE.out _ hB'; obtain ⟨a0, c0, rfl⟩ := hn0.1.argsAt.slice; have HN0 := Lib.hid (And.intro hA' hn0); clear hn0)
            | (go_at_call 95; (with_reducible refine Calls.mono (HH1.out _ ?_) ?_); (assumption); rintro e wC ⟨rfl, hbC⟩; have hC' := HTR.out _ _ (by assumption) hbC; obtain ⟨k0, k1, k2, k3⟩ := HCE.out _ hC'; have HBC := Lib.hid hbC; clear hbC)
            | (go_at_call 75; (with_reducible refine Calls.mono (HC1.out _ ?_) ?_); (assumption); rintro e wD ⟨u9, rfl, hn1⟩; have hD' := HTR.out _ _ (by assumption) hn1.2; obtain ⟨k0, k1, k2, k3⟩ := HCE.out _ hD'; obtain ⟨a1, c1, rfl⟩ := hn1.1.argsAt.slice; have HN1 := Lib.hid hn1; clear hn1)
            | (go_at_call 93; (with_reducible refine Calls.mono (pairOf_any _ _ _ _ _ _ _ _ _ _ _ _ _) ?_); rintro e wE ⟨gE, rfl, hg1, hg2, hgh, hbE⟩; have hE' := HTR.out _ _ (by assumption) hbE; obtain ⟨k0, k1, k2, k3⟩ := HCE.out _ hE'; have HP := Lib.hid (newPair HN0.out.1 HN0.out.2 HBC.out HN1.out hg1 hg2 hgh hbE); have HRE := Lib.hid (HRB.out _ hE'); obtain ⟨r0, r1, r2, r3, rf⟩ := box_cells (HRB.out _ hE'); clear hg1 hg2 hgh hbE))
        all_goals (go_wp2_with fail; exact newTm_end' (p := 4) (b := w.heap.size + 1) (W := w3) HQV.out.1 HQV.out.2.1 HQV.out.2.2.1 rfl rfl rfl Try.underlying28 (by kernel_rfl) HRE.out HW.out HRL.out.1 HRL.out.2 (by rw [HQV.out.2.2.2]; exact HP.out))
      · have hd : decide (t.kind = 4) = false := decide_eq_false hk
        rw [hd]
        obtain rfl := HPN.out (by simp) hk
        clear hd hk HPP HPN HPF
        have HC := Lib.hid (copied_any (r.nodes + 1) r _ w3 (by omega) HA.out.argsAt hZ HG.out)
        obtain ⟨c0a, c0b, c0c, c0d⟩ := HX.out.cells
        have z0 := HX.out.le
        go_wp2_with fail
        refine HC.out.mono ?_
        rintro e w4 ⟨u, rfl, hn⟩
        have HRE := Lib.hid (HR.out.read hn.2).now
        obtain ⟨r0, r1, r2, r3, rf⟩ := box_cells (HR.out.read hn.2).now
        have HRL : Hid (w.heap.size ≤ w.heap.size + 1 ∧ w.heap.size + 1 < w3.heap.size) := Lib.hid ⟨by omega, by have := HR.out.le; omega⟩
        obtain ⟨a0, c0, rfl⟩ := hn.1.argsAt.slice
        have HN := Lib.hid hn
        have hl1 := hn.2.size
        have hl2 := HR.out.le
        clear hn c0a c0b c0c c0d HC
        go_wp2
        exact newTm_end (p := 4) (b := w.heap.size + 1) (W := w3) rfl rfl rfl Try.underlying28 (by kernel_rfl) HRE.out HW.out HRL.out.1 HRL.out.2 HN.out

/-- What applying gives, if it fits. -/
def fitT (s : List Bd) (t : Tm) : Tm := if (putT s t).nodes ≤ 5000 then putT s t else zeroTm
def fitB (s : List Bd) (t : Tm) : Bool := decide ((putT s t).nodes ≤ 5000)
theorem fit_yes {s : List Bd} {t : Tm} (h : (putT s t).nodes ≤ 5000) : fitT s t = putT s t ∧ fitB s t = true := ⟨if_pos h, decide_eq_true h⟩
theorem fit_no {s : List Bd} {t : Tm} (h : ¬ (putT s t).nodes ≤ 5000) : fitT s t = zeroTm ∧ fitB s t = false := ⟨if_neg h, decide_eq_false h⟩
theorem fitT_sz {s : List Bd} {t : Tm} (hs : FitB s) (hG : Good t) : (fitT s t).sz ≤ 1048575 ∧ Good (fitT s t) ∧ (fitT s t).nodes ≤ 5000 := by
  unfold fitT
  split
  · rename_i h
    have hg : Good (putT s t) := putT_good (fun b hb => (hs b hb).2) t.nodes t (Nat.le_refl _) hG
    have := good_sz hg
    exact ⟨by omega, hg, h⟩
  · exact ⟨by rw [zeroTm, Tm.sz, szL]; exact Nat.zero_le _, .nil, by rw [zeroTm, Tm.nodes, nodesL]; decide⟩

set_option maxRecDepth 100000 in
set_option maxHeartbeats 1000000 in
theorem apply_any (b : Nat) (s : List Bd) (t : Tm) (V : Value) (w : World) (hM : MapG w b (getO s)) (hF : FitB s) (hA : ArgsAt w V t.args) (hZ : t.sz ≤ 1048576) (hG : Good t) :
    Calls Try.prog 86 #[.map (some b), .agg #[.int .i64 t.kind, .int .i64 t.num, .string t.name, V]] w (NewTm2 (fitT s t) (fitB s t) w) := by
  obtain ⟨aa, ca, rfl⟩ := hA.slice
  have HX := Lib.hid (at_box_of w #[.int .i64 t.kind, .int .i64 t.num, .string t.name, .slice aa t.args.length ca] 28 w.heap.size rfl)
  have HR := Lib.hid (at_box_of (w.alloc (.cells #[.int .i64 t.kind, .int .i64 t.num, .string t.name, .slice aa t.args.length ca] 28)) #[.int .i64 0, .int .i64 0, .string ⟨#[]⟩, .slice none 0 0] 28 (w.heap.size + 1) (by simp))
  replace HX := Lib.hid (HX.out.read (belowAlloc (Below.refl _ _) (.cells #[.int .i64 0, .int .i64 0, .string ⟨#[]⟩, .slice none 0 0] 28)))
  have HW := Lib.hid (belowAlloc (belowAlloc (Below.refl w.heap.size w) (.cells #[.int .i64 t.kind, .int .i64 t.num, .string t.name, .slice aa t.args.length ca] 28)) (.cells #[.int .i64 0, .int .i64 0, .string ⟨#[]⟩, .slice none 0 0] 28))
  have HA := Lib.hid (at_args (hA.kept HW.out))
  have HM := Lib.hid (hM.kept HW.out)
  have HYES := Lib.hid (fun h => fit_yes (s := s) (t := t) h)
  have HNO := Lib.hid (fun h => fit_no (s := s) (t := t) h)
  generalize fitT s t = rt at HYES HNO ⊢
  generalize fitB s t = rb at HYES HNO ⊢
  have HROOM : Hid (∀ W, Below w.heap.size w W → ArgsAt W (.slice aa t.args.length ca) t.args → MapG W b (getO s) → Calls Try.prog 97 #[.map (some b), .agg #[.int .i64 t.kind, .int .i64 t.num, .string t.name, .slice aa t.args.length ca], .int .i64 5000] W fun e w' => ∃ r : Int, e = .returned (.int .i64 r) ∧ RoomP (putT s t).nodes 5000 r ∧ Below W.heap.size W w') := Lib.hid fun W hW h1 h2 =>
    roomAfter_any (t.nodes + 1) b s t _ 5000 W (Nat.lt_succ_self _) h2 hF h1 hZ hG (by omega) (by omega)
  have HAPP : Hid (∀ W, ArgsAt W (.slice aa t.args.length ca) t.args → MapG W b (getO s) → Calls Try.prog 75 #[.map (some b), .agg #[.int .i64 t.kind, .int .i64 t.num, .string t.name, .slice aa t.args.length ca]] W (NewTm (putT s t) W)) := Lib.hid fun W h1 h2 =>
    applied_any (t.nodes + 1) b s t _ W (Nat.lt_succ_self _) h2 hF h1 hZ hG
  clear hA hM hF hG
  generalize putT s t = q at HYES HNO HROOM HAPP
  go_enter Try.func86, Try.ntmps86
  go_upto_region 1 with (fail)
  generalize hw0 : (w.alloc (.cells #[.int .i64 t.kind, .int .i64 t.num, .string t.name, .slice aa t.args.length ca] 28)).alloc (.cells #[.int .i64 0, .int .i64 0, .string ⟨#[]⟩, .slice none 0 0] 28) = w0 at HA HX HR HW HM ⊢
  clear hw0
  have HC := Lib.hid (HROOM.out w0 HW.out HA.out.argsAt HM.out)
  obtain ⟨c0, c1, c2, c3⟩ := HX.out.cells
  have z0 := HX.out.le
  go_wp2_with fail
  refine HC.out.mono ?_
  rintro e w1 ⟨r, rfl, hr, hb⟩
  have hrb := hr.2.2.1
  have hrc := hr.2.2.2
  have HRR := Lib.hid hr
  replace HX := Lib.hid (HX.out.read hb)
  replace HR := Lib.hid (HR.out.read hb)
  replace HW := Lib.hid (belowOn HW.out (Nat.le_refl _) hb)
  replace HA := Lib.hid (HA.out.read hb)
  replace HM := Lib.hid (HM.out.kept hb)
  clear hb hr HC c0 c1 c2 c3 z0 HROOM
  have HRL : Hid (w.heap.size ≤ w.heap.size + 1 ∧ w.heap.size + 1 < w1.heap.size) := Lib.hid ⟨by omega, by have := HR.out.le; omega⟩
  by_cases hneg : r < 0
  · obtain ⟨rfl, rfl⟩ := HNO.out fun h => by have := HRR.out.1 (by omega); omega
    obtain ⟨r0, r1, r2, r3, rf⟩ := box_cells HR.out.now
    go_wp2
    exact newTm2_end (t := zeroTm) (p := 4) (q := 5) (b := w.heap.size + 1) (W := w1) rfl rfl rfl rfl rfl rfl rfl Try.underlying28 (by kernel_rfl) HR.out.now HW.out HRL.out.1 HRL.out.2 (zero_new (Below.refl _ _))
  · obtain ⟨rfl, rfl⟩ := HYES.out (by
      by_cases h : q.nodes ≤ 5000
      · exact h
      · have := HRR.out.2.1 (by omega); omega)
    have HC := Lib.hid (HAPP.out w1 HA.out.argsAt HM.out)
    obtain ⟨c0, c1, c2, c3⟩ := HX.out.cells
    have z0 := HX.out.le
    go_wp2_with fail
    refine HC.out.mono ?_
    rintro e w2 ⟨u, rfl, hn⟩
    have HRE := Lib.hid (HR.out.read hn.2).now
    obtain ⟨r0, r1, r2, r3, rf⟩ := box_cells (HR.out.read hn.2).now
    obtain ⟨a0, d0, rfl⟩ := hn.1.argsAt.slice
    have HN := Lib.hid hn
    clear hn c0 c1 c2 c3 z0 HC
    go_wp2
    exact newTm2_end (t := rt) (p := 4) (q := 5) (b := w.heap.size + 1) (W := w1) rfl rfl rfl rfl rfl rfl rfl Try.underlying28 (by kernel_rfl) HRE.out HW.out HRL.out.1 HRL.out.2 HN.out

/-- Whether the equation of two terms holds under s. -/
def solvesB (s : List Bd) (a b : Tm) : Bool := decide ((putT s a).nodes ≤ 5000 ∧ (putT s b).nodes ≤ 5000 ∧ ((putT s a).cmp (putT s b) == 0) = true)
theorem solves_true {s : List Bd} {a b : Tm} : solvesB s a b = true ↔ ((putT s a).nodes ≤ 5000 ∧ (putT s b).nodes ≤ 5000 ∧ ((putT s a).cmp (putT s b) == 0) = true) := by simp [solvesB]
theorem solves_false {s : List Bd} {a b : Tm} : solvesB s a b = false ↔ ¬ ((putT s a).nodes ≤ 5000 ∧ (putT s b).nodes ≤ 5000 ∧ ((putT s a).cmp (putT s b) == 0) = true) := by unfold solvesB; exact decide_eq_false_iff_not

end Go.Proofs.Ytnmdnajbafpfiaa

namespace Go.Proofs.Ytnmdnajbafpfiaa
open Go.RowKit
set_option linter.unusedVariables false
set_option linter.unusedSimpArgs false

theorem fineB.wf {s : List Bd} (h : fineB s) : ∀ b ∈ s, wfI b.v := fun b hb => (h b hb).2
theorem implSubstOk_any (s : List Bd) (V : Value) (w : World) (hA : ListS bdE w Any V s) (hZ : szB s ≤ 1048576) (hF : fineB s) :
    Calls Try.prog 72 #[V] w fun e w' => e = .returned (.bool (substB s)) ∧ Below w.heap.size w w' := implSubstOk_e s V w hA (eachB_of hZ) hF.wf

theorem ap_fit {s : List Bd} {t : Tm} (hs : SubstP s) (ht : Ok t) : apT s t = fitT s t ∧ apB s t = fitB s t := by
  by_cases h : (putT s t).nodes ≤ 5000
  · obtain ⟨a1, a2⟩ := ap_yes ⟨hs, ht, h⟩
    obtain ⟨b1, b2⟩ := fit_yes (s := s) (t := t) h
    exact ⟨by rw [a1, b1], by rw [a2, b2]⟩
  · obtain ⟨a1, a2⟩ := ap_no (s := s) (t := t) fun hh => h hh.2.2
    obtain ⟨b1, b2⟩ := fit_no (s := s) (t := t) h
    exact ⟨by rw [a1, b1], by rw [a2, b2]⟩

set_option maxRecDepth 100000 in
set_option maxHeartbeats 2000000 in
theorem implApplySubst_any (s : List Bd) (Vs : Value) (t : Tm) (V : Value) (w : World) (hA : ListS bdE w Any Vs s) (hZs : szB s ≤ 1048576) (hF : fineB s) (hT : ArgsAt w V t.args) (hZ : t.sz ≤ 1048576) :
    Calls Try.prog 69 #[Vs, .agg #[.int .i64 t.kind, .int .i64 t.num, .string t.name, V]] w (NewTm2 (apT s t) (apB s t) w) := by
  obtain ⟨sa, sc, rfl⟩ := hA.slice
  obtain ⟨aa, ca, rfl⟩ := hT.slice
  have HX := Lib.hid (at_box_of w #[.int .i64 t.kind, .int .i64 t.num, .string t.name, .slice aa t.args.length ca] 28 w.heap.size rfl)
  have HR := Lib.hid (at_box_of (w.alloc (.cells #[.int .i64 t.kind, .int .i64 t.num, .string t.name, .slice aa t.args.length ca] 28)) #[.int .i64 0, .int .i64 0, .string ⟨#[]⟩, .slice none 0 0] 28 (w.heap.size + 1) (by simp))
  replace HX := Lib.hid (HX.out.read (belowAlloc (Below.refl _ _) (.cells #[.int .i64 0, .int .i64 0, .string ⟨#[]⟩, .slice none 0 0] 28)))
  have HW := Lib.hid (belowAlloc (belowAlloc (Below.refl w.heap.size w) (.cells #[.int .i64 t.kind, .int .i64 t.num, .string t.name, .slice aa t.args.length ca] 28)) (.cells #[.int .i64 0, .int .i64 0, .string ⟨#[]⟩, .slice none 0 0] 28))
  have HA := Lib.hid (hA.kept HW.out)
  have HT := Lib.hid (at_args (hT.kept HW.out))
  have HNO := Lib.hid (fun (h : ¬ (SubstP s ∧ Ok t)) => ap_no (s := s) (t := t) fun hh => h ⟨hh.1, hh.2.1⟩)
  have HYES := Lib.hid (fun h1 h2 => ap_fit (s := s) (t := t) h1 h2)
  generalize apT s t = rt at HYES HNO ⊢
  generalize apB s t = rb at HYES HNO ⊢
  have HE := Lib.hid (eachB_of hZs)
  have HF := Lib.hid hF.wf
  clear hA hF hT
  go_enter Try.func69, Try.ntmps69
  go_upto_region 1 with (fail)
  generalize hw0 : (w.alloc (.cells #[.int .i64 t.kind, .int .i64 t.num, .string t.name, .slice aa t.args.length ca] 28)).alloc (.cells #[.int .i64 0, .int .i64 0, .string ⟨#[]⟩, .slice none 0 0] 28) = w0 at HX HR HW HA HT ⊢
  clear hw0
  have HC := Lib.hid (implSubstOk_e s _ w0 HA.out HE.out HF.out)
  go_wp2_with fail
  refine HC.out.mono ?_
  rintro e w1 ⟨rfl, hb⟩
  replace HX := Lib.hid (HX.out.read hb)
  replace HR := Lib.hid (HR.out.read hb)
  replace HW := Lib.hid (belowOn HW.out (Nat.le_refl _) hb)
  replace HA := Lib.hid (HA.out.kept hb)
  replace HT := Lib.hid (HT.out.read hb)
  clear hb HC
  have HRL : Hid (w.heap.size ≤ w.heap.size + 1 ∧ w.heap.size + 1 < w1.heap.size) := Lib.hid ⟨by omega, by have := HR.out.le; omega⟩
  cases hs : substB s with
  | false =>
    obtain ⟨rfl, rfl⟩ := HNO.out fun h => substB_false.1 hs h.1
    clear hs
    obtain ⟨r0, r1, r2, r3, rf⟩ := box_cells HR.out.now
    go_wp2
    exact newTm2_end (t := zeroTm) (p := 4) (q := 5) (b := w.heap.size + 1) (W := w1) rfl rfl rfl rfl rfl rfl rfl Try.underlying28 (by kernel_rfl) HR.out.now HW.out HRL.out.1 HRL.out.2 (zero_new (Below.refl _ _))
  | true =>
  have HS := Lib.hid (substB_true.1 hs)
  clear hs
  have HC := Lib.hid (implTermOk_any t _ w1 HT.out.argsAt hZ)
  obtain ⟨c0, c1, c2, c3⟩ := HX.out.cells
  have z0 := HX.out.le
  go_wp2_with fail
  refine HC.out.mono ?_
  rintro e w2 ⟨rfl, hb⟩
  replace HX := Lib.hid (HX.out.read hb)
  replace HR := Lib.hid (HR.out.read hb)
  replace HW := Lib.hid (belowOn HW.out (Nat.le_refl _) hb)
  replace HA := Lib.hid (HA.out.kept hb)
  replace HT := Lib.hid (HT.out.read hb)
  clear hb HC c0 c1 c2 c3 z0 HRL
  have HRL : Hid (w.heap.size ≤ w.heap.size + 1 ∧ w.heap.size + 1 < w2.heap.size) := Lib.hid ⟨by omega, by have := HR.out.le; omega⟩
  cases hok : okB t with
  | false =>
    obtain ⟨rfl, rfl⟩ := HNO.out fun h => okB_false.1 hok h.2
    clear hok
    obtain ⟨r0, r1, r2, r3, rf⟩ := box_cells HR.out.now
    go_wp2
    exact newTm2_end (t := zeroTm) (p := 4) (q := 5) (b := w.heap.size + 1) (W := w2) rfl rfl rfl rfl rfl rfl rfl Try.underlying28 (by kernel_rfl) HR.out.now HW.out HRL.out.1 HRL.out.2 (zero_new (Below.refl _ _))
  | true =>
    have HOK := Lib.hid (okB_true.1 hok)
    clear hok
    have HEQ := Lib.hid (HYES.out HS.out HOK.out)
    clear HYES HNO
    have hself : Below w2.heap.size w2 w2 := Below.refl _ _
    have hdrew : Below w2.heap.size w2 w2.drew := hself.drew
    have HCE : Hid (∀ W, Below w2.heap.size w2 W → W.cell? ⟨w.heap.size, 0, none⟩ = some (.int .i64 t.kind) ∧ W.cell? ⟨w.heap.size, 1, none⟩ = some (.int .i64 t.num) ∧ W.cell? ⟨w.heap.size, 2, none⟩ = some (.string t.name) ∧ W.cell? ⟨w.heap.size, 3, none⟩ = some (.slice aa t.args.length ca)) := Lib.hid fun W hW => by
      obtain ⟨y0a, y0b, y0c, y0d⟩ := (HX.out.read hW).cells
      exact ⟨y0a, y0b, y0c, y0d⟩
    obtain ⟨c0a, c0b, c0c, c0d⟩ := HCE.out w2 hself
    have HMO : Hid (∀ W, Below w2.heap.size w2 W → Calls Try.prog 73 #[.slice sa s.length sc] W fun e w' => ∃ b, e = .returned (.map (some b)) ∧ MapG w' b (getO s) ∧ Below W.heap.size W w') := Lib.hid fun W hW => (mapOf_any s _ W (HA.out.kept hW) HE.out.1 HF.out).mono fun e w' ⟨b, he, _, hm, hb⟩ => ⟨b, he, hm.same (lastO_subst HS.out), hb⟩
    have HAP : Hid (∀ W b, Below w2.heap.size w2 W → MapG W b (getO s) → Calls Try.prog 86 #[.map (some b), .agg #[.int .i64 t.kind, .int .i64 t.num, .string t.name, .slice aa t.args.length ca]] W (NewTm2 rt rb W)) := Lib.hid fun W b hW hm => by
      rw [HEQ.out.1, HEQ.out.2]
      exact apply_any b s t _ W hm HS.out.fits (HT.out.read hW).argsAt hZ HOK.out.2
    have HTR : Hid (∀ a b, Below w2.heap.size w2 a → Below a.heap.size a b → Below w2.heap.size w2 b) := Lib.hid fun a b h1 h2 => belowOn h1 (Nat.le_refl _) h2
    have HRB : Hid (∀ W, Below w2.heap.size w2 W → W.heap[w.heap.size + 1]? = some (Obj.cells #[.int .i64 0, .int .i64 0, .string ⟨#[]⟩, .slice none 0 0] 28)) := Lib.hid fun W hW => (HR.out.read hW).now
    have ne1 : ¬ w.heap.size = w.heap.size + 1 := by omega
    have ne2 : ¬ w.heap.size + 1 = w.heap.size := by omega
    clear HX HR HA HT
    go_upto_region 3 with (fail)
    go_region_held3 (fun w' => w'.cell? ⟨w.heap.size, 0, none⟩ = some (.int .i64 t.kind) ∧ w'.cell? ⟨w.heap.size, 1, none⟩ = some (.int .i64 t.num) ∧ w'.cell? ⟨w.heap.size, 2, none⟩ = some (.string t.name) ∧ w'.cell? ⟨w.heap.size, 3, none⟩ = some (.slice aa t.args.length ca)) (go_keep)
      (first
        | (go_at_call 73; (with_reducible refine Calls.mono (HMO.out _ ?_) ?_); (assumption); rintro e wA ⟨mb, rfl, hmA, hbA⟩; have hA' := HTR.out _ _ (by assumption) hbA; obtain ⟨k0, k1, k2, k3⟩ := HCE.out _ hA'; have HMA := Lib.hid hmA; clear hmA)
        | (go_at_call 86; (with_reducible refine Calls.mono (HAP.out _ _ ?_ HMA.out) ?_); (assumption); rintro e wB ⟨u, rfl, hn⟩; have hB' := HTR.out _ _ (by assumption) hn.2; have HAB := Lib.hid hA'; obtain ⟨k0, k1, k2, k3⟩ := HCE.out _ hB'; obtain ⟨ua, uc, rfl⟩ := hn.1.argsAt.slice; have HN := Lib.hid hn; have HRE := Lib.hid (HRB.out _ hB'); obtain ⟨r0, r1, r2, r3, rf⟩ := box_cells (HRB.out _ hB'); clear hn))
    all_goals
      go_wp2_with fail
      exact newTm2_end (t := rt) (p := 4) (q := 5) (b := w.heap.size + 1) rfl rfl rfl rfl rfl rfl rfl Try.underlying28 (by kernel_rfl) HRE.out (belowOn HW.out (Nat.le_refl _) HAB.out) HRL.out.1 (Nat.lt_of_lt_of_le HRL.out.2 HAB.out.size) HN.out

theorem more_solves {t : List Bd} {b : Bd} : EqnP t b ↔ solvesB t (varTm b.v) b.t = true := by rw [solves_true]; rfl

end Go.Proofs.Ytnmdnajbafpfiaa

