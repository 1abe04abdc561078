/-
  The program's GroundTerms. (Written by wip/tools/gen_implground.py.)
-/
import Derived.Test.YtoihimdfmncdoaaGroundW
namespace Go.Proofs.Ytoihimdfmncdoaa
open Go.RowKit Go.Shelf
set_option linter.unusedVariables false
set_option linter.unusedSimpArgs false

attribute [local go_sem] Oper.semAt_some

set_option maxRecDepth 100000 in
set_option maxHeartbeats 8000000 in
theorem implGroundTerms_e (u : List Tm) (V : Value) (z : Int) (w : World) (hA : ArgsAt w V u) (hE : EachT u) :
    Calls Try.prog 37 #[V, .int .i64 z] w fun e w' => ∃ U, e = .returned U ∧ NewTree (gtL u z) w U w' := by
  obtain ⟨a, cap, rfl⟩ := hA.slice
  refine (callsIn_wide (n := 5)).1 ?_
  refine callsIn_of_wp_marks Try.func37 rfl trivial ?_ rfl
  simp only [Try.ntmps37, List.size_toArray, List.length_cons, List.length_nil, Nat.reduceAdd, Nat.reduceSub, Array.replicate_succ, Array.replicate_zero, List.push_toArray, List.append_toArray, List.nil_append, List.cons_append]
  have hal : Below w.heap.size w (w.alloc (.cells #[.slice none 0 0] 23)) := belowAlloc (Below.refl _ _) _
  have HC0 := Lib.hid ((callsIn_wide (n := 4)).2 (implUniverse_e u (.slice a u.length cap) (w.alloc (.cells #[.slice none 0 0] 23)) (hA.kept hal) hE))
  have HAL := Lib.hid hal
  have HA := Lib.hid hA
  have HR0 := Lib.hid (World.alloc_heap_new w (.cells #[.slice none 0 0] 23))
  have hL := hE.1
  clear hA hE hal
  obtain ⟨q, hq⟩ : ∃ q, uniB u = q := ⟨_, rfl⟩
  rw [hq] at HC0
  have HQ := Lib.hid hq
  clear hq
  gi_wp2_with fail
  refine ⟨trivial, ?_⟩
  refine HC0.out.mono ?_
  rintro e w2 ⟨rfl, hb⟩
  have HB2 := Lib.hid (belowOn HAL.out (Nat.le_refl _) hb)
  obtain ⟨RB, hRB⟩ : ∃ RB, RB = w.heap.size := ⟨_, rfl⟩
  have HRB := Lib.hid hRB
  have hrb2 : w2.heap[RB]? = some (.cells #[.slice none 0 0] 23) := by
    rw [hRB]
    exact (hb.block _ (Array.getElem?_eq_some_iff.1 HR0.out).1).trans HR0.out
  rw [← hRB]
  have HR2 := Lib.hid hrb2
  clear HC0 HAL HR0 hb hRB hrb2
  -- nothing is answered
  have HNO : Hid (¬ (UniP u ∧ 1 ≤ z ∧ z ≤ 5) → ∀ tmps : Array Value, tmps.getD 4 undef = .pointer (some ⟨RB, 0, none⟩) → LeavesInM Fence.wide 5 Try.prog Try.f37 tmps (fun e w' => ∃ U, e = .returned U ∧ NewTree (gtL u z) w U w') [] .returning (w2.setCell ⟨RB, 0, none⟩ (.slice none 0 0))) := Lib.hid fun hno tmps ht => by
    refine ground_leave (Ds := []) rfl ht (set_box _ HR2.out) ⟨by simp, fun D hD => by cases hD⟩ fun W' ho => ⟨_, rfl, ?_⟩
    rw [gtL_no hno]
    refine ⟨.nil _, HB2.out.trans (Below.trans (b := w2.setCell ⟨RB, 0, none⟩ (.slice none 0 0)) ?_ ⟨ho.os, ho.tape, ho.output, ho.size, fun k hk => ho.block k (by have := HB2.out.size; simp [World.setCell]; omega) fun h => by cases h⟩)⟩
    have h1 := only_set w2 RB (.slice none 0 0)
    exact ⟨h1.os, h1.tape, h1.output, h1.size, fun k hk => h1.block k (by have := HB2.out.size; omega) (by have := HRB.out; omega)⟩
  have c4 := cells1_of HR2.out
  have f4 := frozen_box HR2.out 0
  have z4 := (Array.getElem?_eq_some_iff.1 HR2.out).1
  cases q with
  | false =>
    have hno : ¬ (UniP u ∧ 1 ≤ z ∧ z ≤ 5) := fun h => uniB_false.1 HQ.out h.1
    have HN2 := Lib.hid (HNO.out hno)
    clear hno HNO
    gi_wp2
    exact HN2.out _ rfl
  | true =>
    by_cases hz : 1 ≤ z ∧ z ≤ 5
    case neg =>
      have hno : ¬ (UniP u ∧ 1 ≤ z ∧ z ≤ 5) := fun h => hz h.2
      have HN2 := Lib.hid (HNO.out hno)
      clear hno HNO
      by_cases h1 : z < 1
      · clear hz
        gi_wp2
        all_goals exact HN2.out _ rfl
      · have h5 : 5 < z := by omega
        clear hz
        gi_wp2
        all_goals exact HN2.out _ rfl
    case pos =>
      obtain ⟨n, rfl⟩ : ∃ n : Nat, z = (n : Int) := ⟨z.toNat, by omega⟩
      have hn : 1 ≤ n ∧ n ≤ 5 := by omega
      have hz1 : ¬ ((n : Int) < 1) := by omega
      have hz5 : ¬ (5 < (n : Int)) := by omega
      have HN := Lib.hid hn
      have HU := Lib.hid (uniB_true.1 HQ.out)
      clear hn HNO HQ hz
      have hbl : Below w2.heap.size w2 (w2.alloc (.cells #[.slice none 0 0] 23)) := belowAlloc (Below.refl _ _) _
      have HK0 : Hid (∃ A : Fp, A.ok (w2.alloc (.cells #[.slice none 0 0] 23)).heap.size ∧ KG w RB w2.heap.size [] (gtS u 0) A (w2.alloc (.cells #[.slice none 0 0] 23))) := Lib.hid (by
        have hs2 := HB2.out.size
        have hR := HRB.out
        refine ⟨⟨fun k => k = RB ∨ k = w2.heap.size, fun k => k < w.heap.size⟩, ⟨fun k hk => ?_, fun k hk hp => ?_⟩, ⟨fun k hk => hk, belowOn HB2.out (Nat.le_refl _) hbl, ⟨by omega, by omega, by omega⟩, ⟨.inl rfl, (hbl.block RB z4).trans HR2.out⟩, ⟨.inr rfl, .slice none 0 0, World.alloc_heap_new _ _, RowT.nil _ _, fun b hb => by cases hb⟩, by simp, fun D hD => by cases hD⟩⟩
        · have : (w2.alloc (.cells #[.slice none 0 0] 23)).heap.size = w2.heap.size + 1 := by simp
          rcases hk with (h | h) | h <;> omega
        · rcases hp with h | h <;> omega)
      obtain ⟨LB, hLB⟩ : ∃ LB, LB = w2.heap.size := ⟨_, rfl⟩
      clear hbl
      gi_wp2
      generalize hw3 : w2.alloc (.cells #[.slice none 0 0] 23) = w3 at HK0 ⊢
      rw [← hLB] at HK0 ⊢
      clear hw3 hLB c4 f4 z4 HR2 HB2 hz1 hz5
      refine wpIn_loop (fun a' w' => ∃ (i : Nat) (Ds : List Nat) (u2 u3 u6 u7 u8 u9 u10 u11 u12 u13 u14 u15 u16 u17 u18 u19 u20 u23 u24 u25 u26 u27 u28 u29 u30 u31 u32 u33 u34 u35 u36 u37 u38 u39 u40 u41 u42 u43 u44 u45 u46 u47 u48 u49 u50 u51 u52 : Value), a' = { tmps := #[.slice a u.length cap, .int .i64 (n : Int), u2, u3, .pointer (some ⟨RB, 0, none⟩), .pointer (some ⟨LB, 0, none⟩), u6, u7, u8, u9, u10, u11, u12, u13, u14, u15, u16, u17, u18, u19, u20, .int .i64 (n : Int), .int .i64 (i : Int), u23, u24, u25, u26, u27, u28, u29, u30, u31, u32, u33, u34, u35, u36, u37, u38, u39, u40, u41, u42, u43, u44, u45, u46, u47, u48, u49, u50, u51, u52], defers := Ds.map mk } ∧ Hid (i ≤ n ∧ OkS (gtS u i) ∧ ∃ A : Fp, A.ok w'.heap.size ∧ KG w RB LB Ds (gtS u i) A w')) (fun a' w' => n - nAt a') ?start ?round
      case start =>
        exact ⟨0, [], _, _, _, _, _, _, _, _, _, _, _, _, _, _, _, _, _, _, _, _, _, _, _, _, _, _, _, _, _, _, _, _, _, _, _, _, _, _, _, _, _, _, _, _, _, _, _, rfl, Lib.hid ⟨Nat.zero_le _, OkS.nil, HK0.out⟩⟩
      case round =>
        rintro a' w' ⟨i, Ds, u2, u3, u6, u7, u8, u9, u10, u11, u12, u13, u14, u15, u16, u17, u18, u19, u20, u23, u24, u25, u26, u27, u28, u29, u30, u31, u32, u33, u34, u35, u36, u37, u38, u39, u40, u41, u42, u43, u44, u45, u46, u47, u48, u49, u50, u51, u52, rfl, HI⟩
        clear HK0 w3
        have hmu : nAt { tmps := #[.slice a u.length cap, .int .i64 (n : Int), u2, u3, .pointer (some ⟨RB, 0, none⟩), .pointer (some ⟨LB, 0, none⟩), u6, u7, u8, u9, u10, u11, u12, u13, u14, u15, u16, u17, u18, u19, u20, .int .i64 (n : Int), .int .i64 (i : Int), u23, u24, u25, u26, u27, u28, u29, u30, u31, u32, u33, u34, u35, u36, u37, u38, u39, u40, u41, u42, u43, u44, u45, u46, u47, u48, u49, u50, u51, u52], defers := Ds.map mk } = i := (nAt_of (k := .i64) (r := (i : Int)) rfl).trans (by simp)
        rw [hmu]
        clear hmu
        by_cases hlt : i < n
        case neg =>
          have hni : ¬ ((i : Int) < (n : Int)) := by omega
          obtain rfl : i = n := by have := HI.out.1; omega
          obtain ⟨_, hok, A, hA, hK⟩ := HI.out
          obtain ⟨VL, v1, v2, v3⟩ := hK.l.2
          obtain ⟨va, vc, rfl⟩ := v2.slice
          have HC := Lib.hid ((callsIn_wide (n := 4)).2 (eachCopied_any (gtS u i) _ w' v2.args.at (fun t ht => (hok.2 t ht).2) (okS_each hok)))
          have c5 := cells1_of v1
          have HV := Lib.hid v3
          have HKK := Lib.hid hK
          have HOK := Lib.hid hok
          have HAK := Lib.hid hA
          clear hlt v1 v2 v3 hK hok hA HI
          gi_wp2_with fail
          refine ⟨trivial, ?_⟩
          refine HC.out.mono ?_
          rintro e w4 ⟨U, rfl, hU⟩
          obtain ⟨ua, uc, rfl⟩ := hU.1.argsAt.slice
          have HU4 := Lib.hid hU
          have hr4 := (hU.2.block RB (Array.getElem?_eq_some_iff.1 HKK.out.r.2).1).trans HKK.out.r.2
          have HR4 := Lib.hid hr4
          have c4 := cells1_of hr4
          have f4 := frozen_box hr4 0
          have z4 := (Array.getElem?_eq_some_iff.1 hr4).1
          clear hU HC c5 hr4
          gi_wp2
          show LeavesInM Fence.wide 5 Try.prog _ _ _ (Ds.map mk) .returning _
          have hk := HKK.out
          have hs0 := hk.o.size
          have hs4 := HU4.out.2.size
          have hrl := (Array.getElem?_eq_some_iff.1 hk.r.2).1
          refine ground_leave rfl rfl (set_box _ HR4.out) ⟨hk.d.1, fun D hD => ((only_set w4 RB _).block D (by have := (Array.getElem?_eq_some_iff.1 (hk.d.2 D hD).2).1; omega) (fun e => by
            have h1 := (hk.d.2 D hD).2
            rw [e, hk.r.2] at h1
            cases h1)).trans ((HU4.out.2.block D (Array.getElem?_eq_some_iff.1 (hk.d.2 D hD).2).1).trans (hk.d.2 D hD).2)⟩ fun W' ho => ⟨_, rfl, ?_⟩
          rw [gtL_yes HU.out HN.out HOK.out]
          have h2 := only_set w4 RB (.slice ua (gtS u i).length uc)
          have hsW := ho.size
          have hs5 := h2.size
          have hDl : ∀ D ∈ Ds, D < w'.heap.size := fun D hD => (Array.getElem?_eq_some_iff.1 (hk.d.2 D hD).2).1
          have hDw : ∀ D ∈ Ds, w.heap.size ≤ D := fun D hD => Nat.le_of_not_lt fun h => HAK.out.off D (hk.zs D h) (hk.d.2 D hD).1
          refine ⟨(HU4.out.1.frame fun k hk1 hk2 => (ho.block k (by omega) (fun h => by have := hDl k h; unfold iv at hk1; omega)).trans (h2.block k hk2 (fun e => by unfold iv at hk1; omega))).sub fun k hk1 => by unfold iv at hk1 ⊢; omega, ?_⟩
          exact ⟨ho.os.trans (h2.os.trans (HU4.out.2.os.trans hk.o.os)), ho.tape.trans (h2.tape.trans (HU4.out.2.tape.trans hk.o.tape)), ho.output.trans (h2.output.trans (HU4.out.2.output.trans hk.o.output)), by omega, fun k hkk => (ho.block k (by omega) (fun h => by have := hDw k h; omega)).trans ((h2.block k (by omega) (fun e => by have := hk.ne.1; omega)).trans ((HU4.out.2.block k (by omega)).trans (hk.o.block k hkk)))⟩
        case pos =>
          have hli : (i : Int) < (n : Int) := by omega
          have w1e : IntKind.i64.wrap ((i : Int) + 1) = (i : Int) + 1 := IntWalk.i64_in _ (by have := HN.out; omega)
          have HC1 : Hid (CallsIn Fence.wide 4 Try.prog 71 #[.slice a u.length cap, .int .i64 ((i : Int) + 1)] w' (BuiltR u 5 (i + 1) (fun k => k < w.heap.size) w')) := Lib.hid ((callsIn_wide (n := 4)).2 (by
            obtain ⟨_, _, A, hA, hK⟩ := HI.out
            have h := built_any u HU.out.1.2 5 (Nat.le_refl _) (i + 1) a cap (fun k => k < w.heap.size) w' (by omega) (by have := HN.out; omega) (fun k hk => Nat.lt_of_lt_of_le hk hK.o.size) (HA.out.inS.frame hK.o.size fun k hk _ => hK.o.block k hk)
            rwa [show ((i + 1 : Nat) : Int) = (i : Int) + 1 by omega] at h))
          have HLT := Lib.hid hlt
          clear hlt
          gi_wp2_with fail
          refine ⟨trivial, ?_⟩
          refine HC1.out.mono ?_
          rintro e w4 ⟨g1, lb1, rfl, HE1, HB1, HIT1⟩
          clear HC1
          gi_wp2_with fail
          refine range_iter (gf := g1) (lb := lb1) (w0 := w4) (Zc := fun k => k < w.heap.size ∨ (w'.heap.size ≤ k ∧ k < w4.heap.size)) rfl HE1.out HIT1.out (Only.refl _ _) (fun _ h => h) ?zlt (fun _ _ _ _ _ _ h => h.elim) (fun x v Y W h => h.size)
            (fun pre Y W' => Lift JT (KG w RB LB Ds (putsT (gtS u i) pre)) () Y W' ∧ OkS (putsT (gtS u i) pre))
            (fun c pre Y W' => ((∃ S, Lift JT (KG w RB LB Ds S) () Y W') ∧ ¬ OkS (gtS u n)) ∧ c = .ret)
            (AbY.and (liftT_aby (K := fun pre => KG w RB LB Ds (putsT (gtS u i) pre)) fun s => KG.stable _ _ _ _ _) (fun _ _ _ _ _ h _ _ _ _ => h)) ?hix ?h0
            (fun pre x v a' Y W' => ∃ (tb : Nat) (xa : Option Addr) (xc : Nat) (u2 u3 u8 u9 u10 u11 u12 u13 u14 u15 u16 u17 u18 u19 u20 u23 u24 u25 u26 u27 u28 u29 u30 u31 u32 u33 u34 u35 u36 u37 u38 u39 u40 u41 u42 u43 u44 u45 u46 u47 u48 u49 u50 u51 u52 : Value), (Lift JT (KV w RB LB Ds (putsT (gtS u i) pre) x (.slice xa x.args.length xc) tb) () Y W' ∧ OkS (putsT (gtS u i) pre)) ∧ a' = { tmps := #[.slice a u.length cap, .int .i64 (n : Int), u2, u3, .pointer (some ⟨RB, 0, none⟩), .pointer (some ⟨LB, 0, none⟩), .int .i64 (i : Int), .pointer (some ⟨tb, 0, none⟩), u8, u9, u10, u11, u12, u13, u14, u15, u16, u17, u18, u19, u20, .int .i64 (n : Int), .int .i64 (i : Int), u23, u24, u25, u26, u27, u28, u29, u30, u31, u32, u33, u34, u35, u36, u37, u38, u39, u40, u41, u42, u43, u44, u45, u46, u47, u48, u49, u50, u51, u52], defers := [] })
            ?hax ?assign ?body ?done ?stop
          case zlt =>
            obtain ⟨_, _, A, hA, hK⟩ := HI.out
            rintro k (h | h)
            · have := hK.o.size; have := HB1.out.size; omega
            · exact h.2
          case hix =>
            rintro c s' Y1 Y2 V1 V2 ⟨⟨⟨S, h⟩, hb⟩, hc⟩ h1 h2 h3 h4
            exact ⟨⟨⟨S, liftT_aby (K := fun S => KG w RB LB Ds S) (fun s => KG.stable _ _ _ _ _) S Y1 Y2 V1 V2 h h1 h2 h3 h4⟩, hb⟩, hc⟩
          case h0 =>
            obtain ⟨_, hok, A, hA, hK⟩ := HI.out
            have hs1 := HB1.out.size
            refine ⟨⟨⟨A.p, fun k => A.z k ∨ (w'.heap.size ≤ k ∧ k < w4.heap.size)⟩, ⟨fun k hk => ?_, fun k hk hp => ?_⟩, ⟨fun k _ h => h, fun k hk hz => ?_⟩, trivial, (hK.only (Only.of_below HB1.out)).sets (fun k hk => .inl hk) (fun k hk => hk) fun k hk hz => ?_⟩, hok⟩
            · rcases hk with h | h | h
              · have := hA.lt k (.inl h); omega
              · have := hA.lt k (.inr h); omega
              · exact h.2
            · rcases hk with h | h
              · exact hA.off k h hp
              · have := hA.lt k (.inl hp); omega
            · rcases hz with h | h
              · exact hA.off k (hK.zs k h) hk
              · have := hA.lt k (.inl hk); omega
            · rcases hz with h | h
              · exact hA.off k h hk
              · have := hA.lt k (.inl hk); omega
          case hax =>
            rintro pre x v a' Y1 Y2 V1 V2 ⟨tb, xa, xc, u2, u3, u8, u9, u10, u11, u12, u13, u14, u15, u16, u17, u18, u19, u20, u23, u24, u25, u26, u27, u28, u29, u30, u31, u32, u33, u34, u35, u36, u37, u38, u39, u40, u41, u42, u43, u44, u45, u46, u47, u48, u49, u50, u51, u52, ⟨h, hok⟩, e⟩ h1 h2 h3 h4
            exact ⟨tb, xa, xc, u2, u3, u8, u9, u10, u11, u12, u13, u14, u15, u16, u17, u18, u19, u20, u23, u24, u25, u26, u27, u28, u29, u30, u31, u32, u33, u34, u35, u36, u37, u38, u39, u40, u41, u42, u43, u44, u45, u46, u47, u48, u49, u50, u51, u52, ⟨liftT_aby (K := fun (_ : Unit) => KV w RB LB Ds (putsT (gtS u i) pre) x (.slice xa x.args.length xc) tb) (fun s => KV.stable _ _ _ _ _ _ _ _) () Y1 Y2 V1 V2 h h1 h2 h3 h4, hok⟩, e⟩
          case assign =>
            intro lp pre x v p' Y1 W1 K hlp hI hokY hp' hpre hG hK
            obtain ⟨xa, xc, rfl, hga⟩ := hG
            have hal : Below W1.heap.size W1 (W1.alloc (.cells #[.int .i64 x.kind, .int .i64 x.num, .string x.name, .slice xa x.args.length xc] 25)) := belowAlloc (Below.refl _ _) _
            have HL2 : Hid (Lift JT (KV w RB LB Ds (putsT (gtS u i) pre) x (.slice xa x.args.length xc) W1.heap.size) () Y1 (W1.alloc (.cells #[.int .i64 x.kind, .int .i64 x.num, .string x.name, .slice xa x.args.length xc] 25)) ∧ OkS (putsT (gtS u i) pre)) := Lib.hid (by
              obtain ⟨⟨A, a1, a2, _, a4⟩, hok⟩ := hI
              have hs : (W1.alloc (.cells #[.int .i64 x.kind, .int .i64 x.num, .string x.name, .slice xa x.args.length xc] 25)).heap.size = W1.heap.size + 1 := by simp
              refine ⟨⟨⟨A.p, fun k => (A.z k ∨ Y1.z k) ∨ k = W1.heap.size⟩, ⟨fun k hk => ?_, fun k hk hp => ?_⟩, ⟨fun k hk hp => ?_, fun k hk hz => a2.z k hk hz⟩, trivial, ⟨(a4.only (Only.of_below hal)).sets (fun k hk => .inl (.inl hk)) (fun k hk => hk) fun k hk hz => ?_, ⟨.inr rfl, World.alloc_heap_new _ _⟩, (hga.kept hal).sub fun k hk => .inl (.inr hk)⟩⟩, hok⟩
              · rcases hk with h | (h | h) | h
                · have := a1.lt k (.inl h); omega
                · have := a1.lt k (.inr h); omega
                · have := hokY.lt k (.inr h); omega
                · omega
              · rcases hk with (h | h) | h
                · exact a1.off k h hp
                · exact a2.z k hp h
                · have := a1.lt k (.inl hp); omega
              · rcases hk with h | (h | h) | h
                · exact a2.on k (.inl h) hp
                · exact a2.on k (.inr h) hp
                · exact hokY.off k h hp
                · have := hokY.lt k (.inl hp); omega
              · rcases hz with (h | h) | h
                · exact a1.off k h hk
                · exact a2.z k hk h
                · have := a1.lt k (.inl hk); omega)
            have HK := Lib.hid hK
            clear hI hga hK hal
            gi_wp2
            exact HK.out _ _ (only_alloc _ _ _) ⟨_, xa, xc, _, _, _, _, _, _, _, _, _, _, _, _, _, _, _, _, _, _, _, _, _, _, _, _, _, _, _, _, _, _, _, _, _, _, _, _, _, _, _, _, _, _, _, _, _, HL2.out, rfl⟩
          case body =>
            intro lp pre x v a' Y1 W1 hlp hrr hlY hokY hpre hAx
            obtain ⟨tb, xa, xc, u2, u3, u8, u9, u10, u11, u12, u13, u14, u15, u16, u17, u18, u19, u20, u23, u24, u25, u26, u27, u28, u29, u30, u31, u32, u33, u34, u35, u36, u37, u38, u39, u40, u41, u42, u43, u44, u45, u46, u47, u48, u49, u50, u51, u52, ⟨hL1, hok⟩, rfl⟩ := hAx
            obtain ⟨A, a1, a2, _, a4⟩ := hL1
            have hx : Good x := bf_good (uni_good HU.out) 5 (i + 1) x (by obtain ⟨r, hr⟩ := hpre; rw [← hr]; simp)
            have hxz : x.sz ≤ 1048576 := by
              have h := bf_sz (uni_sz HU.out) 5 (i + 1) x (by obtain ⟨r, hr⟩ := hpre; rw [← hr]; simp)
              have h1 := HN.out
              have h2 := HLT.out
              have : (i + 1) * (65000 + 2) ≤ 5 * (65000 + 2) := Nat.mul_le_mul_right _ (by omega)
              omega
            have hasc : AscT (putsT (gtS u i) pre) := puts_asc HU.out (by obtain ⟨r, hr⟩ := hpre; exact ⟨x :: r, by rw [← hr]; simp⟩)
            have HSN : Hid (putsT (gtS u i) (pre ++ [x]) = insT (putsT (gtS u i) pre) x) := Lib.hid (putsT_snoc _ _ _)
            have HOS : Hid (OkS (putsT (gtS u i) (pre ++ [x])) ↔ (x ∈ putsT (gtS u i) pre ∨ (Ok x ∧ (putsT (gtS u i) pre).length ≠ 512))) := Lib.hid (okS_snoc hok)
            obtain ⟨S', hS'⟩ : ∃ S', putsT (gtS u i) (pre ++ [x]) = S' := ⟨_, rfl⟩
            obtain ⟨S, hS⟩ : ∃ S, putsT (gtS u i) pre = S := ⟨_, rfl⟩
            have HPB : Hid (¬ OkS S' → ¬ OkS (gtS u n)) := Lib.hid fun h => okS_bad HLT.out hpre (by rw [hS']; exact h)
            rw [hS'] at HSN HOS
            rw [hS] at HSN HOS hok hasc a4
            have HSE := Lib.hid hS'
            clear hS hS' hpre hrr hlY
            obtain ⟨VL, v1, v2, v3⟩ := a4.k.l.2
            obtain ⟨va, vc, rfl⟩ := v2.slice
            have HFT : Hid (A.ok W1.heap.size ∧ Apart A Y1 ∧ Y1.ok W1.heap.size ∧ KG w RB LB Ds S A W1) := Lib.hid ⟨a1, a2, hokY, a4.k⟩
            have HX := Lib.hid (And.intro hx (And.intro hxz (And.intro hasc hok)))
            have HV := Lib.hid (And.intro v1 (And.intro v2 v3))
            have HKX := Lib.hid (And.intro a4.h a4.a)
            have HC9 : Hid (CallsIn (Fence.wide.inRound lp) 4 Try.prog 72 #[.slice va S.length vc, .agg #[.int .i64 x.kind, .int .i64 x.num, .string x.name, .slice xa x.args.length xc], .func (.func 60) #[] #[]] W1 (fun e w' => FindT S x e ∧ Below W1.heap.size W1 w')) := Lib.hid (CallsIn.inRound lp ((callsIn_wide (n := 4)).2 (binarySearch_any S _ x _ W1 v2.args.at a4.a.at hasc hx (okS_each hok) hxz)))
            have c5 := cells1_of v1
            obtain ⟨b0, b1, b2, b3, _⟩ := box_cells a4.h.2
            clear a1 a2 a4 v1 v2 v3 hokY hx hxz hasc hok
            gi_wp2_with fail
            refine ⟨trivial, ?_⟩
            refine HC9.out.mono ?_
            rintro e W2 ⟨⟨k, rfl, hk⟩, hb2⟩
            obtain ⟨q, hq⟩ : ∃ q, hasT S x = q := ⟨_, rfl⟩
            rw [hq]
            have HQ := Lib.hid hq
            have HKA := Lib.hid hk
            have HB2 := Lib.hid hb2
            clear HC9 c5 b0 b1 b2 b3 hk hb2 hq
            cases q with
            | true =>
              have HFIN : Hid (Only (fun k => ¬ Y1.on k ∨ NoneC v k) W1 W2 ∧ Lift JT (KG w RB LB Ds S') () Y1 W2 ∧ OkS S') := Lib.hid (by
                obtain ⟨f1, f2, f3, f4⟩ := HFT.out
                have hm := hasT_true.1 HQ.out
                refine ⟨Only.of_below HB2.out, ⟨A, f1.up HB2.out.size, f2, trivial, ?_⟩, HOS.out.2 (.inl hm)⟩
                rw [HSN.out, insT_yes hm]
                exact f4.only (Only.of_below HB2.out))
              gi_wp2
              obtain rfl := HSE.out
              exact HFIN.out
            | false =>
              have HC11 : Hid (CallsIn (Fence.wide.inRound lp) 4 Try.prog 57 #[.agg #[.int .i64 x.kind, .int .i64 x.num, .string x.name, .slice xa x.args.length xc]] W2 (fun e w' => e = .returned (.bool (okB x)) ∧ Below W2.heap.size W2 w')) := Lib.hid (CallsIn.inRound lp ((callsIn_wide (n := 4)).2 (implTermOk_any x _ W2 (HKX.out.2.kept HB2.out).at HX.out.2.1)))
              have hbx2 := (HB2.out.block tb (Array.getElem?_eq_some_iff.1 HKX.out.1.2).1).trans HKX.out.1.2
              obtain ⟨b0, b1, b2, b3, _⟩ := box_cells hbx2
              clear hbx2
              gi_wp2_with fail
              refine ⟨trivial, ?_⟩
              refine HC11.out.mono ?_
              rintro e W3 ⟨rfl, hb3⟩
              have HB3 := Lib.hid (belowOn HB2.out (Nat.le_refl _) hb3)
              obtain ⟨qo, hqo⟩ : ∃ qo, okB x = qo := ⟨_, rfl⟩
              rw [hqo]
              have HQO := Lib.hid hqo
              have HNM : Hid (¬ x ∈ S) := Lib.hid (hasT_false.1 HQ.out)
              clear HC11 b0 b1 b2 b3 hb3 hqo
              have hbl3 := (HB3.out.block LB (Array.getElem?_eq_some_iff.1 HV.out.1).1).trans HV.out.1
              have hbr3 := (HB3.out.block RB (Array.getElem?_eq_some_iff.1 HFT.out.2.2.2.r.2).1).trans HFT.out.2.2.2.r.2
              have c5 := cells1_of hbl3
              have c4 := cells1_of hbr3
              have f4 := frozen_box hbr3 0
              have z4 := (Array.getElem?_eq_some_iff.1 hbr3).1
              have HBR := Lib.hid hbr3
              have HBL := Lib.hid hbl3
              have HBAD : Hid (¬ OkS S' → Only (fun k => ¬ Y1.on k ∨ NoneC v k) W1 (W3.setCell ⟨RB, 0, none⟩ (.slice none 0 0)) ∧ (∃ S, Lift JT (KG w RB LB Ds S) () Y1 (W3.setCell ⟨RB, 0, none⟩ (.slice none 0 0))) ∧ ¬ OkS (gtS u n)) := Lib.hid (fun hbad => by
                obtain ⟨f1, f2, f3, f4⟩ := HFT.out
                have ho := only_set W3 RB (.slice none 0 0)
                have hs3 := HB3.out.size
                have hso := ho.size
                refine ⟨(Only.of_below HB3.out).trans (ho.sub fun k hk => .inl fun hy => ?_), ⟨S, A, f1.up (by omega), f2, trivial, ?_⟩, HPB.out hbad⟩
                · rw [hk] at hy
                  rcases hy with h | h
                  · exact f2.on RB (.inl f4.r.1) h
                  · exact f2.z RB f4.r.1 h
                · have f5 := f4.only (Only.of_below HB3.out)
                  obtain ⟨VL, v1, v2, v3⟩ := f5.l.2
                  have hne := f5.ne
                  have hs0 := f5.o.size
                  refine ⟨f5.zs, f5.o.trans ⟨ho.os, ho.tape, ho.output, hso, fun k hk => ho.block k (by omega) (by omega)⟩, hne, ⟨f5.r.1, set_box _ HBR.out⟩, ⟨f5.l.1, VL, (ho.block LB (Array.getElem?_eq_some_iff.1 v1).1 (fun e => hne.2.2 e.symm)).trans v1, v2.moved hso (fun k hk hl => ho.block k hl fun e => f1.off k hk (by rw [e]; exact f4.r.1)) (fun b hb => ho.block b (v2.lt b hb) (v3 b hb).2.1) (fun _ h => h) v2.off, v3⟩, f5.d.1, fun D hD => ⟨(f5.d.2 D hD).1, (ho.block D (Array.getElem?_eq_some_iff.1 (f5.d.2 D hD).2).1 fun e => ?_).trans (f5.d.2 D hD).2⟩⟩
                  have h1 := (f5.d.2 D hD).2
                  rw [e, f5.r.2] at h1
                  cases h1)
              cases qo with
              | false =>
                have HF := Lib.hid (HBAD.out fun hk => by
                  rcases HOS.out.1 hk with h | h
                  · exact HNM.out h
                  · exact okB_false.1 HQO.out h.1)
                clear HBAD
                gi_wp2
                all_goals first | exact ⟨HF.out.1, ⟨HF.out.2.1, HF.out.2.2⟩, rfl⟩ | exact ⟨HF.out.1, HF.out.2⟩
              | true =>
                by_cases h512 : S.length = 512
                · have h5 : ((S.length : Int) == 512) = true := by rw [h512]; rfl
                  have h5e : (S.length : Int) = 512 := by omega
                  have HF := Lib.hid (HBAD.out fun hk => by
                    rcases HOS.out.1 hk with h | h
                    · exact HNM.out h
                    · exact h.2 h512)
                  clear HBAD h512
                  gi_wp2
                  all_goals first | exact ⟨HF.out.1, ⟨HF.out.2.1, HF.out.2.2⟩, rfl⟩ | exact ⟨HF.out.1, HF.out.2⟩
                · have h5 : ((S.length : Int) == 512) = false := by rw [beq_eq_false_iff_ne]; omega
                  have h5e : ¬ (S.length : Int) = 512 := by omega
                  clear HBAD
                  have hbx3 := (HB3.out.block tb (Array.getElem?_eq_some_iff.1 HKX.out.1.2).1).trans HKX.out.1.2
                  obtain ⟨b0, b1, b2, b3, _⟩ := box_cells hbx3
                  have HAL : Hid (Below W3.heap.size W3 (W3.alloc (.cells #[.int .i64 x.kind, .int .i64 x.num, .string x.name, .slice xa x.args.length xc] 25))) := Lib.hid (belowAlloc (Below.refl _ _) _)
                  have HSI : Hid (S' = S.take k ++ x :: S.drop k) := Lib.hid (by rw [HSN.out]; exact insT_no HX.out.2.2.1 HX.out.1 HNM.out HKA.out)
                  have HCI : Hid (CallsIn (Fence.wide.inRound lp) 4 Try.prog 73 #[.slice va S.length vc, .int .i64 (k : Int), .slice (some ⟨W3.heap.size, 0, none⟩) 1 1] (W3.alloc (.cells #[.int .i64 x.kind, .int .i64 x.num, .string x.name, .slice xa x.args.length xc] 25)) (InsR A.z (.slice va S.length vc) S' (W3.alloc (.cells #[.int .i64 x.kind, .int .i64 x.num, .string x.name, .slice xa x.args.length xc] 25)))) := Lib.hid (CallsIn.inRound lp ((callsIn_wide (n := 4)).2 (by
                    have hb4 := belowOn HB3.out (Nat.le_refl _) HAL.out
                    have hr := HV.out.2.1.moved hb4.size (fun k _ hl => hb4.block k hl) (fun b hb => hb4.block b (HV.out.2.1.lt b hb)) (fun _ h => h) HV.out.2.1.off
                    rw [HSI.out]
                    exact insertT_any S _ k A.z x _ W3.heap.size _ hr HX.out.2.2.2.1 HKA.out.1 (World.alloc_heap_new _ _) (fun b hb e => by have := HV.out.2.1.lt b hb; have := HB3.out.size; omega) (HKX.out.2.kept hb4) (fun k hk => by have := HFT.out.1.lt k (.inr hk); have := hb4.size; omega))))
                  have HW3 := Lib.hid (World.alloc_heap_new W3 (.cells #[.int .i64 x.kind, .int .i64 x.num, .string x.name, .slice xa x.args.length xc] 25))
                  clear h512 hbx3 f4 z4 c4
                  gi_wp2_with fail
                  refine ⟨trivial, ?_⟩
                  refine HCI.out.mono ?_
                  rintro e W5 ⟨U, rfl, hU1, hU2, hU3⟩
                  obtain ⟨ua, uc, rfl⟩ := hU1.slice
                  have hbl5 := (hU2.block LB (by have := (Array.getElem?_eq_some_iff.1 HBL.out).1; have := HAL.out.size; omega) (fun e => (HV.out.2.2 LB e).2.2.1 rfl)).trans ((HAL.out.block LB (Array.getElem?_eq_some_iff.1 HBL.out).1).trans HBL.out)
                  have HFIN : Hid (Only (fun k => ¬ Y1.on k ∨ NoneC v k) W1 (W5.setCell ⟨LB, 0, none⟩ (.slice ua S'.length uc)) ∧ Lift JT (KG w RB LB Ds S') () Y1 (W5.setCell ⟨LB, 0, none⟩ (.slice ua S'.length uc)) ∧ OkS S') := Lib.hid (by
                    obtain ⟨f1, f2, f3, f4⟩ := HFT.out
                    obtain ⟨v1, v2, v3⟩ := HV.out
                    have hb4 := belowOn HB3.out (Nat.le_refl _) HAL.out
                    have hset := only_set W5 LB (.slice ua S'.length uc)
                    have ho : Only (fun k => k = LB ∨ (Value.slice va S.length vc).ownBlock = some k) W1 (W5.setCell ⟨LB, 0, none⟩ (.slice ua S'.length uc)) := (Only.of_below hb4).trans ((hU2.sub fun k hk => .inr hk).trans (hset.sub fun k hk => .inl hk))
                    have hs := ho.size
                    have hLl := (Array.getElem?_eq_some_iff.1 v1).1
                    obtain ⟨g1, g2⟩ := own_more f1 f3 f2 hs
                    have hUb : ∀ b, (Value.slice ua S'.length uc).ownBlock = some b → (Value.slice va S.length vc).ownBlock = some b ∨ W1.heap.size ≤ b := fun b hb => (hU3 b hb).imp id fun h => by have := hb4.size; omega
                    refine ⟨ho.sub fun k hk => .inl fun hy => ?_, ⟨_, g1, g2, trivial, f4.put f1 v1 v3 v2.isRow ho (set_box _ hbl5) (hU1.moved hset.size (fun k hk hl => hset.block k hl fun e => f1.off k hk (by rw [e]; exact f4.l.1)) (fun b hb => hset.block b (hU1.lt b hb) fun e => ?_) (fun _ h => h) hU1.off) hUb⟩, HOS.out.2 (.inr ⟨okB_true.1 HQO.out, fun e => h5e (by omega)⟩)⟩
                    · have hpk : A.p k := by
                        rcases hk with h | h
                        · rw [h]; exact f4.l.1
                        · exact (v3 k h).1
                      rcases hy with h | h
                      · exact f2.on k (.inl hpk) h
                      · exact f2.z k hpk h
                    · rcases hUb b hb with h | h
                      · exact (v3 b h).2.2.1 e
                      · omega)
                  have c5' := cells1_of hbl5
                  have f5' := frozen_box hbl5 0
                  have z5' := (Array.getElem?_eq_some_iff.1 hbl5).1
                  clear HCI hU1 hU2 hU3 hbl5 c5 b0 b1 b2 b3
                  gi_wp2
                  obtain rfl := HSE.out
                  exact HFIN.out
          case done =>
            intro D Y1 W1 hD hYD hokY hI hdef
            have HTOT : Hid (OkS (gtS u (i + 1)) ∧ ∃ A : Fp, A.ok W1.heap.size ∧ KG w RB LB (D :: Ds) (gtS u (i + 1)) A W1) := Lib.hid (by
              obtain ⟨⟨A, a1, a2, _, a4⟩, hok⟩ := hI
              rw [← gtS_succ] at a4 hok
              have hDA : ¬ A.on D := fun h => a2.on D h hYD
              refine ⟨hok, ⟨fun k => A.p k ∨ k = D, A.z⟩, ⟨fun k hk => ?_, fun k hk hp => ?_⟩, ?_⟩
              · rcases hk with (h | h) | h
                · exact a1.lt k (.inl h)
                · rw [h]; exact hokY.lt D (.inl hYD)
                · exact a1.lt k (.inr h)
              · rcases hp with h | h
                · exact a1.off k hk h
                · rw [h] at hk; exact hDA (.inr hk)
              · have b4 := a4.sets (B := ⟨fun k => A.p k ∨ k = D, A.z⟩) (fun _ h => h) (fun k h => .inl h) fun k hk hz => a1.off k hz hk
                exact ⟨b4.zs, b4.o, b4.ne, b4.r, b4.l, List.nodup_cons.2 ⟨fun h => hDA (.inl (a4.d.2 D h).1), a4.d.1⟩, fun D' hD' => by
                  rcases List.mem_cons.1 hD' with h | h
                  · rw [h]; exact ⟨.inr rfl, hdef⟩
                  · exact b4.d.2 D' h⟩)
            clear hI hokY hdef hYD hD
            gi_wp2
            refine ⟨⟨i + 1, D :: Ds, _, _, _, _, _, _, _, _, _, _, _, _, _, _, _, _, _, _, _, _, _, _, _, _, _, _, _, _, _, _, _, _, _, _, _, _, _, _, _, _, _, _, _, _, _, _, _, rfl, Lib.hid ⟨by have := HLT.out; omega, HTOT.out⟩⟩, ?_⟩
            refine Nat.lt_of_le_of_lt (Nat.le_of_eq (congrArg (n - ·) (nAt_of (k := .i64) (r := (i : Int) + 1) rfl))) ?_
            have := HLT.out
            show n - ((i : Int) + 1).toNat < n - i
            omega
          case stop =>
            rintro D c pre Y1 W1 hD hYD hokY ⟨⟨⟨S, hI⟩, hbad⟩, rfl⟩ hdef
            have HI2 := Lib.hid (And.intro hI (And.intro hokY (And.intro hYD (And.intro hdef (And.intro hD hbad)))))
            clear hI hokY hYD hdef hD hbad
            gi_wp2
            show LeavesInM Fence.wide 5 Try.prog _ _ _ ((D :: Ds).map mk) .returning W1
            obtain ⟨⟨A, a1, a2, _, a4⟩, hokY, hYD, hdef, hD, hbad⟩ := HI2.out
            have hDA : ¬ A.on D := fun h => a2.on D h hYD
            have hall : ∀ E ∈ D :: Ds, W1.heap[E]? = some (.deferred (some [])) := fun E hE => by
              rcases List.mem_cons.1 hE with h | h
              · rw [h]; exact hdef
              · exact (a4.d.2 E h).2
            refine ground_leave rfl rfl a4.r.2 ⟨List.nodup_cons.2 ⟨fun h => hDA (.inl (a4.d.2 D h).1), a4.d.1⟩, hall⟩ fun W' ho => ⟨_, rfl, ?_⟩
            rw [gtL_bad hbad]
            refine ⟨.nil _, a4.o.trans ⟨ho.os, ho.tape, ho.output, ho.size, fun k hk => ho.block k (by have := a4.o.size; omega) fun h => ?_⟩⟩
            rcases List.mem_cons.1 h with e | e
            · rw [e] at hk
              exact hDA (.inr (a4.zs D hk))
            · exact a1.off k (a4.zs k hk) (a4.d.2 k e).1
end Go.Proofs.Ytoihimdfmncdoaa

