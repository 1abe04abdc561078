/-
  The program's solver: root, isVariable, bind, knotOf.
-/
import Derived.Test.YtealiilcnmdmdaaGreatKnotK
import Derived.BigQuiet
import Derived.StillTailTactics
import Derived.Deep.QuietTactic
namespace Go.Proofs.YtealiilcnmdmdaaGreat
open Go.RowKit
set_option linter.unusedVariables false
set_option linter.unusedSimpArgs false

set_option maxRecDepth 100000 in
set_option maxHeartbeats 2000000 in
theorem root_any (w0 : World) (p : Nat) (s : St) (b : Nat) (w : World) (h : SolW w0 p s w) (hb : b ∈ s.D) :
    Calls Tryz.prog 79 #[.pointer (some ⟨b, 0, none⟩)] w fun e w' => e = .returned (.pointer (some ⟨s.rep b, 0, none⟩)) ∧ SolW w0 p s w' ∧ Only (fun k => k ∈ s.D) w w' := by
  obtain ⟨tie, hT⟩ := h
  obtain ⟨n, hn⟩ := hT.chain b hb
  have H0 : Hid (b ∈ s.D ∧ SolT w0 p s tie w ∧ Chain tie b n (s.rep b)) := Lib.hid ⟨hb, hT, hn⟩
  generalize s.rep b = r at H0 ⊢
  clear hT hn hb
  go_enter Tryz.func79, Tryz.ntmps79
  go_wp2
  go_loopg [0] n (fun gk kv wr => ∃ (k : Nat) (tie : Nat → Option Nat), kv = .pointer (some ⟨k, 0, none⟩) ∧ Hid (k ∈ s.D ∧ SolT w0 p s tie wr ∧ Chain tie k gk r ∧ Only (fun k => k ∈ s.D) w wr))
  case atStart => exact ⟨b, tie, rfl, Lib.hid ⟨H0.out.1, H0.out.2.1, H0.out.2.2, Only.refl _ _⟩⟩
  case round =>
    obtain ⟨k, tk, rfl, HR⟩ := hrel
    obtain ⟨a, c, PV, _, _, c0, _, _, _, _, _, f⟩ := (HR.out.2.1.knots k HR.out.1).cells
    have f0 := f 0
    clear f H0
    cases ht : tk k with
    | none =>
      rw [ht] at c0
      simp only [ptrO] at c0
      have HE : Hid (k = r ∧ SolW w0 p s wr ∧ Only (fun k => k ∈ s.D) w wr) := Lib.hid ⟨((Chain.nil ht).fn HR.out.2.2.1).2, ⟨_, HR.out.2.1⟩, HR.out.2.2.2⟩
      clear ht HR f0
      go_wp2
      go_ret
      exact ⟨by rw [HE.out.1]; rfl, HE.out.2.1, HE.out.2.2⟩
    | some j =>
      rw [ht] at c0
      simp only [ptrO] at c0
      have hjD := HR.out.2.1.tieD k HR.out.1 j ht
      obtain ⟨m, hm⟩ : ∃ m, gk = m + 1 ∧ Chain tk j m r := by
        cases HR.out.2.2.1 with
        | nil h => rw [ht] at h; cases h
        | @cons _ c m _ h k' => rw [ht] at h; cases h; exact ⟨m, rfl, k'⟩
      obtain ⟨rfl, hm⟩ := hm
      obtain ⟨a', c', PV', _, _, e0, _, _, _, _, _, _⟩ := (HR.out.2.1.knots j hjD).cells
      cases hj : tk j with
      | none =>
        rw [hj] at e0
        simp only [ptrO] at e0
        have HE : Hid (j ∈ s.D ∧ SolT w0 p s tk wr ∧ Chain tk j m r ∧ Only (fun k => k ∈ s.D) w wr) := Lib.hid ⟨hjD, HR.out.2.1, hm, HR.out.2.2.2⟩
        clear ht hj HR hm hjD
        go_wp2
        go_roundg m
        case measure => omega
        case rel => exact ⟨j, tk, rfl, HE⟩
      | some i =>
        rw [hj] at e0
        simp only [ptrO] at e0
        have HE : Hid (∃ m', m' ≤ m ∧ i ∈ s.D ∧ SolT w0 p s (updN tk k (some i)) (wr.setCell ⟨k, 0, none⟩ (.pointer (some ⟨i, 0, none⟩))) ∧ Chain (updN tk k (some i)) i m' r ∧ Only (fun k => k ∈ s.D) w (wr.setCell ⟨k, 0, none⟩ (.pointer (some ⟨i, 0, none⟩)))) := by
          have hiD := HR.out.2.1.tieD j hjD i hj
          have hch : ∃ m', m' ≤ m ∧ Chain (updN tk k (some i)) i m' r := by
            cases hm with
            | nil h => rw [hj] at h; cases h
            | @cons _ d m2 _ h k' =>
              rw [hj] at h
              cases h
              obtain ⟨m', h1, h2⟩ := chain_short ht hj m2 i r k'
              exact ⟨m', by omega, h2⟩
          obtain ⟨m', h1, h2⟩ := hch
          refine ⟨m', h1, hiD, HR.out.2.1.tied HR.out.1 hiD rfl rfl rfl rfl rfl rfl fun x hx => ?_, h2, HR.out.2.2.2.trans ((only_one wr k 0 (ptrN i)).sub fun q e => by rw [e]; exact HR.out.1)⟩
          obtain ⟨n', hn'⟩ := HR.out.2.1.chain x hx
          obtain ⟨m2, _, h3⟩ := chain_short ht hj n' x _ hn'
          exact ⟨m2, h3⟩
        clear ht hj HR hm hjD
        go_wp2
        obtain ⟨m', h1, h2, h3, h4, h5⟩ := HE.out
        go_roundg m'
        case measure => omega
        case rel => exact ⟨i, _, rfl, Lib.hid ⟨h2, h3, h4, h5⟩⟩

set_option maxHeartbeats 400000 in
theorem isVariable_any (b : Nat) (k : Int) (w : World) (hc : w.cell? ⟨b, 1, none⟩ = some (.int .i64 k)) :
    Calls Tryz.prog 92 #[.pointer (some ⟨b, 0, none⟩)] w fun e w' => e = .returned (.bool (k == 1)) ∧ w = w' := by
  go_enter Tryz.func92, Tryz.ntmps92
  go_wp2
  go_ret
  exact ⟨rfl, rfl⟩

set_option maxHeartbeats 1000000 in
theorem bind_any (w0 : World) (p : Nat) (s : St) (a b : Nat) (w : World) (h : SolW w0 p s w) (ha : a ∈ s.D) (hb : b ∈ s.D) (hra : s.rep a = a) (hrb : s.rep b = b) (hab : a ≠ b) (hbd : s.bound ≤ 1048576) :
    Calls Tryz.prog 93 #[.pointer (some ⟨p, 0, none⟩), .pointer (some ⟨a, 0, none⟩), .pointer (some ⟨b, 0, none⟩)] w fun e w' => e = .returned (.bool (decide (s.bound + 1 ≤ 400))) ∧ SolW w0 p (linkS s s.steps a b (s.bound + 1)) w' ∧ Fr isM w w' := by
  obtain ⟨tie, hT⟩ := h
  obtain ⟨mb, SV, xs, n, hh⟩ := hT.head
  obtain ⟨h1, h2⟩ := hT.bound ha hb hra hrb hab
  obtain ⟨h3, h4⟩ := h1.counted
  obtain ⟨mb', SV', xs', n', hh'⟩ := h1.head
  obtain ⟨_, d1, _, df⟩ := hh'.cells
  obtain ⟨_, _, _, _, _, c0, _, _, _, _, _, f⟩ := (hT.knots a ha).cells
  have f0 := f 0
  have g1 := df 1
  have hd2 : ((w.setCell ⟨a, 0, none⟩ (ptrN b)).setCell ⟨p, 1, none⟩ (.int .i64 ((s.bound : Int) + 1))).cell? ⟨p, 1, none⟩ = some (.int .i64 ((s.bound : Int) + 1)) := by
    obtain ⟨_, _, _, _, hq⟩ := h3.head
    have := hq.cells.2.1
    simpa [linkS] using this
  have HE : Hid (SolW w0 p (linkS s s.steps a b (s.bound + 1)) ((w.setCell ⟨a, 0, none⟩ (ptrN b)).setCell ⟨p, 1, none⟩ (.int .i64 ((s.bound : Int) + 1))) ∧ Fr isM w ((w.setCell ⟨a, 0, none⟩ (ptrN b)).setCell ⟨p, 1, none⟩ (.int .i64 ((s.bound : Int) + 1)))) := Lib.hid ⟨⟨_, h3⟩, h2.wide.trans h4⟩
  have e1 : IntKind.i64.wrap ((s.bound : Int) + 1) = (s.bound : Int) + 1 := IntWalk.i64_in _ (by omega)
  have d1' : (w.setCell ⟨a, 0, none⟩ (ptrN b)).cell? ⟨p, 1, none⟩ = some (.int .i64 (s.bound : Int)) := d1
  simp only [ptrN] at d1' hd2 HE
  have hz : (decide (((s.bound : Int) + 1) ≤ 400)) = decide (s.bound + 1 ≤ 400) := by
    rw [decide_eq_decide]; omega
  have HZ := Lib.hid hz
  clear hT hh h1 h2 h3 h4 hh' d1 df f ha hb hra hrb hab hz
  go_enter Tryz.func93, Tryz.ntmps93
  go_wp2
  go_ret
  exact ⟨by rw [← HZ.out]; rfl, HE.out.1, HE.out.2⟩

/-- Where only knots are written. -/
theorem SolW.fr {w0 w w' : World} {p : Nat} {s : St} (h : SolW w0 p s w) (ho : Only (fun k => k ∈ s.D) w w') : Fr isK w w' := by
  obtain ⟨tie, h⟩ := h
  exact ⟨ho.os, ho.tape, ho.output, ho.size, fun k hk hq => ho.block k hk fun hD => hq (h.knots k hD).isK⟩

set_option maxRecDepth 100000 in
set_option maxHeartbeats 1000000 in
theorem knotOf_any (w0 : World) (p : Nat) (s : St) (t : Tm) (V : Value) (w : World) (h : SolW w0 p s w) (hA : ArgsS w0 (fun k => k < w0.heap.size) V t.args) (hO : Ok t) (hD : s.D.length ≤ 1099511627776) (hMAPS : ∀ v b, s.M v = some b → b ∈ s.D ∧ s.tm b = varTm v) :
    Calls Tryz.prog 63 #[.pointer (some ⟨p, 0, none⟩), .agg #[.int .i64 t.kind, .int .i64 t.num, .string t.name, V]] w fun e w' => ∃ b s', e = .returned (.pointer (some ⟨b, 0, none⟩)) ∧ KnS s t b s' ∧ SolW w0 p s' w' ∧ Fr isP w w' := by
  obtain ⟨aa, ca, rfl⟩ := hA.at.slice
  obtain ⟨tie, hT⟩ := h
  have hal : Below w.heap.size w (w.alloc (.cells #[.int .i64 t.kind, .int .i64 t.num, .string t.name, .slice aa t.args.length ca] 27)) := belowAlloc (Below.refl _ _) _
  by_cases hk : t.kind = 1
  · obtain ⟨mb, SV, xs, n, hh⟩ := hT.head
    have hr := vrange hO.2 hk
    have hwf : wfI t.num := wfI_of (by omega) (by omega)
    have d0 : (t.kind != 1) = false := by rw [hk]; rfl
    have HX := Lib.hid (at_box_of w #[.int .i64 t.kind, .int .i64 t.num, .string t.name, .slice aa t.args.length ca] 27 w.heap.size rfl)
    have hhw := hh.frame (Fr.of_below hal)
    have HH := Lib.hid hhw
    have HH0 := Lib.hid hh
    have HW := Lib.hid hal
    have HT := Lib.hid hT
    have HA := Lib.hid hA
    have HO := Lib.hid hO
    have HK := Lib.hid hk
    cases hm : s.M t.num with
    | some b =>
      have HM := Lib.hid (hMAPS _ _ hm)
      have hrun : ∀ n, (Instr.lookup 85 (.map (some mb)) (.int .i64 t.num) true).run Tryz.prog ((w.alloc (.cells #[.int .i64 t.kind, .int .i64 t.num, .string t.name, .slice aa t.args.length ca] 27)).drewN n) = .ok (.tuple #[.pointer (some ⟨b, 0, none⟩), .bool true]) ((w.alloc (.cells #[.int .i64 t.kind, .int .i64 t.num, .string t.name, .slice aa t.args.length ca] 27)).drewN n) := fun n => (hhw.map.kept (below_drewN (Below.refl _ _) n)).look_yes hwf hm
      have HE : Hid (∀ n, KnS s t b s ∧ SolW w0 p s ((w.alloc (.cells #[.int .i64 t.kind, .int .i64 t.num, .string t.name, .slice aa t.args.length ca] 27)).drewN n) ∧ Fr isP w ((w.alloc (.cells #[.int .i64 t.kind, .int .i64 t.num, .string t.name, .slice aa t.args.length ca] 27)).drewN n)) := Lib.hid fun n => by
        have hb2 := below_drewN hal n
        exact ⟨.inl ⟨rfl, (HM.out).1, by rw [(HM.out).2, var_is HO.out.2 HK.out]; rfl⟩, ⟨_, HT.out.kept hb2⟩, Fr.of_below hb2⟩
      obtain ⟨e0, e1, e2, ef⟩ := hhw.cells
      clear hA hO hD hal hT hh hhw hm hk hr hwf HX
      go_enter Tryz.func63, Tryz.ntmps63
      go_wp2
      go_quiet (fail)
      go_wp2
      go_ret
      exact ⟨_, s, rfl, HE.out _⟩
    | none =>
      have hrun : ∀ n, (Instr.lookup 85 (.map (some mb)) (.int .i64 t.num) true).run Tryz.prog ((w.alloc (.cells #[.int .i64 t.kind, .int .i64 t.num, .string t.name, .slice aa t.args.length ca] 27)).drewN n) = .ok (.tuple #[.pointer none, .bool false]) ((w.alloc (.cells #[.int .i64 t.kind, .int .i64 t.num, .string t.name, .slice aa t.args.length ca] 27)).drewN n) := fun n => (hhw.map.kept (below_drewN (Below.refl _ _) n)).look_no hwf hm
      have HM := Lib.hid (fun _ : t.kind = 1 => hm)
      have HCN : Hid (n < maxLen) := Lib.hid (by have := hh.count; unfold maxLen; omega)
      obtain ⟨e0, e1, e2, ef⟩ := hhw.cells
      clear hA hO hD hal hT hh hhw hm hk hr
      go_enter Tryz.func63, Tryz.ntmps63
      go_wp2
      go_quiet (fail)
      go_upto_region 6 with (fail)
      have hb1 : Below w.heap.size w (((w.alloc (.cells #[.int .i64 t.kind, .int .i64 t.num, .string t.name, .slice aa t.args.length ca] 27)).drewN nq).alloc (.cells #[.pointer none, .int .i64 t.kind, .int .i64 t.num, .string t.name, .slice aa t.args.length ca, .slice none 0 0] 110)) := (below_drewN HW.out nq).trans (belowAlloc (Below.refl _ _) _ |>.mono (by simp))
      have hkn : KnotC w0 (((w.alloc (.cells #[.int .i64 t.kind, .int .i64 t.num, .string t.name, .slice aa t.args.length ca] 27)).drewN nq).alloc (.cells #[.pointer none, .int .i64 t.kind, .int .i64 t.num, .string t.name, .slice aa t.args.length ca, .slice none 0 0] 110)) (w.heap.size + 1) t none none := by
        have := knot_laid (w0 := w0) (w := (w.alloc (.cells #[.int .i64 t.kind, .int .i64 t.num, .string t.name, .slice aa t.args.length ca] 27)).drewN nq) HA.out (Nat.le_trans HT.out.old.size (below_drewN HW.out nq).size)
        have hs : ((w.alloc (.cells #[.int .i64 t.kind, .int .i64 t.num, .string t.name, .slice aa t.args.length ca] 27)).drewN nq).heap.size = w.heap.size + 1 := by simp
        rw [hs] at this
        exact this
      have hbx := (HX.out.read ((below_drewN (Below.refl _ _) nq).trans (belowAlloc (Below.refl _ _) (.cells #[.pointer none, .int .i64 t.kind, .int .i64 t.num, .string t.name, .slice aa t.args.length ca, .slice none 0 0] 110) |>.mono (by simp)))).cells
      have hh1 := HH0.out.frame (Fr.of_below hb1)
      have HB1 := Lib.hid hb1
      have HKN := Lib.hid hkn
      have HH1 := Lib.hid hh1
      clear hb1 hkn hrun e0 e1 e2 ef
      generalize hw1 : ((w.alloc (.cells #[.int .i64 t.kind, .int .i64 t.num, .string t.name, .slice aa t.args.length ca] 27)).drewN nq).alloc (.cells #[.pointer none, .int .i64 t.kind, .int .i64 t.num, .string t.name, .slice aa t.args.length ca, .slice none 0 0] 110) = w1 at HB1 HKN HH1 hbx hh1 ⊢
      clear hw1
      obtain ⟨e0, e1, e2, ef⟩ := hh1.cells
      obtain ⟨c0, c1, c2, c3⟩ := hbx
      clear hh1
      go_still_tail 7, (by kernel_rfl)
      change wpList _ _ _ _ _ w1.drew
      have HB2 : Hid (Below w.heap.size w w1.drew) := Lib.hid HB1.out.drew
      have HKN2 : Hid (KnotC w0 w1.drew (w.heap.size + 1) t none none) := Lib.hid (HKN.out.kept (Below.refl _ _).drew)
      have HM2 : Hid (MapK w1.drew mb n s.M) := Lib.hid (HH1.out.map.kept (Below.refl _ _).drew)
      clear e0 e1 e2 ef c0 c1 c2 c3 HB1 HKN HH1
      generalize w1.drew = w2 at HB2 HKN2 HM2 ⊢
      go_wp2_with (at_mapUpdate; refine wpList_putK _ rfl _ _ _ rfl mb n s.M rfl HM2.out HCN.out t.num rfl hwf (w.heap.size + 1) rfl ?_; intro w3 hm3 hg3; have HG := Lib.hid (And.intro hm3 hg3); clear hm3 hg3)
      have HE : Hid (∃ s', KnS s t (w.heap.size + 1) s' ∧ SolW w0 p s' w3 ∧ Fr isP w w3) := Lib.hid (by
        obtain ⟨r1, r2, r3⟩ := HT.out.new_var HH0.out (Nat.le_succ _) HB2.out HKN2.out HK.out HG.out.2 HG.out.1
        exact ⟨_, .inr ⟨rfl, r2, HM.out⟩, r1, r3⟩)
      clear HG
      go_wp2
      go_ret
      obtain ⟨s', h1, h2, h3⟩ := HE.out
      exact ⟨_, s', rfl, h1, h2, h3⟩
  · have d0 : (t.kind != 1) = true := by simp [hk]
    have HE : Hid (∃ s', KnS s t (w.heap.size + 1) s' ∧ SolW w0 p s' ((w.alloc (.cells #[.int .i64 t.kind, .int .i64 t.num, .string t.name, .slice aa t.args.length ca] 27)).alloc (.cells #[.pointer none, .int .i64 t.kind, .int .i64 t.num, .string t.name, .slice aa t.args.length ca, .slice none 0 0] 110)) ∧ Fr isP w ((w.alloc (.cells #[.int .i64 t.kind, .int .i64 t.num, .string t.name, .slice aa t.args.length ca] 27)).alloc (.cells #[.pointer none, .int .i64 t.kind, .int .i64 t.num, .string t.name, .slice aa t.args.length ca, .slice none 0 0] 110))) := Lib.hid (by
      have hl := knot_laid (w := w.alloc (.cells #[.int .i64 t.kind, .int .i64 t.num, .string t.name, .slice aa t.args.length ca] 27)) hA (Nat.le_trans hT.old.size hal.size)
      rw [show (w.alloc (.cells #[.int .i64 t.kind, .int .i64 t.num, .string t.name, .slice aa t.args.length ca] 27)).heap.size = w.heap.size + 1 from by simp] at hl
      have hB := belowAlloc hal (.cells #[.pointer none, .int .i64 t.kind, .int .i64 t.num, .string t.name, .slice aa t.args.length ca, .slice none 0 0] 110)
      obtain ⟨h1, h2⟩ := hT.new_other (Nat.le_succ _) hB hl hk
      exact ⟨_, .inr ⟨rfl, h2, fun e => absurd e hk⟩, h1, Fr.of_below hB⟩)
    clear hA hO hD hal hT hk
    go_enter Tryz.func63, Tryz.ntmps63
    go_wp2
    go_ret
    obtain ⟨s', h1, h2, h3⟩ := HE.out
    exact ⟨_, s', rfl, h1, h2, h3⟩
end Go.Proofs.YtealiilcnmdmdaaGreat

