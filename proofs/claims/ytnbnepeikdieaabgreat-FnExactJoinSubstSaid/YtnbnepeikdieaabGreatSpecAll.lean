/-
  The model's l05All, UnifyAll, Unify.
-/
import Derived.Test.YtnbnepeikdieaabGreatSpecU5
import Derived.Test.YtnbnepeikdieaabGreatListOk

namespace Go.Proofs.YtnbnepeikdieaabGreat
open Go.RowKit
set_option linter.unusedVariables false
set_option linter.unusedSimpArgs false

theorem ua_each (s : List Bd) (l r : List Tm) : EachB (uaL s l r) := by
  by_cases h : UaP s l r
  · rw [(ua_yes h).1]
    rcases mu_subst (s := s) (E := l.zip r) with e | e
    · rw [e]; exact ⟨Nat.zero_le _, fun b hb => by simp at hb⟩
    · exact e.each
  · rw [(ua_no h).1]; exact ⟨Nat.zero_le _, fun b hb => by simp at hb⟩
theorem ua_nk (s : List Bd) (l r : List Tm) : nkB (uaL s l r) ≤ 4294967296 := by
  by_cases h : UaP s l r
  · rw [(ua_yes h).1]
    rcases mu_subst (s := s) (E := l.zip r) with e | e
    · rw [e]; exact Nat.zero_le _
    · exact e.nk
  · rw [(ua_no h).1]; exact Nat.zero_le _
theorem ua_false {s : List Bd} {l r : List Tm} (h : uaB s l r = false) : uaL s l r = [] := by
  by_cases hp : UaP s l r
  · rw [(ua_yes hp).2] at h
    rw [(ua_yes hp).1]
    exact (mu_no (mu_false hp.1 (zip_ok hp) h)).1
  · exact (ua_no hp).1
theorem un_each (s : List Bd) (a b : Tm) : EachB (unL s a b) := ua_each s [a] [b]
theorem un_nk (s : List Bd) (a b : Tm) : nkB (unL s a b) ≤ 4294967296 := ua_nk s [a] [b]

set_option maxRecDepth 100000 in
set_option maxHeartbeats 4000000 in
theorem specAll_any (s : List Bd) (Vs : Value) (l : List Tm) (Vl : Value) (r : List Tm) (Vr : Value) (w : World) (hA : ListS bdE w Any Vs s) (hs : SubstP s) (hl : ArgsAt w Vl l) (hll : l.length ≤ 1048576) (hr : ArgsAt w Vr r) (hlo : ∀ t ∈ l, Ok t) (hro : ∀ t ∈ r, Ok t) (hlen : l.length = r.length) :
    Calls Tryz.prog 28 #[Vs, Vl, Vr] w (OldB2 (muL s (l.zip r)) (muB s (l.zip r)) w) := by
  obtain ⟨sa, sc, rfl⟩ := hA.slice
  obtain ⟨la, lc, rfl⟩ := hl.slice
  obtain ⟨ra, rc, rfl⟩ := hr.slice
  have hsl : s.length ≤ 400 := hs.1.2.2
  have HNOU := Lib.hid (fun (h : NoU s (l.zip r)) => mu_no h)
  have HMGU := Lib.hid (fun (u : List Bd) (h : Mgu s (l.zip r) u) => mu_yes h)
  generalize muL s (l.zip r) = ul at HNOU HMGU ⊢
  generalize muB s (l.zip r) = ub at HNOU HMGU ⊢
  have HS := Lib.hid hs
  have HLS := Lib.hid hA
  have HP := Lib.hid hl
  have HQ := Lib.hid hr
  have HLO := Lib.hid hlo
  have HRO := Lib.hid hro
  have HLEN := Lib.hid hlen
  clear hA hl hr hs hlo hro hlen
  go_enter Tryz.func28, Tryz.ntmps28
  go_wp2
  go_loopw [0, 14] (fun sv kv wr => ∃ (k : Nat) (u : List Bd), k ≤ l.length ∧ kv = .int .i64 k ∧ Hid (ListS bdE wr Any sv u) ∧ Hid (Mgu s ((l.take k).zip (r.take k)) u ∧ (u = s ∨ s.length < u.length)) ∧ Hid (Below w.heap.size w wr)) (fun _ kv _ => l.length - (intOf kv).toNat)
  case atStart => exact ⟨0, s, Nat.zero_le _, rfl, HLS, Lib.hid ⟨mgu_refl HS.out fun f _ => solE_nil f, .inl rfl⟩, Lib.hid (Below.refl _ _)⟩
  case round =>
    obtain ⟨k, u, hk, rfl, HU, HM, HB⟩ := hrel
    obtain ⟨ua, uc, rfl⟩ := HU.out.slice
    by_cases hlt : k < l.length
    · have hltI : (k : Int) < (l.length : Int) := by omega
      have hltQ : k < r.length := by have := HLEN.out; omega
      have hltJ : (k : Int) < (r.length : Int) := by omega
      obtain ⟨x, hx⟩ : ∃ x, l[k]? = some x := ⟨_, List.getElem?_eq_getElem hlt⟩
      obtain ⟨y, hy⟩ : ∃ y, r[k]? = some y := ⟨_, List.getElem?_eq_getElem hltQ⟩
      obtain ⟨g, off, u1, u2, rfl, hg, _, hc, hxa⟩ := HP.out.elem hx
      obtain ⟨g', off', y1, y2, rfl, hg', _, hc', hya⟩ := HQ.out.elem hy
      obtain ⟨d0, d1, d2, d3⟩ := hc wr HB.out
      have HXE := Lib.hid hx
      have HYE := Lib.hid hy
      have HOX := Lib.hid (HLO.out x (List.mem_of_getElem? hx))
      have HOY := Lib.hid (HRO.out y (List.mem_of_getElem? hy))
      have HUN := Lib.hid (specUnifyOne_any u x y HM.out.1.ok HOX.out HOY.out)
      have hal : Below wr.heap.size wr (wr.alloc (.cells #[.int .i64 x.kind, .int .i64 x.num, .string x.name, .slice u1 x.args.length u2] 41)) := belowAlloc (Below.refl _ _) _
      have HXB := Lib.hid (at_box_of wr #[.int .i64 x.kind, .int .i64 x.num, .string x.name, .slice u1 x.args.length u2] 41 wr.heap.size rfl)
      have HU1 := Lib.hid (HU.out.kept hal)
      have HB1 := Lib.hid (belowOn HB.out (Nat.le_refl _) hal)
      have HXA := Lib.hid (hxa.kept (belowOn HB.out (Nat.le_refl _) hal))
      have HYA := Lib.hid (hya.kept (belowOn HB.out (Nat.le_refl _) hal))
      have HC2 := Lib.hid (fun W hW => hc' W (belowOn (belowOn HB.out (Nat.le_refl _) hal) (Nat.le_refl _) hW))
      clear hc hc' hxa hya hx hy hal
      go_upto_region 4 with (fail)
      generalize hw5 : wr.alloc (.cells #[.int .i64 x.kind, .int .i64 x.num, .string x.name, .slice u1 x.args.length u2] 41) = w5 at HXB HU1 HB1 HXA HYA HC2 ⊢
      clear hw5 d0 d1 d2 d3 HU HB
      generalize wr.heap.size = nx at HXB ⊢
      have hself : Below w5.heap.size w5 w5 := Below.refl _ _
      have hdrew : Below w5.heap.size w5 w5.drew := hself.drew
      obtain ⟨d0, d1, d2, d3⟩ := HC2.out w5 hself
      obtain ⟨f0, f1, f2, f3⟩ := HC2.out w5.drew hdrew
      obtain ⟨c0, c1, c2, c3⟩ := HXB.out.cells
      obtain ⟨k0, k1, k2, k3⟩ := (HXB.out.read hdrew).cells
      have HCC : Hid (∀ W, Below w5.heap.size w5 W → Calls Tryz.prog 43 #[.slice ua u.length uc, .agg #[.int .i64 x.kind, .int .i64 x.num, .string x.name, .slice u1 x.args.length u2], .agg #[.int .i64 y.kind, .int .i64 y.num, .string y.name, .slice y1 y.args.length y2]] W fun e w' => ∃ v, e = .returned (.tuple #[v, .bool (muB u [(x, y)])]) ∧ ListS bdE w' Any v (muL u [(x, y)]) ∧ Below w5.heap.size w5 w') := Lib.hid fun W hW =>
        (HUN.out _ _ _ W (HU1.out.kept hW) (HXA.out.kept hW) (HYA.out.kept hW)).mono fun e w' ⟨v, he, hv, hb⟩ => ⟨v, he, hv, belowOn hW (Nat.le_refl _) hb⟩
      clear HXB HU1 HXA HYA HC2 HUN HP HQ HLS
      go_region_law (go_simp; go_at_call 43; (with_reducible refine Calls.mono (HCC.out _ ?_) ?_); (first | exact hself | exact hdrew); rintro e wB ⟨v5, rfl, hv5, hb5⟩; have HV5 := Lib.hid hv5; have HB5 := Lib.hid hb5; clear hv5 hb5)
      all_goals
        have HBB := Lib.hid (belowOn HB1.out (Nat.le_refl _) HB5.out)
        clear d0 d1 d2 d3 f0 f1 f2 f3 c0 c1 c2 c3 k0 k1 k2 k3
        cases hm : muB u [(x, y)] with
        | false =>
          obtain ⟨rfl, rfl⟩ := HNOU.out (nou_next HXE.out HYE.out HM.out.1 HOX.out HOY.out hm)
          clear hm
          go_wp2
          go_ret2
          exact ⟨_, rfl, .nil _ _, HBB.out⟩
        | true =>
          have HMN := Lib.hid (mgu_next HXE.out HYE.out HM.out.1 HM.out.2 HOX.out HOY.out hm)
          clear hm
          go_wp2
          go_roundw
          case rel => exact ⟨k + 1, muL u [(x, y)], by omega, by go_num, HV5, HMN, HBB⟩
          case measure => simp [intOf]; omega
    · obtain rfl : k = l.length := by omega
      obtain ⟨rfl, rfl⟩ := HMGU.out u (by have h := HM.out.1; have e := HLEN.out; rw [List.take_length, e, List.take_length] at h; exact h)
      go_wp2
      go_ret2
      exact ⟨_, rfl, HU.out, HB.out⟩
end Go.Proofs.YtnbnepeikdieaabGreat

