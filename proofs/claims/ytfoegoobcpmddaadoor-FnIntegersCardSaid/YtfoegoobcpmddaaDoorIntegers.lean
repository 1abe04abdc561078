/-
  The law of integers (FnIntegers), walked.
-/
import Derived.Test.YtfoegoobcpmddaaDoorCursor
import Derived.Test.YtfoegoobcpmddaaDoorRound
import Derived.Test.YtfoegoobcpmddaaDoorTokens
import Derived.Test.YtfoegoobcpmddaaDoorFmts
import Derived.Test.YtfoegoobcpmddaaDoorWalkParses
import Derived.Deep.RegionHeld3
import Derived.Deep.Cut
namespace Go.Proofs.YtfoegoobcpmddaaDoor
open Go.RowKit

set_option maxHeartbeats 400000 in
theorem ints_any (v v' : Value) (L : List Int) (w : World) (h : Vals w v (L.map (.int .i64))) (h' : Vals w v' (L.map (.int .i64))) (hl : L.length ≤ maxLen) :
    Calls Tryd.prog 14 #[v, v'] w fun e w' => e = .returned (.bool true) ∧ w = w' := by
  unfold maxLen at hl
  obtain ⟨a, cap, rfl, hv⟩ := h
  obtain ⟨a', cap', rfl, hv'⟩ := h'
  rw [List.length_map]
  have HV := Lib.hid hv
  have HV' := Lib.hid hv'
  clear hv hv'
  go_enter Tryd.func14, Tryd.ntmps14
  go_wp2
  go_loop [14] (fun iv => ∃ k : Nat, k ≤ L.length ∧ iv = .int .i64 k) (fun iv => L.length - (intOf iv).toNat)
  case atStart => exact ⟨0, Nat.zero_le _, rfl⟩
  case round =>
    obtain ⟨k, hk, rfl⟩ := hrel
    by_cases hlt : k < L.length
    · obtain ⟨g, off, rfl, hg, hc⟩ : ∃ g off, a = some ⟨g, off, none⟩ ∧ g < w.heap.size ∧ ∀ j x, (L.map (Value.int .i64))[j]? = some x → w.cell? ⟨g, off + j, none⟩ = some x := by
        rcases HV.out with h | h
        · simp at h; subst h; exact absurd hlt (Nat.not_lt_zero _)
        · exact h
      obtain ⟨g', off', rfl, hg', hc'⟩ : ∃ g off, a' = some ⟨g, off, none⟩ ∧ g < w.heap.size ∧ ∀ j x, (L.map (Value.int .i64))[j]? = some x → w.cell? ⟨g, off + j, none⟩ = some x := by
        rcases HV'.out with h | h
        · simp at h; subst h; exact absurd hlt (Nat.not_lt_zero _)
        · exact h
      have c1 := hc k (.int .i64 L[k]) (by simp [hlt])
      have c2 := hc' k (.int .i64 L[k]) (by simp [hlt])
      clear hc hc'
      generalize L[k] = x at c1 c2
      go_wp2
      go_round
      case rel => exact ⟨k + 1, by omega, by go_num⟩
      case measure => simp [intOf]; omega
    · go_wp2
      go_ret
      exact ⟨rfl, rfl⟩

theorem fmts_three (x y z : Int) : fmts [x, y, z] = ⟨(three x y z).toArray⟩ := by
  have e : ∀ (a : ByteArray), (⟨#[]⟩ : ByteArray) ++ a = a := fun a => by
    rw [ByteArray.ext_iff]; simp
  show joinTo [fmt x, fmt y, fmt z] space 3 = _
  rw [joinTo, joinTo, joinTo, joinTo]
  rw [if_pos rfl, if_neg (by decide), if_neg (by decide)]
  show ((((⟨#[]⟩ ++ fmt x) ++ space) ++ fmt y) ++ space) ++ fmt z = _
  rw [e]
  unfold fmt space three
  rw [show (⟨#[32]⟩ : ByteArray) = ⟨[32].toArray⟩ from rfl, append_lists, append_lists, append_lists, append_lists]
  simp
theorem mul_bd {a b : Int} (h0 : 0 ≤ a) (h1 : a ≤ 65535) (h2 : 0 ≤ b) (h3 : b ≤ 65535) : 0 ≤ a * b ∧ a * b ≤ 4294836225 := by
  have h4 := Int.mul_nonneg h0 h2
  have h5 := Int.mul_le_mul h1 h3 h2 (by omega : (0 : Int) ≤ 65535)
  exact ⟨h4, by omega⟩

theorem vals_three (w : World) (x y z : Int) : Vals (w.alloc (.cells #[.int .i64 x, .int .i64 y, .int .i64 z] 3)) (.slice (some ⟨w.heap.size, 0, none⟩) 3 3) ([x, y, z].map (.int .i64)) := by
  refine ⟨_, 3, rfl, .inr ⟨w.heap.size, 0, rfl, by simp, fun j v hj => ?_⟩⟩
  rw [Nat.zero_add, cell_of_row _ w.heap.size j #[.int .i64 x, .int .i64 y, .int .i64 z] 3 (0, 0) (heap_alloc_new w _)]
  simpa using hj
theorem fmt_data (n : Int) : (fmt n).data.toList = Lib.itoa n := rfl
theorem fmts_size {x y z : Int} (hx : inI x) (hy : inI y) (hz : inI z) : (fmts [x, y, z]).size ≤ 65 := by
  have h1 := Lib.itoa_length_le x hx.1 hx.2
  have h2 := Lib.itoa_length_le y hy.1 hy.2
  have h3 := Lib.itoa_length_le z hz.1 hz.2
  rw [fmts_three, Lib.size_eq]
  unfold three
  simp
  omega
theorem tokens_shell {s : ByteArray} {x y z : Int} (h : s.data.toList = shell x y z) (hs : s.size ≤ 100000) : tokensOf s = ([⟨#[40]⟩, fmt x, fmt y, fmt z, ⟨#[41]⟩], true) := by
  unfold tokensOf
  rw [toks_shell h]
  exact if_pos ⟨hs, plain_shell h, by simp⟩

set_option maxHeartbeats 4000000 in
set_option maxRecDepth 100000 in
theorem walkIntegers (w : World) (hvar : Vars w) (a : Option Addr) (len cap : Nat) (zs : List Int) (hrow : ByteRow w a len cap zs) :
    Calls Tryd.prog 3 #[.slice a len cap] w fun e w' => e = .returned (.bool true) ∧ Below w.heap.size w w' := by
  obtain ⟨hby, hmx⟩ := hrow.bytes
  clear hrow
  unfold maxLen at hmx
  have HV := Lib.hid hvar
  have HY := Lib.hid hby
  clear hvar hby
  by_cases h : 1048576 < (len : Int)
  · go_enter Tryd.func3, Tryd.ntmps3
    go_wp2
    go_ret
    exact ⟨rfl, Below.refl _ _⟩
  · have hl : len ≤ 1048576 := by omega
    go_enter Tryd.func3, Tryd.ntmps3
    go_wp2_with fail
    refine (makeNum_any a len cap 0 _ HY.out hl (by decide)).mono ?_
    rintro e w1 ⟨⟨r1, rfl, a0, a1⟩, b1⟩
    have B1 := Lib.hid b1
    clear b1
    go_wp2_with fail
    refine (makeNum_any a len cap 2 _ (HY.out.kept B1.out) hl (by decide)).mono ?_
    rintro e w2 ⟨⟨r2, rfl, a2, a3⟩, b2⟩
    have B2 := Lib.hid (B1.out.trans (b2.mono B1.out.size))
    clear b2
    obtain ⟨p0, p1⟩ := mul_bd a0 a1 a2 a3
    go_wp2_with fail
    refine (makeNum_any a len cap 4 _ (HY.out.kept B2.out) hl (by decide)).mono ?_
    rintro e w3 ⟨⟨r3, rfl, a4, a5⟩, b3⟩
    have B3 := Lib.hid (B2.out.trans (b3.mono B2.out.size))
    clear b3
    go_upto_region 4 with (fail)
    have n0 : -4294967296 ≤ r1 * r2 - r3 ∧ r1 * r2 - r3 ≤ 4294967296 := by omega
    generalize r1 * r2 - r3 = n at n0
    clear p0 p1 a0 a1 a2 a3 a4 a5
    obtain ⟨n1, n2⟩ := n0
    go_upto_region 5 with (fail)
    have q0 : -4294967296 ≤ n.tdiv 7 ∧ n.tdiv 7 ≤ 4294967296 := by
      rcases Int.le_total 0 n with hn | hn
      · rw [Int.tdiv_eq_ediv_of_nonneg hn]; omega
      · have : n.tdiv 7 = -((-n) / 7) := by
          rw [← Int.tdiv_eq_ediv_of_nonneg (by omega : 0 ≤ -n), Int.neg_tdiv]; omega
        omega
    generalize n.tdiv 7 = q at q0
    obtain ⟨q1, q2⟩ := q0
    have V4 := Lib.hid (vals_three w3 n (-n) q)
    have B4 := Lib.hid (B3.out.alloc B3.out.size (.cells #[.int .i64 n, .int .i64 (-n), .int .i64 q] 3))
    generalize w3.alloc (.cells #[.int .i64 n, .int .i64 (-n), .int .i64 q] 3) = w4 at V4 B4
    generalize (Value.slice (some ⟨w3.heap.size, 0, none⟩) 3 3) = lv at V4
    have hI1 : inI n := by unfold inI; omega
    have hI2 : inI (-n) := by unfold inI; omega
    have hI3 : inI q := by unfold inI; omega
    have HP1 : Hid (parseOf (fmt n).data.toList = (n, true)) := Lib.hid (parse_yes hI1 rfl)
    have HP2 : Hid (parsesOf (fmts [n, -n, q]).data.toList = ([n, -n, q], true)) := Lib.hid (by rw [fmts_three]; exact parses_three hI1 hI2 hI3)
    have HA : Hid (allI [n, -n, q]) := Lib.hid (fun m hm => by
      simp only [List.mem_cons, List.mem_nil_iff, or_false] at hm
      rcases hm with rfl | rfl | rfl
      · exact hI1
      · exact hI2
      · exact hI3)
    have hz := fmts_size hI1 hI2 hI3
    have HSH : Hid (((⟨#[32, 40]⟩ : ByteArray) ++ fmts [n, -n, q] ++ ⟨#[41, 59, 120]⟩).data.toList = shell n (-n) q) := Lib.hid (by
      rw [fmts_three, show (⟨#[32, 40]⟩ : ByteArray) = ⟨[32, 40].toArray⟩ from rfl, show (⟨#[41, 59, 120]⟩ : ByteArray) = ⟨[41, 59, 120].toArray⟩ from rfl, append_lists, append_lists]
      simp [shell])
    have hzn := fmt_len n hI1.1 hI1.2
    have HI1 := Lib.hid hI1
    clear hI1 hI2 hI3
    -- ParseInt of FormatInt
    go_wp2_with fail
    refine (implFmt_any n w4 ((HV.out.kept B4.out).1.1) HI1.out.1 HI1.out.2).mono ?_
    rintro e w5 ⟨rfl, b5⟩
    have B5 := Lib.hid (B4.out.trans (b5.mono B4.out.size))
    have V5 := Lib.hid (V4.out.kept b5)
    clear b5
    go_wp2_with fail
    refine (implParse_any (fmt n) w5 ((HV.out.kept B5.out).1.1) ((HV.out.kept B5.out).1.2) (by omega)).mono ?_
    rintro e w6 ⟨rfl, b6⟩
    rw [HP1.out]
    have B6 := Lib.hid (B5.out.trans (b6.mono B5.out.size))
    have V6 := Lib.hid (V5.out.kept b6)
    clear b6
    -- ParseInts of FormatInts
    go_wp2_with fail
    refine (implFmts_any lv [n, -n, q] w6 ((HV.out.kept B6.out).1.1) V6.out (by simp) HA.out).mono ?_
    rintro e w7 ⟨rfl, b7⟩
    have B7 := Lib.hid (B6.out.trans (b7.mono B6.out.size))
    have V7 := Lib.hid (V6.out.kept b7)
    clear b7
    go_wp2_with fail
    refine (implParses_any (fmts [n, -n, q]) w7 (HV.out.kept B7.out) (by omega)).mono ?_
    rw [HP2.out]
    rintro e w8 ⟨kv, rfl, r8, b8⟩
    have B8 := Lib.hid (B7.out.trans (b8.mono B7.out.size))
    have V8 := Lib.hid (V7.out.kept b8)
    have K8 := Lib.hid r8.vals
    clear b8 r8
    go_wp2_with fail
    refine (implFmts_any lv [n, -n, q] w8 ((HV.out.kept B8.out).1.1) V8.out (by simp) HA.out).mono ?_
    rintro e w9 ⟨rfl, b9⟩
    have B9 := Lib.hid (B8.out.trans (b9.mono B8.out.size))
    have V9 := Lib.hid (V8.out.kept b9)
    have K9 := Lib.hid (K8.out.kept b9)
    clear b9
    go_wp2_with fail
    have hst : ((⟨#[32, 40]⟩ : ByteArray) ++ fmts [n, -n, q] ++ ⟨#[41, 59, 120]⟩).size ≤ 100 := by
      rw [ByteArray.size_append, ByteArray.size_append]
      show 2 + _ + 3 ≤ 100
      omega
    generalize ((⟨#[32, 40]⟩ : ByteArray) ++ fmts [n, -n, q] ++ ⟨#[41, 59, 120]⟩) = st at HSH hst
    refine (implTokens_any st w9 (by omega)).mono ?_
    rw [tokens_shell HSH.out (by omega)]
    rintro e w10 ⟨tv, rfl, r10, b10⟩
    have B10 := Lib.hid (B9.out.trans (b10.mono B9.out.size))
    have V10 := Lib.hid (V9.out.kept b10)
    have K10 := Lib.hid (K9.out.kept b10)
    have T10 := Lib.hid r10
    clear b10 r10
    obtain ⟨g, tc, rfl, hgb, hgs, _, htc, hcell, _⟩ := T10.out.at (by simp)
    have HTJ : Hid (Vals w10 (.slice (some ⟨g, 1, none⟩) 3 (tc - 1)) ([fmt n, fmt (-n), fmt q].map .string)) := Lib.hid ⟨_, tc - 1, rfl, .inr ⟨g, 1, rfl, hgs, fun j x hx => by
      have hj : j < 3 := by have := (List.getElem?_eq_some_iff.1 hx).1; simpa using this
      refine hcell (1 + j) x ?_
      rw [← hx]
      match j, hj with
      | 0, _ => rfl
      | 1, _ => rfl
      | 2, _ => rfl⟩⟩
    have HCE : Hid (∀ W, Below w10.heap.size w10 W → W.cell? ⟨g, 0, none⟩ = some (.string ⟨#[40]⟩) ∧ W.cell? ⟨g, 1, none⟩ = some (.string (fmt n)) ∧ W.cell? ⟨g, 4, none⟩ = some (.string ⟨#[41]⟩)) := Lib.hid (fun W hW =>
      ⟨(hW.cell (p := ⟨g, 0, none⟩) hgs).trans (hcell 0 _ rfl), (hW.cell (p := ⟨g, 1, none⟩) hgs).trans (hcell 1 _ rfl), (hW.cell (p := ⟨g, 4, none⟩) hgs).trans (hcell 4 _ rfl)⟩)
    have HTR : Hid (∀ W W', Below w10.heap.size w10 W → Below W.heap.size W W' → Below w10.heap.size w10 W') := Lib.hid (fun W W' h1 h2 => h1.trans (h2.mono h1.size))
    have HINTS : Hid (∀ W, Below w10.heap.size w10 W → Calls Tryd.prog 14 #[kv, lv] W fun e w' => e = .returned (.bool true) ∧ W = w') := Lib.hid (fun W hW => ints_any kv lv [n, -n, q] W (K10.out.kept hW) (V10.out.kept hW) (by unfold maxLen; simp))
    have HFMT : Hid (∀ W, Below w10.heap.size w10 W → Calls Tryd.prog 10 #[.int .i64 n] W fun e w' => e = .returned (.string (fmt n)) ∧ Below W.heap.size W w') := Lib.hid (fun W hW => implFmt_any n W ((HV.out.kept B10.out).1.1.kept hW) HI1.out.1 HI1.out.2)
    have HFMTS : Hid (∀ W, Below w10.heap.size w10 W → Calls Tryd.prog 12 #[lv] W fun e w' => e = .returned (.string (fmts [n, -n, q])) ∧ Below W.heap.size W w') := Lib.hid (fun W hW => implFmts_any lv [n, -n, q] W ((HV.out.kept B10.out).1.1.kept hW) (V10.out.kept hW) (by simp) HA.out)
    have HJOIN : Hid (∀ W, Below w10.heap.size w10 W → Calls Tryd.prog 15 #[.slice (some ⟨g, 1, none⟩) 3 (tc - 1), .string ⟨#[32]⟩] W fun e w' => e = .returned (.string (fmts [n, -n, q])) ∧ Below W.heap.size W w') := Lib.hid (fun W hW =>
      implJoin_any _ [fmt n, fmt (-n), fmt q] ⟨#[32]⟩ W (HTJ.out.kept hW) (by simp) (by have := fmts_sum [n, -n, q] HA.out 3 (by simp); exact Nat.le_trans this (by decide)) (by decide))
    have hBd : Below w10.heap.size w10 w10.drew := (Below.refl _ _).drew
    obtain ⟨d0, d1, d4⟩ := HCE.out _ (Below.refl _ w10)
    have h5 : (5 : Nat) ≤ tc := by
      have := T10.out.shape
      rcases this with ⟨hv, _⟩ | ⟨_, _, hv, _, _, h5, _⟩
      · simp at hv
      · simp at hv h5
        omega
    have c4 : (4 : Int) ≤ (tc : Int) := by omega
    have c1 : ¬ tc = 1 := by omega
    have c0 : ¬ (tc : Int) = 1 := by omega
    clear h5
    clear hcell HTJ HSH hst HP1 HP2 hz hzn
    generalize fmts [n, -n, q] = J at HFMTS HJOIN
    generalize fmt n = f at HFMT HCE d1
    go_wp2_with fail
    go_region_held3 (fun w' => Below w10.heap.size w10 w' ∧ w'.cell? ⟨g, 0, none⟩ = some (.string ⟨#[40]⟩) ∧ w'.cell? ⟨g, 1, none⟩ = some (.string f) ∧ w'.cell? ⟨g, 4, none⟩ = some (.string ⟨#[41]⟩)) (go_keep)
      (first
        | (go_at_call 14; refine Calls.mono (HINTS.out _ ?_) ?_; (assumption); rintro e w' ⟨rfl, rfl⟩)
        | (go_at_call 10; refine Calls.mono (HFMT.out _ ?_) ?_; (assumption); rintro e w' ⟨rfl, hb⟩; have hB' := HTR.out _ _ (by assumption) hb; obtain ⟨k0, k1, k4⟩ := HCE.out _ hB')
        | (go_at_call 12; refine Calls.mono (HFMTS.out _ ?_) ?_; (assumption); rintro e w' ⟨rfl, hb⟩; have hB' := HTR.out _ _ (by assumption) hb; obtain ⟨k0, k1, k4⟩ := HCE.out _ hB')
        | (go_at_call 15; refine Calls.mono (HJOIN.out _ ?_) ?_; (assumption); rintro e w' ⟨rfl, hb⟩; have hB' := HTR.out _ _ (by assumption) hb; obtain ⟨k0, k1, k4⟩ := HCE.out _ hB'))
    all_goals (go_wp2; go_ret; exact ⟨rfl, B10.out.trans ((by assumption : Below w10.heap.size w10 _).mono B10.out.size)⟩)
end Go.Proofs.YtfoegoobcpmddaaDoor
