/-
  The marks of the laws: 'markText' and the functions that write and read marks in a row of strings; the comparison of two rows.
-/
import Derived.Test.YtfoegoobcpmddaaInfo
import Derived.ProofKit
import Derived.WalkLawsBesides
import Derived.Deep.QuietTactic
import Derived.BigQuiet
import Derived.Deep.RegionWith
import Derived.Deep.RegionHeld3
namespace Go.Proofs.Ytfoegoobcpmddaa
open Go.RowKit

def markGo : Nat → Nat → ByteArray → ByteArray
  | 0, _, out => out
  | b + 1, k, out => if k = 0 then out else markGo b (k / 10) (⟨#[UInt8.ofNat (48 + k % 10)]⟩ ++ out)

set_option maxHeartbeats 400000 in
theorem markText_any (k : Nat) (w : World) (h0 : 0 < (k : Int)) (hk : (k : Int) ≤ 1099511627776) :
    Calls Try.prog 23 #[.int .i64 k] w fun e w' => e = .returned (.string (⟨#[109]⟩ ++ markGo k k ⟨#[]⟩)) ∧ Below w.heap.size w w' := by
  go_enter Try.func23, Try.ntmps23
  go_wp2
  go_loopw [0, 3] (fun kv ov wr => ∃ (j b : Nat) (out : ByteArray), kv = .int .i64 j ∧ ov = .string out ∧ j ≤ k ∧ j ≤ b ∧ out.size + b ≤ k ∧ markGo b j out = markGo k k ⟨#[]⟩ ∧ Below w.heap.size w wr)
      (fun kv _ _ => (intOf kv).toNat)
  case atStart => exact ⟨k, k, _, rfl, rfl, Nat.le_refl _, Nat.le_refl _, Nat.le_of_eq (Nat.zero_add _), rfl, Below.refl _ _⟩
  case round =>
    obtain ⟨j, b, out, rfl, rfl, h1, h2, h3, h4, hb⟩ := hrel
    have H4 := Lib.hid h4
    clear h4
    have HB := Lib.hid hb
    have hB := hb.size
    clear hb
    by_cases hj : 0 < j
    · obtain ⟨c, HC, hcv⟩ := one_byte (P := Try.prog) wr 37 9 5 Try.underlying37 Try.underlying5 Try.underlying9 (48 + (j : Int) % 10) (by omega) (by omega)
      go_wp2
      go_roundw
      case rel =>
        obtain ⟨b, rfl⟩ : ∃ b', b = b' + 1 := ⟨b - 1, by omega⟩
        refine ⟨j / 10, b, ⟨#[c]⟩ ++ out, by go_num, rfl, by omega, by omega, ?_, ?_, (HB.out.alloc hB _)⟩
        · rw [ByteArray.size_append]
          show 1 + out.size + b ≤ k
          omega
        · rw [← H4.out, markGo, if_neg (by omega)]
          rw [show c = UInt8.ofNat (48 + j % 10) from UInt8.toNat_inj.1 (by have := HC.out; rw [UInt8.toNat_ofNat']; omega)]
      case measure => simp [intOf]; omega
    · go_wp2
      go_ret
      refine ⟨?_, HB.out⟩
      obtain rfl : j = 0 := by omega
      rw [← H4.out]
      cases b <;> rfl

set_option maxHeartbeats 400000 in
theorem eqStrings_any (v v' : Value) (b b' : Nat) (ss : List ByteArray) (w : World) (h : Row w b 9 v (ss.map .string)) (h' : Row w b' 9 v' (ss.map .string)) (hl : ss.length ≤ maxLen) :
    Calls Try.prog 11 #[v, v'] w fun e w' => e = .returned (.bool true) ∧ ∃ n, w' = w.drewN n := by
  unfold maxLen at hl
  by_cases hne : ss = []
  · subst hne
    obtain ⟨a, cap, rfl⟩ := Row.empty h
    obtain ⟨a', cap', rfl⟩ := Row.empty h'
    go_enter Try.func11, Try.ntmps11
    go_wp2
    refine wp_loop_rounds 1 ?_
    rw [rounds_succ]
    go_wp2
    go_ret
    exact ⟨rfl, 0, rfl⟩
  · have hne' : ss.map Value.string ≠ [] := by simpa using hne
    obtain ⟨g, cap, rfl, _, _, _, _, hc, _⟩ := h.at hne'
    obtain ⟨g', cap', rfl, _, _, _, _, hc', _⟩ := h'.at hne'
    rw [List.length_map]
    have HC := Lib.hid hc
    have HC' := Lib.hid hc'
    clear hc hc' h h' hne hne'
    go_enter Try.func11, Try.ntmps11
    go_wp2
    go_loopw [5] (fun i wr => ∃ k d : Nat, k ≤ ss.length ∧ i = .int .i64 k ∧ wr = w.drewN d) (fun i _ => ss.length - (intOf i).toNat)
    case atStart => exact ⟨0, 0, Nat.zero_le _, rfl, rfl⟩
    case round =>
      obtain ⟨k, d, hk, rfl, rfl⟩ := hrel
      by_cases hlt : k < ss.length
      · have c1 := HC.out k (.string ss[k]) (by simp [hlt])
        have c2 := HC'.out k (.string ss[k]) (by simp [hlt])
        generalize ss[k] = x at c1 c2
        go_wp2
        go_quiet (fail)
        go_wp2
        go_roundw
        case rel => exact ⟨k + 1, _, by omega, by go_num, rfl⟩
        case measure => simp [intOf]; omega
      · go_wp2
        go_ret
        exact ⟨rfl, d, rfl⟩

/-- The mark of a number. -/
def markOf (k : Nat) : Value := .string (⟨#[109]⟩ ++ markGo k k ⟨#[]⟩)
def marks (k n : Nat) : List Value := (List.range n).map fun i => markOf (k + i)
theorem marks_length (k n : Nat) : (marks k n).length = n := by simp [marks]
theorem marks_at (k n j : Nat) (h : j < n) : (marks k n)[j]? = some (markOf (k + j)) := by simp [marks, h]
theorem marks_of {k n : Nat} {ys : List Value} (hl : ys.length = n) (h : ∀ i, i < n → ys[i]? = some (markOf (k + i))) : ys = marks k n := by
  apply List.ext_getElem?
  intro i
  by_cases hi : i < n
  · rw [h i hi, marks_at k n i hi]
  · rw [List.getElem?_eq_none (by omega), List.getElem?_eq_none (by rw [marks_length]; omega)]

set_option maxHeartbeats 400000 in
theorem markStrings_any (v : Value) (b k n : Nat) (xs : List Value) (w : World) (h : Row w b 9 v xs) (hn : xs.length = n) (h0 : 0 < (k : Int)) (hk : (k : Int) + n ≤ 1099511627776) :
    Calls Try.prog 12 #[v, .int .i64 k] w fun e w' => e = .returned (.int .i64 ((k + n : Nat) : Int)) ∧ Row w' b 9 v (marks k n) ∧ w.grownBy w' v.ownBlock := by
  by_cases hne : n = 0
  · subst hne
    obtain rfl := List.length_eq_zero_iff.1 hn
    obtain ⟨a, cap, rfl⟩ := Row.empty h
    have HR := Lib.hid h
    clear h hn
    go_enter Try.func12, Try.ntmps12
    go_wp2
    refine wp_loop_rounds 1 ?_
    rw [rounds_succ]
    go_wp2
    go_ret
    exact ⟨rfl, HR.out, grown_refl _ _⟩
  · obtain ⟨g, cap, rfl, hbg, hgw, _, _, _, hfz⟩ := h.at (by intro e; subst e; exact hne hn.symm)
    have HR := Lib.hid h
    subst hn
    clear h hfz
    go_enter Try.func12, Try.ntmps12
    go_wp2
    go_loopw [1, 5] (fun kv i wr => ∃ (j : Nat) (ys : List Value), j ≤ xs.length ∧ kv = .int .i64 ((k : Int) + j) ∧ i = .int .i64 j ∧ ys.length = xs.length ∧ (∀ i, i < j → ys[i]? = some (markOf (k + i))) ∧
        Row wr b 9 (.slice (some ⟨g, 0, none⟩) xs.length cap) ys ∧ w.grownBy wr (some g))
        (fun _ i _ => xs.length - (intOf i).toNat)
    case atStart => exact ⟨0, xs, Nat.zero_le _, by go_num, rfl, rfl, fun i hi => absurd hi (Nat.not_lt_zero _), HR.out, grown_refl _ _⟩
    case round =>
      obtain ⟨j, ys, hj, rfl, rfl, hl, hys, hrow, hg⟩ := hrel
      have HL := Lib.hid hl
      have HY := Lib.hid hys
      have HO := Lib.hid hrow
      have HG := Lib.hid hg
      clear hl hys hrow hg
      by_cases hlt : j < xs.length
      · go_wp2_with fail
        rw [show ((k : Int) + j) = ((k + j : Nat) : Int) from by omega]
        refine (markText_any (k + j) _ (by omega) (by omega)).mono ?_
        rintro e w1 ⟨rfl, hb⟩
        have HB := Lib.hid hb
        have HO1 := Lib.hid (HO.out.kept hb)
        obtain ⟨y0, hy0⟩ : ∃ y0, ys[j]? = some y0 := ⟨_, List.getElem?_eq_getElem (by rw [HL.out]; omega)⟩
        have hc : w1.cell? ⟨g, j, none⟩ = some y0 := by
          obtain ⟨g', cap', hv, _, _, _, _, hc, _⟩ := HO1.out.at (by intro e; rw [e] at hy0; simp at hy0)
          simp only [Value.slice.injEq, Option.some.injEq, Addr.mk.injEq] at hv
          obtain ⟨⟨rfl, _⟩, _⟩ := hv
          exact hc j y0 hy0
        have hf : w1.frozen? ⟨g, j, none⟩ = false := World.ownsRow.frozenAt (by have := HO1.out; unfold Row at this; rw [HL.out] at this; exact this) j
        have HS := Lib.hid (HO1.out.stored HL.out.symm j (markOf (k + j)))
        have HM : Hid (Value.string (⟨#[109]⟩ ++ markGo (k + j) (k + j) ⟨#[]⟩) = markOf (k + j)) := rfl
        generalize (⟨#[109]⟩ ++ markGo (k + j) (k + j) ⟨#[]⟩ : ByteArray) = m at HM
        clear hb
        go_wp2
        go_roundw
        case rel =>
          refine ⟨j + 1, ys.set j (markOf (k + j)), by omega, by go_num, by go_num, by simpa using HL.out, ?_, by rw [HM.out]; exact HS.out.1, grown_trans HG.out (grown_trans (grown_of_below HB.out _) (by rw [HM.out]; exact HS.out.2))⟩
          intro i hi
          by_cases e : i = j
          · subst e
            rw [List.getElem?_set_self (by rw [HL.out]; omega)]
          · rw [List.getElem?_set_ne (by omega)]
            exact HY.out i (by omega)
        case measure => simp [intOf]; omega
      · go_wp2
        go_ret
        obtain rfl : j = xs.length := by omega
        exact ⟨by go_num, by rw [← marks_of HL.out HY.out]; exact HO.out, HG.out⟩

set_option maxHeartbeats 400000 in
theorem heldStrings_any (v : Value) (b k n : Nat) (w : World) (h : Row w b 9 v (marks k n)) (h0 : 0 < (k : Int)) (hk : (k : Int) + n ≤ 1099511627776) :
    Calls Try.prog 13 #[v, .int .i64 k] w fun e w' => e = .returned (.int .i64 ((k + n : Nat) : Int)) ∧ Below w.heap.size w w' := by
  by_cases hne : n = 0
  · subst hne
    obtain ⟨a, cap, rfl⟩ := Row.empty h
    clear h
    go_enter Try.func13, Try.ntmps13
    go_wp2
    refine wp_loop_rounds 1 ?_
    rw [rounds_succ]
    go_wp2
    go_ret
    exact ⟨rfl, Below.refl _ _⟩
  · obtain ⟨g, cap, rfl, hbg, hgw, _, _, hc, _⟩ := h.at (by intro e; have := marks_length k n; rw [e] at this; exact hne this.symm)
    rw [marks_length]
    have HC : Hid (∀ j, j < n → w.cell? ⟨g, j, none⟩ = some (markOf (k + j))) := Lib.hid (fun j hj => hc j _ (marks_at k n j hj))
    clear h hc
    go_enter Try.func13, Try.ntmps13
    go_wp2
    go_loopw [1, 5] (fun kv i wr => ∃ j : Nat, j ≤ n ∧ kv = .int .i64 ((k : Int) + j) ∧ i = .int .i64 j ∧ Below w.heap.size w wr)
        (fun _ i _ => n - (intOf i).toNat)
    case atStart => exact ⟨0, Nat.zero_le _, by go_num, rfl, Below.refl _ _⟩
    case round =>
      obtain ⟨j, hj, rfl, rfl, hb⟩ := hrel
      have HB := Lib.hid hb
      have hB := hb.size
      clear hb
      by_cases hlt : j < n
      · have hcw := (HB.out.cell (p := ⟨g, j, none⟩) hgw).trans (HC.out j hlt)
        unfold markOf at hcw
        have HMT : ∀ W, Calls Try.prog 23 #[.int .i64 ((k : Int) + j)] W fun e w' => e = .returned (.string (⟨#[109]⟩ ++ markGo (k + j) (k + j) ⟨#[]⟩)) ∧ Below W.heap.size W w' := fun W => by
          rw [show ((k : Int) + j) = ((k + j : Nat) : Int) from by omega]
          exact markText_any (k + j) W (by omega) (by omega)
        generalize (⟨#[109]⟩ ++ markGo (k + j) (k + j) ⟨#[]⟩ : ByteArray) = m at hcw HMT
        have HMT' := Lib.hid HMT
        clear HMT
        have hgr : g < wr.heap.size := by omega
        go_wp2
        go_region_held3 (fun w' => w'.cell? ⟨g, j, none⟩ = some (.string m)) (go_keep)
          (first | (go_at_call 23; refine (HMT'.out _).mono ?_; rintro e w' ⟨rfl, hb⟩; have hcc := (hb.cell (p := ⟨g, j, none⟩) (by simpa using hgr)).trans hcw))
        go_wp2
        go_roundw
        case rel => exact ⟨j + 1, by omega, by go_num, by go_num, HB.out.trans ((Below.refl _ wr).drew.trans (hb.mono hB))⟩
        case measure => simp [intOf]; omega
      · go_wp2
        go_ret
        obtain rfl : j = n := by omega
        exact ⟨by go_num, HB.out⟩

theorem below_drewN' (w : World) (n : Nat) : Below w.heap.size w (w.drewN n) := below_drewN (Below.refl _ _) n
theorem eqStrings_eq (v v' : Value) (b b' : Nat) (ss : List ByteArray) (w : World) (h : Row w b 9 v (ss.map .string)) (h' : Row w b' 9 v' (ss.map .string)) (hl : ss.length ≤ maxLen) :
    Calls Try.prog 11 #[v, v'] w fun e w' => e = .returned (.bool true) ∧ Below w.heap.size w w' :=
  (eqStrings_any v v' b b' ss w h h' hl).mono fun _ _ ⟨he, n, hw⟩ => ⟨he, by rw [hw]; exact below_drewN' w n⟩
theorem markStrings_one (v : Value) (b n : Nat) (xs : List Value) (w : World) (h : Row w b 9 v xs) (hn : xs.length = n) (hk : n ≤ 1099511627775) :
    Calls Try.prog 12 #[v, .int .i64 1] w fun e w' => e = .returned (.int .i64 ((n : Int) + 1)) ∧ Row w' b 9 v (marks 1 n) ∧ w.grownBy w' v.ownBlock :=
  (markStrings_any v b 1 n xs w h hn (by decide) (by omega)).mono fun _ _ ⟨he, h2⟩ => ⟨by rw [he, show ((1 + n : Nat) : Int) = (n : Int) + 1 from by omega], h2⟩
theorem heldStrings_one (v : Value) (b n : Nat) (w : World) (h : Row w b 9 v (marks 1 n)) (hk : n ≤ 1099511627775) :
    Calls Try.prog 13 #[v, .int .i64 1] w fun e w' => e = .returned (.int .i64 ((n : Int) + 1)) ∧ Below w.heap.size w w' :=
  (heldStrings_any v b 1 n w h (by decide) (by omega)).mono fun _ _ ⟨he, h2⟩ => ⟨by rw [he, show ((1 + n : Nat) : Int) = (n : Int) + 1 from by omega], h2⟩
end Go.Proofs.Ytfoegoobcpmddaa
