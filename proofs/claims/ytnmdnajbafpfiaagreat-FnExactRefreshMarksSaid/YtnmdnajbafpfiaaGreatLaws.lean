/-
  The marks of the laws: 'markText'.
  The contracts of the laws' helpers on slices of integers: eqIntS, markIntS, heldIntS.
  Marks written into a tree that a call owns, and looked for again: markTermS, markTerm, heldTermS, heldTerm.
  Marks looked for again: heldTermS, heldTerm; markTerm.
  Helpers of the laws' walks: structs that a region lays and fills.
-/
import Derived.Test.YtnmdnajbafpfiaaGreatBase
import Derived.ProofKit
import Derived.WalkLawsBesides
import Derived.Deep.QuietTactic
import Derived.BigQuiet
import Derived.Deep.RegionWith
import Derived.Deep.RegionHeld3
import Derived.Test.YtnmdnajbafpfiaaGreatFits
import Derived.Test.YtnmdnajbafpfiaaGreatPuts
namespace Go.Proofs.YtnmdnajbafpfiaaGreat
open Go.RowKit

def markGo : Nat → Nat → ByteArray → ByteArray
  | 0, _, out => out
  | b + 1, k, out => if k = 0 then out else markGo b (k / 10) (⟨#[UInt8.ofNat (48 + k % 10)]⟩ ++ out)

set_option maxHeartbeats 400000 in
theorem markText_any (k : Nat) (w : World) (h0 : 0 < (k : Int)) (hk : (k : Int) ≤ 1099511627776) :
    Calls Tryz.prog 45 #[.int .i64 k] w fun e w' => e = .returned (.string (⟨#[109]⟩ ++ markGo k k ⟨#[]⟩)) ∧ Below w.heap.size w w' := by
  go_enter Tryz.func45, Tryz.ntmps45
  go_wp2
  go_loopw [0, 3] (fun kv ov wr => ∃ (j b : Nat) (out : ByteArray), kv = .int .i64 j ∧ ov = .string out ∧ j ≤ k ∧ j ≤ b ∧ out.size + b ≤ k ∧ markGo b j out = markGo k k ⟨#[]⟩ ∧ Below w.heap.size w wr)
      (fun kv _ _ => (intOf kv).toNat)
  case atStart => exact ⟨k, k, _, rfl, rfl, Nat.le_refl _, Nat.le_refl _, Nat.le_of_eq (Nat.zero_add _), rfl, Below.refl _ _⟩
  case round =>
    obtain ⟨j, b, out, rfl, rfl, h1, h2, h3, h4, hb⟩ := hrel
    have H4 := Lib.hid h4
    clear h4
    have HB := Lib.hid hb
    have hB := hb.size
    clear hb
    by_cases hj : 0 < j
    · obtain ⟨c, HC, hcv⟩ := one_byte (P := Tryz.prog) wr 105 9 5 Tryz.underlying105 Tryz.underlying5 Tryz.underlying9 (48 + (j : Int) % 10) (by omega) (by omega)
      go_wp2
      go_roundw
      case rel =>
        obtain ⟨b, rfl⟩ : ∃ b', b = b' + 1 := ⟨b - 1, by omega⟩
        refine ⟨j / 10, b, ⟨#[c]⟩ ++ out, by go_num, rfl, by omega, by omega, ?_, ?_, (HB.out.alloc hB _)⟩
        · rw [ByteArray.size_append]
          show 1 + out.size + b ≤ k
          omega
        · rw [← H4.out, markGo, if_neg (by omega)]
          rw [show c = UInt8.ofNat (48 + j % 10) from UInt8.toNat_inj.1 (by have := HC.out; rw [UInt8.toNat_ofNat']; omega)]
      case measure => simp [intOf]; omega
    · go_wp2
      go_ret
      refine ⟨?_, HB.out⟩
      obtain rfl : j = 0 := by omega
      rw [← H4.out]
      cases b <;> rfl
end Go.Proofs.YtnmdnajbafpfiaaGreat

namespace Go.Proofs.YtnmdnajbafpfiaaGreat
open Go.RowKit

/-- The marks of integers. -/
def markI (k n : Nat) : List Value := (List.range n).map fun i => .int .i64 ((k + i : Nat) : Int)
theorem markI_length (k n : Nat) : (markI k n).length = n := by simp [markI]
theorem markI_at (k n j : Nat) (h : j < n) : (markI k n)[j]? = some (.int .i64 ((k + j : Nat) : Int)) := by simp [markI, h]
theorem markI_of {k n : Nat} {ys : List Value} (hl : ys.length = n) (h : ∀ i, i < n → ys[i]? = some (.int .i64 ((k + i : Nat) : Int))) : ys = markI k n := by
  apply List.ext_getElem?
  intro i
  by_cases hi : i < n
  · rw [h i hi, markI_at k n i hi]
  · rw [List.getElem?_eq_none (by omega), List.getElem?_eq_none (by rw [markI_length]; omega)]

end Go.Proofs.YtnmdnajbafpfiaaGreat

namespace Go.Proofs.YtnmdnajbafpfiaaGreat
open Go.RowKit
set_option linter.unusedVariables false
set_option linter.unusedSimpArgs false

def mtx (x : Int) : ByteArray := ⟨#[109]⟩ ++ markGo x.toNat x.toNat ⟨#[]⟩
theorem mtext_any (x : Int) (w : World) (h0 : 0 < x) (h1 : x ≤ 1099511627776) :
    Calls Tryz.prog 45 #[.int .i64 x] w fun e w' => e = .returned (.string (mtx x)) ∧ Below w.heap.size w w' := by
  have h := markText_any x.toNat w (by omega) (by omega)
  rw [show ((x.toNat : Nat) : Int) = x from by omega] at h
  exact h

mutual
def markT (k : Int) : Tm → Tm | .mk _ _ _ l => .mk k (k + 1) (mtx (k + 1 + 1)) (markL (k + 1 + 1 + 1) l)
def markL (k : Int) : List Tm → List Tm | [] => [] | t :: l => markT k t :: markL (k + 3 * (t.nodes : Int)) l
end
theorem markT_eq (k : Int) (t : Tm) : markT k t = .mk k (k + 1) (mtx (k + 1 + 1)) (markL (k + 1 + 1 + 1) t.args) := by cases t; rw [markT]; rfl
theorem markL_nil (k : Int) : markL k [] = [] := by rw [markL]
theorem markL_cons (k : Int) (t : Tm) (l : List Tm) : markL k (t :: l) = markT k t :: markL (k + 3 * (t.nodes : Int)) l := by rw [markL]
theorem markL_length (k : Int) (l : List Tm) : (markL k l).length = l.length := by
  induction l generalizing k with
  | nil => rw [markL_nil]
  | cons t l ih => rw [markL_cons, List.length_cons, ih, List.length_cons]
theorem markL_append (k : Int) (a b : List Tm) : markL k (a ++ b) = markL k a ++ markL (k + 3 * (nodesL a : Int)) b := by
  induction a generalizing k with
  | nil => rw [markL_nil, nodesL_nil]; simp
  | cons t l ih =>
    rw [List.cons_append, markL_cons, markL_cons, ih, nodesL, List.cons_append]
    congr 3
    push_cast
    omega
theorem nodesL_len (l : List Tm) : l.length ≤ nodesL l := by
  induction l with
  | nil => simp
  | cons t l ih => rw [nodesL, List.length_cons]; have := nodes_pos t; omega
theorem markL_take {k : Int} {l : List Tm} {j : Nat} {x : Tm} (h : l[j]? = some x) : markL k (l.take (j + 1)) = markL k (l.take j) ++ [markT (k + 3 * (nodesL (l.take j) : Int)) x] := by
  rw [take_snoc h, markL_append, markL_cons, markL_nil]
theorem markL_at {k : Int} {l : List Tm} {j : Nat} {x : Tm} (h : l[j]? = some x) : (markL k l)[j]? = some (markT (k + 3 * (nodesL (l.take j) : Int)) x) := by
  have hl : j < l.length := (List.getElem?_eq_some_iff.1 h).1
  have e : markL k l = markL k (l.take (j + 1)) ++ markL (k + 3 * (nodesL (l.take (j + 1)) : Int)) (l.drop (j + 1)) := by rw [← markL_append, List.take_append_drop]
  rw [e, List.getElem?_append_left (by rw [markL_length, List.length_take]; omega), markL_take h, List.getElem?_append_right (by rw [markL_length, List.length_take]; omega)]
  rw [markL_length, List.length_take, show j - min j l.length = 0 from by omega]
  rfl
/-- A list marked as far as j. -/
def mixL (k : Int) (l : List Tm) (j : Nat) : List Tm := markL k (l.take j) ++ l.drop j
theorem mixL_zero (k : Int) (l : List Tm) : mixL k l 0 = l := by simp [mixL, markL_nil]
theorem mixL_end (k : Int) (l : List Tm) : mixL k l l.length = markL k l := by simp [mixL]
theorem mixL_length {k : Int} {l : List Tm} {j : Nat} (h : j ≤ l.length) : (mixL k l j).length = l.length := by
  unfold mixL; rw [List.length_append, markL_length, List.length_take, List.length_drop]; omega
theorem mixL_at {k : Int} {l : List Tm} {j : Nat} {x : Tm} (h : l[j]? = some x) : (mixL k l j)[j]? = some x := by
  have hl : j < l.length := (List.getElem?_eq_some_iff.1 h).1
  unfold mixL
  rw [List.getElem?_append_right (by rw [markL_length, List.length_take]; omega), markL_length, List.length_take, show j - min j l.length = 0 from by omega, List.getElem?_drop]
  exact h
theorem mixL_set {k : Int} {l : List Tm} {j : Nat} {x : Tm} (h : l[j]? = some x) : (mixL k l j).set j (markT (k + 3 * (nodesL (l.take j) : Int)) x) = mixL k l (j + 1) := by
  have hl : j < l.length := (List.getElem?_eq_some_iff.1 h).1
  unfold mixL
  rw [List.set_append_right _ _ (by rw [markL_length, List.length_take]; omega), markL_length, List.length_take, show j - min j l.length = 0 from by omega, markL_take h, List.append_assoc]
  congr 1
  obtain ⟨_, hx⟩ := List.getElem?_eq_some_iff.1 h
  rw [List.drop_eq_getElem_cons hl, List.set_cons_zero]
  rfl

/-- The first two cells of an element written. -/
theorem Own.two {w : World} {e : TypeId} {S : Nat → Prop} {g n cap : Nat} {l : List Tm} (h : Own w e S (.slice (some ⟨g, 0, none⟩) n cap) l) {j : Nat} {x : Tm} (hj : l[j]? = some x) (k1 k2 : Int) :
    Only S w ((w.setCell ⟨g, j * 4, none⟩ (.int .i64 k1)).setCell ⟨g, j * 4 + 1, none⟩ (.int .i64 k2)) ∧
      Own ((w.setCell ⟨g, j * 4, none⟩ (.int .i64 k1)).setCell ⟨g, j * 4 + 1, none⟩ (.int .i64 k2)) e S (.slice (some ⟨g, 0, none⟩) n cap) (l.set j (.mk k1 k2 x.name x.args)) := by
  have hjl : j < l.length := (List.getElem?_eq_some_iff.1 hj).1
  obtain ⟨g0, cap0, V0, C0, hv0, hS0, _, _, _, _, _, _, _, _, k0, _, _, _, _⟩ := h.at hj
  simp only [Value.slice.injEq, Option.some.injEq, Addr.mk.injEq] at hv0
  obtain ⟨⟨rfl, _⟩, _, rfl⟩ := hv0
  obtain ⟨g1, o1⟩ := k0 k1
  obtain ⟨g', cap', V1, C1, hv1, hS1, _, _, _, _, _, _, _, _, _, k1', _, _, _⟩ := o1.at (t := .mk k1 x.num x.name x.args) (j := j) (by rw [List.getElem?_set_self hjl])
  simp only [Value.slice.injEq, Option.some.injEq, Addr.mk.injEq] at hv1
  obtain ⟨⟨rfl, _⟩, _, rfl⟩ := hv1
  obtain ⟨g2, o2⟩ := k1' k2
  rw [List.set_set] at o2
  exact ⟨(Only.of_grown g1 hS0).trans (Only.of_grown g2 hS0), o2⟩
/-- The third cell of an element written; its child. -/
theorem Own.third {w : World} {e : TypeId} {S : Nat → Prop} {g n cap : Nat} {l : List Tm} (h : Own w e S (.slice (some ⟨g, 0, none⟩) n cap) l) {j : Nat} {x : Tm} (hj : l[j]? = some x) (s : ByteArray) :
    Only S w (w.setCell ⟨g, j * 4 + 2, none⟩ (.string s)) ∧ ∃ (a : Option Addr) (c : Nat) (C : Nat → Prop), w.cell? ⟨g, j * 4 + 3, none⟩ = some (.slice a x.args.length c) ∧ (∀ k, C k → S k) ∧
      Own (w.setCell ⟨g, j * 4 + 2, none⟩ (.string s)) e C (.slice a x.args.length c) x.args ∧
      ∀ w' bs, Own w' e C (.slice a x.args.length c) bs → Only C (w.setCell ⟨g, j * 4 + 2, none⟩ (.string s)) w' → Own w' e S (.slice (some ⟨g, 0, none⟩) n cap) (l.set j (.mk x.kind x.num s bs)) := by
  have hjl : j < l.length := (List.getElem?_eq_some_iff.1 hj).1
  obtain ⟨g0, cap0, V0, C0, hv0, hS0, _, _, _, _, _, _, d3, _, _, _, k2, _, _⟩ := h.at hj
  simp only [Value.slice.injEq, Option.some.injEq, Addr.mk.injEq] at hv0
  obtain ⟨⟨rfl, _⟩, _, rfl⟩ := hv0
  obtain ⟨g1, o1⟩ := k2 s
  obtain ⟨g', cap', V1, C1, hv1, hS1, hC1, _, _, _, _, _, e3, hch, _, _, _, hx, _⟩ := o1.at (t := .mk x.kind x.num s x.args) (j := j) (by rw [List.getElem?_set_self hjl])
  simp only [Value.slice.injEq, Option.some.injEq, Addr.mk.injEq] at hv1
  obtain ⟨⟨rfl, _⟩, _, rfl⟩ := hv1
  have hV : V0 = V1 := by
    have h3 : (w.setCell ⟨g, j * 4 + 2, none⟩ (.string s)).cell? ⟨g, j * 4 + 3, none⟩ = w.cell? ⟨g, j * 4 + 3, none⟩ := World.cell?_setCell_other _ _ _ _ (by simp)
    have h4 := (h3.symm.trans e3).symm.trans d3
    exact (Option.some.inj h4).symm
  subst hV
  have hch' : Own (w.setCell ⟨g, j * 4 + 2, none⟩ (.string s)) e C1 V0 x.args := hch
  obtain ⟨a, c, hVa⟩ := hch'.argsAt.slice
  subst hVa
  refine ⟨Only.of_grown g1 hS0, a, c, C1, d3, fun k hk => (hC1 k hk).1, hch', fun w' bs h1 h2 => ?_⟩
  have := hx w' bs h1 h2
  rw [List.set_set] at this
  exact this

set_option maxHeartbeats 1600000 in
theorem markTerms_any (N : Nat) : ∀ (l : List Tm) (V : Value) (k : Int) (S : Nat → Prop) (w : World), nodesL l < N → Own w 38 S V l → 0 < k → k + 3 * (nodesL l : Int) ≤ 1099511627776 → l.length ≤ 1099511627776 →
    Calls Tryz.prog 46 #[V, .int .i64 k] w fun e w' => e = .returned (.int .i64 (k + 3 * (nodesL l : Int))) ∧ Own w' 38 S V (markL k l) ∧ Only S w w' := by
  induction N with
  | zero => intro l V k S w hN; omega
  | succ N ih =>
    intro l V k S w hN hO hk0 hk1 hL
    obtain ⟨a, cap, rfl⟩ := hO.argsAt.slice
    have HO := Lib.hid hO
    have HI := Lib.hid ih
    clear hO ih
    go_enter Tryz.func46, Tryz.ntmps46
    go_wp2
    go_loopw [1, 5] (fun kv i wr => ∃ (j : Nat) (c : Int), j ≤ l.length ∧ kv = .int .i64 c ∧ i = .int .i64 j ∧ Hid (c = k + 3 * (nodesL (l.take j) : Int)) ∧ Hid (Own wr 38 S (.slice a l.length cap) (mixL k l j)) ∧ Hid (Only S w wr))
        (fun _ i _ => l.length - (intOf i).toNat)
    case atStart => exact ⟨0, k, Nat.zero_le _, rfl, rfl, Lib.hid (by simp [nodesL_nil]), Lib.hid (by rw [mixL_zero]; exact HO.out), Lib.hid (Only.refl _ _)⟩
    case round =>
      obtain ⟨j, c, hj, rfl, rfl, HC, HR, HY⟩ := hrel
      by_cases hlt : j < l.length
      · obtain ⟨x, hx⟩ : ∃ x, l[j]? = some x := ⟨_, List.getElem?_eq_getElem hlt⟩
        have HX := Lib.hid hx
        have hm := mixL_at (k := k) hx
        obtain ⟨g, cap', V0, C0, hv, hSg, _, hgw, hfz, c0, c1, c2, c3, _⟩ := HR.out.at hm
        simp only [Value.slice.injEq] at hv
        obtain ⟨rfl, hq, rfl⟩ := hv
        clear hq
        have hcb : 0 < c ∧ c + 3 * (x.nodes : Int) ≤ 1099511627776 := by
          have h1 := HC.out
          have h2 := nodes_take_at hx
          omega
        obtain ⟨hc0, hc1⟩ := hcb
        have hxn := nodes_pos x
        have H2 := Lib.hid (HR.out.two hm c (c + 1))
        have HM := Lib.hid hm
        have hN' : nodesL x.args < N ∧ x.nodes = 1 + nodesL x.args := by have h1 := nodes_at hx; have h2 := nodes_eq x; omega
        have HN' := Lib.hid hN'
        clear hx hm hN' hfz
        have f0 : ∀ i, wr.frozen? ⟨g, i, none⟩ = false := by
          obtain ⟨g', cap'', V0', C0', hv', _, _, _, hfz, _⟩ := HR.out.at HM.out
          simp only [Value.slice.injEq, Option.some.injEq, Addr.mk.injEq] at hv'
          obtain ⟨⟨rfl, _⟩, _⟩ := hv'
          exact hfz
        have HT := Lib.hid (mtext_any (c + 1 + 1) ((wr.setCell ⟨g, j * 4, none⟩ (.int .i64 c)).setCell ⟨g, j * 4 + 1, none⟩ (.int .i64 (c + 1))) (by omega) (by omega))
        go_wp2_with fail
        refine HT.out.mono ?_
        rintro e w3 ⟨rfl, hb⟩
        have HO3 := Lib.hid (H2.out.2.kept hb)
        have HY3 := Lib.hid ((HY.out.trans H2.out.1).trans (Only.of_below hb))
        have hj3 : ((mixL k l j).set j (.mk c (c + 1) x.name x.args))[j]? = some (.mk c (c + 1) x.name x.args) := by rw [List.getElem?_set_self (List.getElem?_eq_some_iff.1 HM.out).1]
        obtain ⟨g3, cap3, V3, C3, hv3, _, _, hgw3, f3, d0, d1, d2, d3, _⟩ := HO3.out.at hj3
        simp only [Value.slice.injEq, Option.some.injEq, Addr.mk.injEq] at hv3
        obtain ⟨⟨rfl, _⟩, hq, rfl⟩ := hv3
        clear hq
        have H4 := Lib.hid (HO3.out.third hj3 (mtx (c + 1 + 1)))
        obtain ⟨ua, uc, C4, d3', hsub, hch, hput⟩ := H4.out.2
        have e3 : w3.cell? ⟨g, j * 4 + 3, none⟩ = some (.slice ua x.args.length uc) := d3'
        have HPUT := Lib.hid hput
        have HSUB := Lib.hid hsub
        have HCALL := Lib.hid (HI.out x.args (.slice ua x.args.length uc) (c + 1 + 1 + 1) C4 (w3.setCell ⟨g, j * 4 + 2, none⟩ (.string (mtx (c + 1 + 1)))) HN'.out.1 hch (by omega) (by have := HN'.out.2; omega) (by have := HN'.out.2; have h := nodesL_len x.args; omega))
        clear hb c0 c1 c2 c3 d3 d3' hsub hch hput hj3 f0 HT
        go_wp2_with fail
        refine HCALL.out.mono ?_
        rintro e w5 ⟨rfl, ho5, hb5⟩
        have HO5 := Lib.hid (HPUT.out w5 _ ho5 hb5)
        have HY5 := Lib.hid ((HY3.out.trans H4.out.1).trans (hb5.sub HSUB.out))
        clear ho5 hb5 HCALL d0 d1 d2 e3 f3
        go_wp2
        go_roundw
        case rel =>
          refine ⟨j + 1, c + 1 + 1 + 1 + 3 * (nodesL x.args : Int), by omega, rfl, by go_num, Lib.hid ?_, Lib.hid ?_, HY5⟩
          · have h1 := nodes_take HX.out
            have h2 := HN'.out.2
            have h3 := HC.out
            omega
          · have h5 := HO5.out
            rw [List.set_set] at h5
            rw [← mixL_set HX.out, ← HC.out, markT_eq]
            exact h5
        case measure => simp [intOf]; omega
      · go_wp2
        go_ret
        obtain rfl : j = l.length := by omega
        have h1 := HC.out
        have h2 := HR.out
        rw [List.take_length] at h1
        rw [mixL_end] at h2
        exact ⟨by rw [← h1]; rfl, h2, HY.out⟩
end Go.Proofs.YtnmdnajbafpfiaaGreat

namespace Go.Proofs.YtnmdnajbafpfiaaGreat
open Go.RowKit
set_option linter.unusedVariables false
set_option linter.unusedSimpArgs false

set_option maxHeartbeats 400000 in
theorem markTerm_any (k0 k1 : Int) (s : ByteArray) (l : List Tm) (V : Value) (k : Int) (lo hi : Nat) (w : World) (hO : At w lo hi (OwnP 38 lo hi V l)) (hk0 : 0 < k) (hk1 : k + 3 * (nodesL l : Int) ≤ 1099511627776) :
    Calls Tryz.prog 20 #[.agg #[.int .i64 k0, .int .i64 k1, .string s, V], .int .i64 k] w fun e w' => e = .returned (.int .i64 (k + 3 * (nodesL l : Int))) ∧ At w' lo hi (OwnP 38 lo hi V (markL k l)) ∧ Only (iv lo hi) w w' := by
  obtain ⟨a, cap, rfl⟩ := hO.argsAt.slice
  have B0 := Lib.hid ((Below.refl w.heap.size w).alloc (Nat.le_refl _) (.cells #[.int .i64 k0, .int .i64 k1, .string s, .slice a l.length cap] 38))
  have HLE := Lib.hid hO.le
  have HH := Lib.hid (markTerms_any (nodesL l + 1) l _ k (iv lo hi) (w.alloc (.cells #[.int .i64 k0, .int .i64 k1, .string s, .slice a l.length cap] 38)) (by omega) (hO.read B0.out).now hk0 hk1 (by have h := nodesL_len l; omega))
  clear hO
  go_enter Tryz.func20, Tryz.ntmps20
  go_wp2_with fail
  refine HH.out.mono ?_
  rintro e w1 ⟨rfl, ho, hb⟩
  have HO := Lib.hid ho
  have HB := Lib.hid ((Only.of_below (S := iv lo hi) B0.out).trans hb)
  clear hb ho HH
  go_wp2
  go_ret
  exact ⟨rfl, at_own HO.out (Nat.le_trans HLE.out HB.out.size), HB.out⟩
end Go.Proofs.YtnmdnajbafpfiaaGreat

namespace Go.Proofs.YtnmdnajbafpfiaaGreat
open Go.RowKit
set_option linter.unusedVariables false

theorem at_box_in {w : World} {b : Nat} {xs : Array Value} {e : TypeId} (h : w.heap[b]? = some (.cells xs e)) : At w b (b + 1) (BoxP b xs e) := ⟨h, stays_box b xs e, (Array.getElem?_eq_some_iff.1 h).1⟩
theorem nl_bd {t : Tm} (h : t.sz ≤ 1048576) : nodesL t.args ≤ 1048576 := by have h1 := nodesL_sz t.args; have h2 := sz_eq t; omega
theorem box_after {W0 W w' : World} {o : Obj} (h0 : Below W0.heap.size W0 W) (hb : Below (W.alloc o).heap.size (W.alloc o) w') : w'.heap[W.heap.size]? = some o ∧ W0.heap.size ≤ W.heap.size := ⟨(hb.block _ (by simp)).trans (heap_new W o), h0.size⟩
theorem box_after_drew {W0 W w' : World} {o : Obj} (h0 : Below W0.heap.size W0 W) (hb : Below (W.alloc o).drew.heap.size (W.alloc o).drew w') : w'.heap[W.heap.size]? = some o ∧ W0.heap.size ≤ W.heap.size :=
  ⟨(hb.block W.heap.size (show W.heap.size < (W.alloc o).heap.size by simp)).trans (heap_new W o), h0.size⟩
theorem box_keep {W0 w w' : World} {B : Nat} {o : Obj} (h : w.heap[B]? = some o ∧ W0.heap.size ≤ B) (hb : Below w.heap.size w w') : w'.heap[B]? = some o ∧ W0.heap.size ≤ B :=
  ⟨(hb.block B (Array.getElem?_eq_some_iff.1 h.1).1).trans h.1, h.2⟩
theorem alloc_lt {W w' : World} {o : Obj} (hb : Below (W.alloc o).heap.size (W.alloc o) w') : W.heap.size < (W.alloc o).heap.size := by simp
theorem block_lt {W0 w w' : World} {B : Nat} {o : Obj} (h : w.heap[B]? = some o ∧ W0.heap.size ≤ B) (hb : Below w.heap.size w w') : B < w.heap.size := (Array.getElem?_eq_some_iff.1 h.1).1

/-- A region has laid a struct of four cells and filled it with an answer. -/
def Struct2 (W0 : World) (r : Tm) (c : Bool) (p b : Value) (wx : World) : Prop :=
  ∃ (B : Nat) (a : Option Addr) (k : Nat), p = .pointer (some ⟨B, 0, none⟩) ∧ b = .bool c ∧ wx.heap[B]? = some (.cells #[.int .i64 r.kind, .int .i64 r.num, .string r.name, .slice a r.args.length k] 38) ∧ W0.heap.size ≤ B ∧
    ArgsAt wx (.slice a r.args.length k) r.args ∧ Below W0.heap.size W0 wx
theorem struct2_late {W0 wS : World} {r : Tm} {c : Bool} {C : Nat → Prop} {a : Option Addr} {k : Nat} (hu : ArgsS wS C (.slice a r.args.length k) r.args) (hb : Below W0.heap.size W0 wS) :
    Struct2 W0 r c (.pointer (some ⟨wS.heap.size, 0, none⟩)) (.bool c) (wS.alloc (.cells #[.int .i64 r.kind, .int .i64 r.num, .string r.name, .slice a r.args.length k] 38)) :=
  ⟨_, a, k, rfl, rfl, heap_new _ _, hb.size, (hu.kept ((Below.refl _ _).alloc (Nat.le_refl _) _)).at, belowAlloc hb _⟩
theorem struct2_early {W0 wS : World} {r : Tm} {c : Bool} {lo hi B : Nat} {a : Option Addr} {k : Nat} {x0 x1 x2 x3 : Value} (hx : wS.heap[B]? = some (Obj.cells #[x0, x1, x2, x3] 38) ∧ W0.heap.size ≤ B) (hl : B < lo)
    (hu : ArgsS wS (iv lo hi) (.slice a r.args.length k) r.args) (hb : Below W0.heap.size W0 wS) :
    Struct2 W0 r c (.pointer (some ⟨B, 0, none⟩)) (.bool c) ((((wS.setCell ⟨B, 0, none⟩ (.int .i64 r.kind)).setCell ⟨B, 1, none⟩ (.int .i64 r.num)).setCell ⟨B, 2, none⟩ (.string r.name)).setCell ⟨B, 3, none⟩ (.slice a r.args.length k)) := by
  have h0 := heap_setCell_same wS B 0 _ 38 (.int .i64 r.kind) hx.1
  have h1 := heap_setCell_same _ B 1 _ 38 (.int .i64 r.num) h0
  have h2 := heap_setCell_same _ B 2 _ 38 (.string r.name) h1
  have h3 := heap_setCell_same _ B 3 _ 38 (.slice a r.args.length k) h2
  have one : ∀ (W : World) (j : Nat) (u : Value), Only (fun k => k = B) W (W.setCell ⟨B, j, none⟩ u) := fun W j u => ⟨rfl, rfl, rfl, by simp, fun k _ hk => Below.heap_setCell _ _ _ _ hk⟩
  have ho := (((one wS 0 (.int .i64 r.kind)).trans (one _ 1 (.int .i64 r.num))).trans (one _ 2 (.string r.name))).trans (one _ 3 (.slice a r.args.length k))
  exact ⟨B, a, k, rfl, rfl, h3, hx.2, (hu.frame ho.size fun j hj hjs => ho.block j hjs (fun e => by unfold iv at hj; omega)).at, hb.trans (ho.below (fun j hj => by have := hx.2; omega) hb.size)⟩
end Go.Proofs.YtnmdnajbafpfiaaGreat

