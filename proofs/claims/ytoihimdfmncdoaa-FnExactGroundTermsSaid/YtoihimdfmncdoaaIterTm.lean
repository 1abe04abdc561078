/-
  Iterators over terms: what they hand on; slices.Values over a list of terms.
-/
import Derived.Test.YtoihimdfmncdoaaIter
import Derived.Test.YtoihimdfmncdoaaLaws
import Derived.Shelf.Abstract
import Derived.Shelf.RegionOpen
import Derived.WalkKit
import Derived.OwnWalkIn
import Derived.TacticsInMore
import Derived.LoopNIn
import Derived.LoopIn
namespace Go.Proofs.Ytoihimdfmncdoaa
open Go.RowKit Go.Shelf
set_option linter.unusedVariables false
set_option linter.unusedSimpArgs false

attribute [local go_sem] Oper.semAt_some

/-- A term that is handed on: its parts lie in blocks that nobody turns. -/
def TmG (x : Tm) (v : Array Value) (Y : Fp) (W : World) : Prop :=
  ∃ a c, v = #[.agg #[.int .i64 x.kind, .int .i64 x.num, .string x.name, .slice a x.args.length c]] ∧ ArgsS W Y.z (.slice a x.args.length c) x.args
def NoneC (_ : Array Value) (_ : Nat) : Prop := False
theorem TmG.size {x : Tm} {v : Array Value} {Y : Fp} {W : World} (h : TmG x v Y W) : v.size = 1 := by
  obtain ⟨a, c, rfl, _⟩ := h
  rfl
theorem take_next {α : Type} {u : List α} {k : Nat} {x : α} (h : u[k]? = some x) : u.take (k + 1) = u.take k ++ [x] := by
  rw [List.take_add_one, h]; rfl
theorem take_pre {α : Type} {u : List α} {k : Nat} {x : α} (h : u[k]? = some x) : u.take k ++ [x] <+: u := ⟨u.drop (k + 1), by rw [← take_next h, List.take_append_drop]⟩
/-- The iterator's own new block, or a draw. -/
theorem AbY.grown {β : Type} {J : β → Fp → World → Prop} (hJ : AbY J) {s : β} {Y : Fp} {W W' : World} (h : J s Y W) (hok : Y.ok W.heap.size) (hb : Below W.heap.size W W') : J s Y W' :=
  hJ s Y Y W W' h hok (Only.of_below hb) (Fp.to.refl _ _) ⟨fun k hk => Nat.lt_of_lt_of_le (hok.lt k hk) hb.size, hok.off⟩
theorem Fp.ok.up {Y : Fp} {n m : Nat} (h : Y.ok n) (hm : n ≤ m) : Y.ok m := ⟨fun k hk => Nat.lt_of_lt_of_le (h.lt k hk) hm, h.off⟩

set_option maxRecDepth 100000 in
set_option maxHeartbeats 2000000 in
theorem valuesT1_any (l : Nat) (J Jx : List Tm → Fp → World → Prop) (hJ : AbY J) (u : List Tm) (Bs : Nat) (a : Option Addr) (cap : Nat) (Z0 : Nat → Prop) (hL : u.length ≤ 1048576) (hBs : Z0 Bs)
    (hY : ∀ (pre : List Tm) (x : Tm) (Y1 : Fp) (v : Array Value) (W1 : World), J pre Y1 W1 → Y1.ok W1.heap.size → (pre ++ [x]) <+: u → TmG x v Y1 W1 →
      YieldW Try.prog l v W1 fun e W' => Only (fun k => ¬ Y1.on k ∨ NoneC v k) W1 W' ∧ ((e = .returned (.bool true) ∧ J (pre ++ [x]) Y1 W') ∨ (e = .returned (.bool false) ∧ Jx (pre ++ [x]) Y1 W')))
    (Y : Fp) (W : World) (hZ : ∀ k, Z0 k → Y.z k) (hok : Y.ok W.heap.size) (hc : W.cell? ⟨Bs, 0, none⟩ = some (.slice a u.length cap)) (hU : ArgsS W Z0 (.slice a u.length cap) u) (h0 : J [] Y W) :
    Calls Try.prog 141 #[.func (.yield l) #[] #[], .pointer (some ⟨Bs, 0, none⟩)] W fun e W' => (∃ v, e = .returned v) ∧ ((∃ Y', Y'.ok W'.heap.size ∧ J u Y' W') ∨ (∃ pre Y', Y'.ok W'.heap.size ∧ Jx pre Y' W')) := by
  refine (callsIn_wide (n := 5)).1 ?_
  refine callsIn_of_wp Try.func141 rfl trivial ?_ rfl
  simp only [Try.ntmps141, List.size_toArray, List.length_cons, List.length_nil, Nat.reduceAdd, Nat.reduceSub, Array.replicate_succ, Array.replicate_zero, List.push_toArray, List.append_toArray, List.nil_append, List.cons_append]
  have HU := Lib.hid hU
  have HZ := Lib.hid hZ
  have HYY := Lib.hid hY
  have HJ := Lib.hid hJ
  have HS0 := Lib.hid (And.intro hok h0)
  clear hU hZ hY hJ hok h0
  gi_wp2
  gi_loopw [7] (fun i wr => ∃ k : Nat, k ≤ u.length ∧ i = .int .i64 k ∧ Hid (Only (fun k => ¬ Z0 k) W wr) ∧ Hid (J (u.take k) Y wr ∧ Y.ok wr.heap.size)) (fun i _ => u.length - (intOf i).toNat)
  case atStart => exact ⟨0, Nat.zero_le _, rfl, Lib.hid (Only.refl _ _), Lib.hid ⟨HS0.out.2, HS0.out.1⟩⟩
  case round =>
    obtain ⟨k, hk, rfl, HO, HJJ⟩ := hrel
    by_cases hlt : k < u.length
    · have hltI : (k : Int) < (u.length : Int) := by omega
      have hk0 : (0 : Int) ≤ (k : Int) := by omega
      obtain ⟨x, hx⟩ : ∃ x, u[k]? = some x := ⟨_, List.getElem?_eq_getElem hlt⟩
      have hU2 : ArgsS wr Z0 (.slice a u.length cap) u := HU.out.frame HO.out.size fun j hj hlt => HO.out.block j hlt fun h => h hj
      obtain ⟨g, off, u1, u2, rfl, hg, hq, hcc, hu⟩ := hU2.elem hx
      obtain ⟨d0, d1, d2, d3⟩ := hcc wr (Below.refl _ _)
      have hal : Below wr.heap.size wr (wr.alloc (.cells #[.int .i64 x.kind, .int .i64 x.num, .string x.name, .slice u1 x.args.length u2] 25)) := (Below.refl _ _).alloc (Nat.le_refl _) _
      have HAL := Lib.hid hal
      have HX := Lib.hid hx
      have hJ1 : J (u.take k) Y (wr.alloc (.cells #[.int .i64 x.kind, .int .i64 x.num, .string x.name, .slice u1 x.args.length u2] 25)) := HJ.out.grown HJJ.out.1 HJJ.out.2 hal
      have hGG : TmG x #[.agg #[.int .i64 x.kind, .int .i64 x.num, .string x.name, .slice u1 x.args.length u2]] Y (wr.alloc (.cells #[.int .i64 x.kind, .int .i64 x.num, .string x.name, .slice u1 x.args.length u2] 25)) := ⟨_, _, rfl, (hu.kept hal).sub HZ.out⟩
      obtain ⟨fn, tmps, assign, body, hy, hR⟩ := (HYY.out (u.take k) x Y _ _ hJ1 (HJJ.out.2.up hal.size) (take_pre hx) hGG).at 4
      clear hU2 hq hcc hu hal hx hJ1 hGG
      gi_wp2
      refine hR.mono ?_
      rintro e W3 ⟨ho3, ⟨rfl, hJ3⟩ | ⟨rfl, hJ3⟩⟩
      · have HO3 := Lib.hid ho3
        have HJ3 := Lib.hid hJ3
        clear ho3 hJ3 hR hy d0 d1 d2 d3
        gi_wp2
        go_roundw
        case rel =>
          refine ⟨k + 1, by omega, by go_num, Lib.hid ((HO.out.trans (Only.of_below HAL.out)).trans (HO3.out.sub fun j hj hz => hj.elim (fun h => h (.inr (HZ.out j hz))) id)), Lib.hid ⟨?_, (HJJ.out.2.up HAL.out.size).up HO3.out.size⟩⟩
          rw [take_next HX.out]
          exact HJ3.out
        case measure => simp [intOf] <;> omega
      · have HJ3 := Lib.hid hJ3
        have HOK3 := Lib.hid ((HJJ.out.2.up HAL.out.size).up ho3.size)
        clear ho3 hJ3 hR hy d0 d1 d2 d3
        gi_wp2
        refine bodyPost_ret (results_none rfl _ _ _) rfl ?_
        exact ⟨⟨_, rfl⟩, .inr ⟨_, Y, HOK3.out, HJ3.out⟩⟩
    · obtain rfl : k = u.length := by omega
      have HJ3 := Lib.hid HJJ.out
      rw [List.take_length] at HJ3
      gi_wp2
      go_end0
      exact ⟨⟨_, rfl⟩, .inl ⟨Y, HJ3.out.2, HJ3.out.1⟩⟩

theorem valuesT_iter (u : List Tm) (Bs : Nat) (a : Option Addr) (cap : Nat) (Z0 : Nat → Prop) (w : World) (hL : u.length ≤ 1048576) (hBs : Z0 Bs) (hlt : ∀ k, Z0 k → k < w.heap.size) (hc : w.cell? ⟨Bs, 0, none⟩ = some (.slice a u.length cap)) (hU : ArgsS w Z0 (.slice a u.length cap) u) :
    IterAt Try.prog 141 #[.pointer (some ⟨Bs, 0, none⟩)] TmG NoneC u Z0 w := fun l J Jx Y W ho hZ hok hJ hJx hY h0 =>
  valuesT1_any l J Jx hJ u Bs a cap Z0 hL hBs hY Y W hZ hok
    ((World.cell?_of_block (a := ⟨Bs, 0, none⟩) (ho.block Bs (hlt Bs hBs) fun h => h hBs)).trans hc)
    (hU.frame ho.size fun k hk hl => ho.block k hl fun h => h hk) h0

set_option maxHeartbeats 1000000 in
theorem valuesT_any (a : Option Addr) (n cap : Nat) (w : World) :
    Calls Try.prog 121 #[.slice a n cap] w fun e w' => e = .returned (.func (.func 141) #[] #[.pointer (some ⟨w.heap.size, 0, none⟩)]) ∧ w' = w.alloc (.cells #[.slice a n cap] 23) := by
  go_enter Try.func121, Try.ntmps121
  go_wp2
  go_ret
  exact ⟨rfl, rfl⟩
end Go.Proofs.Ytoihimdfmncdoaa

