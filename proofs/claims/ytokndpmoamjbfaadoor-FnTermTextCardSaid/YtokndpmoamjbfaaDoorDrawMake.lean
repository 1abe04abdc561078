/-
  Terms drawn by the laws: MakeTerm, MakeTerms, MakeSize.
-/
import Derived.Test.YtokndpmoamjbfaaDoorDrawTerm
namespace Go.Proofs.YtokndpmoamjbfaaDoor
open Go.RowKit
set_option linter.unusedVariables false
set_option linter.unusedSimpArgs false

theorem ready_new {a : Option Addr} {len cap : Nat} {w w1 : World} {p : Nat} (hb : Bytes w a len) (hl : len ≤ 1048576) (hc : Cur w1 p a len cap) (h1 : w.heap.size ≤ p) (h2 : p < w1.heap.size) (h3 : Below w.heap.size w w1) : Ready w p a len cap w1 := ⟨hb, hl, h1, h2, h3, hc⟩

/-- The answer is a term of the right form and at most so many nodes. -/
def MadeT (n : Int) (w : World) (e : Ending) (w' : World) : Prop :=
  ∃ (t : Tm) (x : Option Addr) (c : Nat), e = .returned (.agg #[.int .i64 t.kind, .int .i64 t.num, .string t.name, .slice x t.args.length c]) ∧ ArgsAt w' (.slice x t.args.length c) t.args ∧ Good t ∧ (t.nodes : Int) ≤ n ∧ Below w.heap.size w w'

/-- The answer is a list of so many terms of the right form, at most so many nodes each. -/
def MadeL (m : Nat) (n : Int) (w : World) (e : Ending) (w' : World) : Prop :=
  ∃ (xs : List Tm) (x : Option Addr) (c : Nat), e = .returned (.slice x xs.length c) ∧ xs.length = m ∧ (∀ t ∈ xs, Good t ∧ (t.nodes : Int) ≤ n) ∧ ArgsAt w' (.slice x xs.length c) xs ∧ Below w.heap.size w w'

set_option maxHeartbeats 2000000 in
set_option maxRecDepth 100000 in
theorem makeTerms_any (a : Option Addr) (len cap n m : Nat) (v : Int) (w : World) (hb : Bytes w a len) (hl : len ≤ 1048576) (hn : n ≤ 1000000) (hm : m ≤ 1000) (h2 : 0 < v) (h3 : v ≤ 256) :
    Calls Tryd.prog 8 #[.slice a len cap, .int .i64 n, .int .i64 m, .int .i64 v] w (MadeL m 11 w) := by
  obtain ⟨i0, hi0, hz0, hz1, hz2⟩ := info_parts infoTerm
  have HII := Lib.hid (And.intro hi0 (And.intro hz0 (And.intro hz1 hz2)))
  clear hi0 hz0 hz1 hz2
  have HB := Lib.hid hb
  clear hb
  go_enter Tryd.func8, Tryd.ntmps8
  go_wp2_with fail
  refine (newAt_any a len cap n w HB.out hl hn).mono ?_
  rintro e w1 ⟨p, rfl, hcur, hp1, hp2, hb1⟩
  have HG := Lib.hid ((ready_new HB.out hl hcur hp1 hp2 hb1).below (belowAlloc (Below.refl _ _) (.cells #[] 26)))
  have HE0 := Lib.hid (at_box w1 #[] 26)
  have hs1 := hb1.size
  have HRW : Hid (RowS (w1.alloc (.cells #[] 26)) (p + 1) (.slice (some ⟨w1.heap.size, 0, none⟩) 0 0) []) := Lib.hid ⟨[], rfl, ⟨rfl, .inr ⟨w1.heap.size, 0, #[], rfl, by omega, HE0.out.now, Nat.le_refl _, Nat.zero_le _, rfl, rfl⟩⟩, fun j p hj => by simp at hj⟩
  clear hcur hb1 HE0
  go_wp2
  go_loopw [10, 11] (fun lv iv wr => ∃ (xs : List Tm), iv = .int .i64 xs.length ∧ xs.length ≤ m ∧ Hid (RowS wr (p + 1) lv xs) ∧ Hid (∀ t ∈ xs, Good t ∧ (t.nodes : Int) ≤ 11) ∧ Hid (Ready w p a len cap wr)) (fun _ iv _ => m - (intOf iv).toNat)
  case atStart => exact ⟨[], rfl, Nat.zero_le _, HRW, Lib.hid (fun t ht => by simp at ht), HG⟩
  case round =>
    obtain ⟨xs, rfl, hk, HO, HX, HGr⟩ := hrel
    obtain ⟨sa, sc, rfl⟩ := HO.out.slice
    clear HG HRW
    by_cases hlt : xs.length < m
    · have HD := Lib.hid (drawTerm_any w p a len cap v h2 h3 7 6 wr (by omega) (by omega) (by omega) HGr.out)
      have hpr := HGr.out.hi
      go_wp2_with fail
      refine HD.out.mono ?_
      rintro e wC ⟨x, ua, uc, rfl, hu, hgx, hnx, hr, ho⟩
      have HMID : Hid (∀ k, (Value.slice sa xs.length sc).ownBlock = some k → p + 1 ≤ k ∧ k < wr.heap.size) := Lib.hid (by
        obtain ⟨L, hL, hrow, _⟩ := HO.out
        exact fun k hk => World.ownsRow.lt hrow k hk)
      have HOC := Lib.hid (HO.out.frame ho.size (fun k hk hks => ho.block k hks (fun hh => by have := hh.2; omega)))
      have HGC := Lib.hid hr
      have HU := Lib.hid hu
      have HXG := Lib.hid (And.intro hgx hnx)
      have hsC := ho.size
      clear hu hr ho hgx hnx HD HO HGr
      obtain ⟨L, hL, hrow, hch⟩ := HOC.out
      have hLn : xs.length = L.length := by rw [← hL, List.length_map]
      rw [← hLn] at hrow
      have HROW := Lib.hid hrow
      have HPA := Lib.hid (And.intro hL (And.intro hLn hch))
      clear hL hLn hrow hch
      go_wp2_with (at_builtin; refine wpList_append_lies _ rfl _ _ 23 rfl (p + 1) 26 i0 _ 4 56 Tryd.underlying23 HII.out.1 HII.out.2.1 HII.out.2.2.1 HII.out.2.2.2 rfl (by omega) (.slice sa xs.length sc) xs.length (cellsL L) rfl (HROW.out.alloc _) ⟨wC.heap.size, 0, none⟩ 1 1 (cells4 x (.slice ua x.args.length uc)) rfl rfl (World.news_of_block (heap_alloc_new wC _)) (by simp [cells4, Value.oneCell']) (by omega) (by unfold maxLen; omega) (by omega) (by simp; omega) (wC.heap.size + 1) (by simp) ?_; intro gg cap' w1' hown1 hgrow hat hlt1; have HAP := Lib.hid (And.intro hown1 (And.intro hgrow (And.intro hat hlt1))); clear hown1 hgrow hat hlt1)
      have hgs := HAP.out.2.1.size
      simp only [World.size_alloc] at hgs
      have HO1 : Hid (RowS w1' (p + 1) (.slice (some ⟨gg, 0, none⟩) (xs.length + 1) cap') (xs ++ [x])) := Lib.hid (by
        have h := rowS_append (mid := wr.heap.size) HPA.out.2.1 HROW.out HPA.out.2.2 HU.out (fun k hk => (HMID.out k hk).2) (by omega) (belowAlloc (Below.refl _ _) _) HAP.out.1 HAP.out.2.1 (HAP.out.2.2.1.imp id (fun h => by omega))
        rw [HPA.out.1] at h
        exact h)
      have HG1 : Hid (Ready w p a len cap w1') := Lib.hid (by
        have hg0 := HGC.out.below (belowAlloc (Below.refl _ _) (.cells #[.int .i64 x.kind, .int .i64 x.num, .string x.name, .slice ua x.args.length uc] 26))
        obtain ⟨i, y, hi, hh⟩ := hg0.cur
        have hbg := HAP.out.2.1
        have hne : ∀ k, (Value.slice sa xs.length sc).ownBlock = some k → w.heap.size ≤ k ∧ ¬ k = p := fun k hk => by have := (HMID.out k hk).1; omega
        exact ⟨hg0.bytes, hg0.most, hg0.lo, Nat.lt_of_lt_of_le hg0.hi hbg.size, hg0.old.trans (below_of_grown hbg hg0.old.size (fun k hk => (hne k hk).1)), i, y, hi, (hbg.block p hg0.hi (fun e => (hne p e.symm).2 rfl)).trans hh⟩)
      clear HROW HPA HU HAP HGC HOC
      go_wp2
      go_roundw
      case rel => exact ⟨xs ++ [x], by simp, by simp; omega, by simpa using HO1, Lib.hid (fun t ht => by
        rcases List.mem_append.1 ht with h | h
        · exact HX.out t h
        · simp at h; subst h; exact ⟨HXG.out.1, HXG.out.2⟩), HG1⟩
      case measure => simp [intOf]; omega
    · have hkk : xs.length = m := by omega
      go_wp2
      go_ret
      exact ⟨xs, sa, sc, rfl, hkk, HX.out, HO.out.args.at, HGr.out.old⟩
end Go.Proofs.YtokndpmoamjbfaaDoor

