/-
  The drawing of inputs in the laws: a cursor in a block of its own; each draw answers some number within its bounds.
-/
import Derived.Test.YtnmdnajbafpfiaaBase
import Derived.WalkLawsBesides
import Derived.Deep.QuietTactic
import Derived.BigQuiet
import Derived.Laws.BitsAllLaws
namespace Go.Proofs.Ytnmdnajbafpfiaa
open Go.RowKit

/-- What a slice of bytes that came in reads as. -/
def ByteRow (w : World) (a : Option Addr) (len cap : Nat) (zs : List Int) : Prop :=
  (a = none ∧ len = 0 ∧ cap = 0 ∧ zs = []) ∨
  ∃ x, a = some x ∧ len ≤ cap ∧ cap ≤ maxLen ∧ zs.length = cap ∧ (∀ i, i < zs.length → w.cell? (x.add i) = some (.int .u8 (zs.getD i 0))) ∧ ∀ n ∈ zs, (Lit.int .u8 n).wf = true
/-- What the draws need of the bytes: each place holds a byte. -/
def Bytes (w : World) (a : Option Addr) (len : Nat) : Prop :=
  len = 0 ∨ ∃ g off, a = some ⟨g, off, none⟩ ∧ g < w.heap.size ∧ ∀ j, j < len → ∃ c : Int, 0 ≤ c ∧ c ≤ 255 ∧ w.cell? ⟨g, off + j, none⟩ = some (.int .u8 c)
theorem Bytes.kept {w w' : World} {a : Option Addr} {len : Nat} (h : Bytes w a len) (hb : Below w.heap.size w w') : Bytes w' a len := by
  rcases h with h | ⟨g, off, ha, hg, hc⟩
  · exact .inl h
  · refine .inr ⟨g, off, ha, Nat.lt_of_lt_of_le hg hb.size, fun j hj => ?_⟩
    obtain ⟨c, h0, h1, h2⟩ := hc j hj
    exact ⟨c, h0, h1, (hb.cell (p := ⟨g, off + j, none⟩) hg).trans h2⟩
theorem ByteRow.bytes {w : World} {a : Option Addr} {len cap : Nat} {zs : List Int} (h : ByteRow w a len cap zs) : Bytes w a len ∧ len ≤ maxLen := by
  rcases h with ⟨rfl, rfl, rfl, rfl⟩ | ⟨x, rfl, hl, hm, hz, hc, hs⟩
  · exact ⟨.inl rfl, Nat.zero_le _⟩
  · refine ⟨?_, by omega⟩
    by_cases h0 : len = 0
    · exact .inl h0
    · obtain ⟨g, off, spot⟩ := x
      have c0 := hc 0 (by omega)
      have hspot : spot = none := by simpa [Addr.add] using World.cell?_spot c0
      subst hspot
      refine .inr ⟨g, off, rfl, ?_, fun j hj => ?_⟩
      · have := World.block_lt_of_cell? w _ c0
        simpa [Addr.add] using this
      · have hadd : (⟨g, off, none⟩ : Addr).add j = ⟨g, off + j, none⟩ := by unfold Addr.add; split <;> simp_all
        have h1 := hc j (by omega)
        rw [hadd] at h1
        have hw := hs (zs.getD j 0) (by rw [List.getD_eq_getElem?_getD, List.getElem?_eq_getElem (by omega)]; exact List.getElem_mem _)
        have hb : 0 ≤ zs.getD j 0 ∧ zs.getD j 0 ≤ 255 := by simpa [Lit.wf, IntKind.min, IntKind.max, IntKind.signed, IntKind.bits] using hw
        exact ⟨_, hb.1, hb.2, h1⟩

theorem and255 (x : Int) : 0 ≤ bits .and .i64 x 255 ∧ bits .and .i64 x 255 ≤ 255 := by
  have h : bits .and .i64 x 255 = IntKind.i64.wrap ((BitVec.ofInt 64 x &&& BitVec.ofInt 64 255).toNat : Int) := rfl
  have h2 : (BitVec.ofInt 64 x &&& BitVec.ofInt 64 255).toNat ≤ 255 := by
    rw [BitVec.toNat_and]
    exact Nat.le_trans Nat.and_le_right (by decide)
  rw [h, IntKind.wrap_i64]
  omega

/-- A cursor: its block of three cells. -/
def Cur (w : World) (p : Nat) (a : Option Addr) (len cap : Nat) : Prop :=
  ∃ (i : Nat) (h : Int), i ≤ 9223372036854775806 ∧ w.heap[p]? = some (.cells #[.slice a len cap, .int .i64 i, .int .i64 h] 109 (0, 0))

theorem Cur.drewN {w : World} {p : Nat} {a : Option Addr} {len cap : Nat} (h : Cur w p a len cap) (n : Nat) : Cur (w.drewN n) p a len cap := by
  obtain ⟨i, hv, hi, hh⟩ := h
  exact ⟨i, hv, hi, ((below_drewN (Below.refl (p + 1) w) n).block p (Nat.lt_succ_self p)).trans hh⟩
theorem grown_set (w : World) (p j : Nat) (u : Value) : w.grownBy (w.setCell ⟨p, j, none⟩ u) (some p) :=
  ⟨rfl, rfl, rfl, by simp [World.setCell], fun k _ hk => Below.heap_setCell _ _ _ _ (fun e => hk (by rw [e]))⟩
theorem grown_drewN (w : World) (n : Nat) (r : Option Nat) : w.grownBy (w.drewN n) r := grown_of_below (below_drewN (Below.refl _ _) n) r
theorem heap_set {w : World} {p : Nat} {x y z : Value} {t : TypeId} (h : w.heap[p]? = some (.cells #[x, y, z] t (0, 0))) (u : Value) :
    (w.setCell ⟨p, 1, none⟩ u).heap[p]? = some (.cells #[x, u, z] t (0, 0)) ∧ (w.setCell ⟨p, 2, none⟩ u).heap[p]? = some (.cells #[x, y, u] t (0, 0)) :=
  ⟨heap_setCell_same w p 1 _ _ u h, heap_setCell_same w p 2 _ _ u h⟩
theorem heap_drewN (w : World) (n p : Nat) : (w.drewN n).heap[p]? = w.heap[p]? := (below_drewN (Below.refl (p + 1) w) n).block p (Nat.lt_succ_self p)
def DrawPost (p : Nat) (a : Option Addr) (len cap : Nat) (lo hi : Int) (w : World) (e : Ending) (w' : World) : Prop :=
  ∃ r : Int, e = .returned (.int .i64 r) ∧ lo ≤ r ∧ r ≤ hi ∧ Cur w' p a len cap ∧ w.grownBy w' (some p)

set_option maxHeartbeats 1000000 in
set_option maxRecDepth 100000 in
theorem byte_any (p : Nat) (a : Option Addr) (len cap : Nat) (w : World) (hc : Cur w p a len cap) (hb : Bytes w a len) (hp : 0 < len → ∀ g off, a = some ⟨g, off, none⟩ → g ≠ p) (hl : len ≤ 1048576) :
    Calls Try.prog 40 #[.pointer (some ⟨p, 0, none⟩)] w (DrawPost p a len cap 0 255 w) := by
  obtain ⟨i, h, hi, hh⟩ := hc
  have c0 : w.cell? ⟨p, 0, none⟩ = some (.slice a len cap) := cell_of_row w p 0 _ _ _ hh
  have c1 : w.cell? ⟨p, 1, none⟩ = some (.int .i64 i) := cell_of_row w p 1 _ _ _ hh
  have c2 : w.cell? ⟨p, 2, none⟩ = some (.int .i64 h) := cell_of_row w p 2 _ _ _ hh
  have f1 : w.frozen? ⟨p, 1, none⟩ = false := frozen_of_row w p 1 _ _ hh
  have f2 : w.frozen? ⟨p, 2, none⟩ = false := frozen_of_row w p 2 _ _ hh
  have HH := Lib.hid hh
  by_cases hlt : i < len
  · obtain ⟨g, off, rfl, hg, hcc⟩ : ∃ g off, a = some ⟨g, off, none⟩ ∧ g < w.heap.size ∧ ∀ j, j < len → ∃ c : Int, 0 ≤ c ∧ c ≤ 255 ∧ w.cell? ⟨g, off + j, none⟩ = some (.int .u8 c) := by
      rcases hb with h | h
      · omega
      · exact h
    obtain ⟨c, hc0, hc1, hcell⟩ := hcc i hlt
    have hgp := hp (by omega) g off rfl
    clear hcc hb hp hh
    go_enter Try.func40, Try.ntmps40
    go_wp2
    go_quiet (fail)
    go_wp2
    go_quiet (fail)
    go_wp2
    go_quiet (fail)
    go_wp2
    go_ret
    have h2 := heap_set HH.out (.int .i64 (wrap64 (wrap64 (h * 6364136223846793005) + 1442695040888963407)))
    refine ⟨_, rfl, (and255 _).1, (and255 _).2, ?_, ?_⟩
    · exact ⟨i + 1, _, by omega, by rw [show ((i + 1 : Nat) : Int) = (i : Int) + 1 from by omega]; repeat rw [heap_drewN]
                                    first | exact (heap_set h2.2 _).1 | exact (heap_set (by repeat rw [heap_drewN]
                                                                                            exact h2.2) _).1⟩
    · repeat (first | exact grown_refl _ _ | exact grown_set _ _ _ _ | refine grown_trans ?_ (grown_drewN _ _ _) | refine grown_trans ?_ (grown_set _ p _ _))
  · clear hb hp hh
    go_enter Try.func40, Try.ntmps40
    go_wp2
    go_quiet (fail)
    go_wp2
    go_quiet (fail)
    go_wp2
    go_ret
    refine ⟨_, rfl, (and255 _).1, (and255 _).2, ?_, ?_⟩
    · exact ⟨i, _, hi, by rw [heap_drewN, heap_drewN]; exact (heap_set HH.out _).2⟩
    · exact grown_trans (grown_set w p 2 _) (grown_trans (grown_drewN _ _ _) (grown_drewN _ _ _))

def NewPost (a : Option Addr) (len cap : Nat) (w : World) (e : Ending) (w' : World) : Prop :=
  ∃ p, e = .returned (.pointer (some ⟨p, 0, none⟩)) ∧ Cur w' p a len cap ∧ w.heap.size ≤ p ∧ p < w'.heap.size ∧ Below w.heap.size w w'

set_option maxHeartbeats 1000000 in
theorem cursor_any (a : Option Addr) (len cap : Nat) (w : World) (hb : Bytes w a len) (hl : len ≤ 1048576) :
    Calls Try.prog 64 #[.slice a len cap] w (NewPost a len cap w) := by
  have HB := Lib.hid hb
  clear hb
  go_enter Try.func64, Try.ntmps64
  go_wp2
  go_loop [3, 4] (fun hv iv => ∃ (k : Nat) (h : Int), k ≤ len ∧ iv = .int .i64 k ∧ hv = .int .i64 h) (fun _ iv => len - (intOf iv).toNat)
  case atStart => exact ⟨0, _, Nat.zero_le _, rfl, rfl⟩
  case round =>
    obtain ⟨k, h, hk, rfl, rfl⟩ := hrel
    by_cases hlt : k < len
    · obtain ⟨g, off, rfl, hg, hcc⟩ : ∃ g off, a = some ⟨g, off, none⟩ ∧ g < w.heap.size ∧ ∀ j, j < len → ∃ c : Int, 0 ≤ c ∧ c ≤ 255 ∧ w.cell? ⟨g, off + j, none⟩ = some (.int .u8 c) := by
        rcases HB.out with h | h
        · omega
        · exact h
      obtain ⟨c, hc0, hc1, hcell⟩ := hcc k hlt
      clear hcc
      by_cases h4 : k < 4000
      · have hd : decide ((k : Int) < 4000) = true := by simp; omega
        go_wp2
        go_round
        case rel => exact ⟨k + 1, _, by omega, by go_num, rfl⟩
        case measure => simp [intOf]; omega
      · have hd : decide ((k : Int) < 4000) = false := by simp; omega
        go_wp2
        go_ret
        exact ⟨_, rfl, ⟨0, h, by omega, heap_alloc_new w _⟩, Nat.le_refl _, by simp, (Below.refl _ _).alloc (Nat.le_refl _) _⟩
    · go_wp2
      go_ret
      exact ⟨_, rfl, ⟨0, h, by omega, heap_alloc_new w _⟩, Nat.le_refl _, by simp, (Below.refl _ _).alloc (Nat.le_refl _) _⟩

theorem Bytes.apart {w : World} {a : Option Addr} {len p : Nat} (h : Bytes w a len) (hp : w.heap.size ≤ p) : 0 < len → ∀ g off, a = some ⟨g, off, none⟩ → g ≠ p := by
  intro h0 g off ha
  rcases h with h | ⟨g', off', ha', hg, _⟩
  · omega
  · rw [ha] at ha'
    simp only [Option.some.injEq, Addr.mk.injEq] at ha'
    omega
theorem grown_to_below {w w1 w2 : World} {p : Nat} (h : Below w.heap.size w w1) (hp : w.heap.size ≤ p) (hg : w1.grownBy w2 (some p)) : Below w.heap.size w w2 :=
  h.trans (below_of_grown hg h.size (fun k hk => by cases hk; exact hp))

set_option maxHeartbeats 1000000 in
theorem newAt_any (a : Option Addr) (len cap n : Nat) (w : World) (hb : Bytes w a len) (hl : len ≤ 1048576) (hn : n ≤ 1000000) :
    Calls Try.prog 34 #[.slice a len cap, .int .i64 n] w (NewPost a len cap w) := by
  have HB := Lib.hid hb
  have HC := Lib.hid (cursor_any a len cap w hb hl)
  clear hb
  go_enter Try.func34, Try.ntmps34
  go_wp2_with fail
  refine HC.out.mono ?_
  rintro e w1 ⟨p, rfl, hcur, hp1, hp2, hb1⟩
  have HU := Lib.hid hcur
  have HB1 := Lib.hid hb1
  clear hcur hb1
  go_wp2
  go_loopw [6] (fun iv wr => ∃ k : Nat, k ≤ n ∧ iv = .int .i64 k ∧ Cur wr p a len cap ∧ Below w.heap.size w wr ∧ w1.heap.size ≤ wr.heap.size) (fun iv _ => n - (intOf iv).toNat)
  case atStart => exact ⟨0, Nat.zero_le _, rfl, HU.out, HB1.out, Nat.le_refl _⟩
  case round =>
    obtain ⟨k, hk, rfl, hcur, hb1, hsz⟩ := hrel
    have HU2 := Lib.hid hcur
    have HB2 := Lib.hid hb1
    clear hcur hb1
    by_cases hlt : k < n
    · go_wp2_with fail
      refine (byte_any p a len cap wr HU2.out (HB.out.kept HB2.out) (HB.out.apart hp1) hl).mono ?_
      rintro e w2 ⟨r, rfl, hr0, hr1, hc2, hg2⟩
      have HU3 := Lib.hid hc2
      have HG3 := Lib.hid hg2
      clear hc2 hg2
      go_wp2
      go_roundw
      case rel => exact ⟨k + 1, by omega, by go_num, HU3.out, grown_to_below HB2.out hp1 HG3.out, Nat.le_trans hsz HG3.out.size⟩
      case measure => simp [intOf]; omega
    · go_wp2
      go_ret
      exact ⟨p, rfl, HU2.out, hp1, by omega, HB2.out⟩

set_option maxHeartbeats 1000000 in
theorem makeNum_any (a : Option Addr) (len cap n : Nat) (w : World) (hb : Bytes w a len) (hl : len ≤ 1048576) (hn : n ≤ 1000000) :
    Calls Try.prog 10 #[.slice a len cap, .int .i64 n] w fun e w' => (∃ r : Int, e = .returned (.int .i64 r) ∧ 0 ≤ r ∧ r ≤ 65535) ∧ Below w.heap.size w w' := by
  have HB := Lib.hid hb
  have HC := Lib.hid (newAt_any a len cap n w hb hl hn)
  have HPOST : Hid (∀ (r : Int) (w' : World), 0 ≤ r → r ≤ 65535 → Below w.heap.size w w' → (∃ r' : Int, Ending.returned (.int .i64 r) = .returned (.int .i64 r') ∧ 0 ≤ r' ∧ r' ≤ 65535) ∧ Below w.heap.size w w') := Lib.hid (fun r w' h0 h1 h2 => ⟨⟨r, rfl, h0, h1⟩, h2⟩)
  clear hb
  go_enter Try.func10, Try.ntmps10
  go_wp2_with fail
  refine HC.out.mono ?_
  rintro e w1 ⟨p, rfl, hcur, hp1, hp2, hb1⟩
  have HU := Lib.hid hcur
  have HB1 := Lib.hid hb1
  clear hcur hb1
  go_wp2_with fail
  refine (byte_any p a len cap w1 HU.out (HB.out.kept HB1.out) (HB.out.apart hp1) hl).mono ?_
  rintro e w2 ⟨r, rfl, hr0, hr1, hc2, hg2⟩
  have HU2 := Lib.hid hc2
  have HB2 := Lib.hid (grown_to_below HB1.out hp1 hg2)
  clear hc2 hg2
  go_wp2_with fail
  refine (byte_any p a len cap w2 HU2.out (HB.out.kept HB2.out) (HB.out.apart hp1) hl).mono ?_
  rintro e w3 ⟨r', rfl, hr0', hr1', hc3, hg3⟩
  have HB3 := Lib.hid (grown_to_below HB2.out hp1 hg3)
  clear hc3 hg3
  go_wp2
  go_ret
  exact HPOST.out _ _ (by omega) (by omega) HB3.out
end Go.Proofs.Ytnmdnajbafpfiaa

