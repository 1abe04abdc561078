/-
  The program's solver: roomAfter, filled.
-/
import Derived.Test.YtealiilcnmdmdaaGreatKnotJ
namespace Go.Proofs.YtealiilcnmdmdaaGreat
open Go.RowKit
set_option linter.unusedVariables false
set_option linter.unusedSimpArgs false

def Rooms (s : St) : List Tm → Int → Int → Prop
  | [], a, c => a = c
  | x :: l, a, c => ∃ b, RoomS s x a b ∧ Rooms s l b c
theorem rooms_snoc {s : St} {x : Tm} : ∀ {l : List Tm} {a b c : Int}, Rooms s l a b → RoomS s x b c → Rooms s (l ++ [x]) a c
  | [], a, b, c, h, k => by have h' : a = b := h; subst h'; exact ⟨c, k, rfl⟩
  | y :: l, a, b, c, h, k => by
    obtain ⟨d, h1, h2⟩ := h
    exact ⟨d, h1, rooms_snoc h2 k⟩
theorem rooms_take {s : St} {l : List Tm} {k : Nat} {x : Tm} {a b c : Int} (hx : l[k]? = some x) (h : Rooms s (l.take k) a b) (hr : RoomS s x b c) : Rooms s (l.take (k + 1)) a c := by
  rw [take_snoc hx]
  exact rooms_snoc h hr
theorem room_bd {s : St} {t : Tm} {room r : Int} (h : RoomS s t room r) : -1 ≤ r ∧ (r ≤ room ∨ r < 0) := by
  rcases h with ⟨u, _, h0, h1⟩ | ⟨h0, h1, _⟩
  · omega
  · omega
theorem rooms_end {s : St} {E : List (Tm × Tm)} (hI : KInv s E) {t : Tm} {room r : Int} (ht : Ok t) (h0 : 0 ≤ room) (h : Rooms s (meanT s t).args (room - 1) r) : RoomS s t room r := by
  by_cases h4 : (meanT s t).kind = 4
  · obtain ⟨x, y, e, _, _⟩ := good_pair (hI.mean_ok ht).2 h4
    rw [e] at h
    obtain ⟨b, h1, c, h2, h3⟩ := h
    have h3' : c = r := h3
    subst h3'
    exact room_pair hI ht h0 e h1 h2
  · rw [good_leaf (hI.mean_ok ht).2 h4] at h
    have h' : room - 1 = r := h
    subst h'
    exact room_leaf hI ht h0 h4

set_option maxRecDepth 100000 in
set_option maxHeartbeats 4000000 in
theorem solRoom_any (N : Nat) : ∀ (w0 : World) (p : Nat) (s : St) (E : List (Tm × Tm)) (t : Tm) (V : Value) (room : Int) (w : World), (room + 1).toNat < N → SolW w0 p s w → KInv s E → ArgsS w0 (fun k => k < w0.heap.size) V t.args → Ok t → -1 ≤ room → room ≤ 5000 →
    Calls Tryz.prog 81 #[.pointer (some ⟨p, 0, none⟩), .agg #[.int .i64 t.kind, .int .i64 t.num, .string t.name, V], .int .i64 room] w fun e w' => ∃ r : Int, e = .returned (.int .i64 r) ∧ RoomS s t room r ∧ SolW w0 p s w' ∧ Only (fun k => k ∈ s.D) w w' := by
  induction N with
  | zero => intro w0 p s E t V room w hN; omega
  | succ N ih =>
    intro w0 p s E t V room w hN h hI hA hO hr0 hr1
    obtain ⟨aa, ca, rfl⟩ := hA.at.slice
    have HW := Lib.hid (belowAlloc (Below.refl w.heap.size w) (.cells #[.int .i64 t.kind, .int .i64 t.num, .string t.name, .slice aa t.args.length ca] 27))
    have HX := Lib.hid (at_box_of w #[.int .i64 t.kind, .int .i64 t.num, .string t.name, .slice aa t.args.length ca] 27 w.heap.size rfl)
    have HS := Lib.hid h
    by_cases hneg : room < 0
    · have HR := Lib.hid (And.intro (room_neg (s := s) (t := t) hneg hr0) (And.intro (h.kept HW.out) (Only.of_below (S := fun k => k ∈ s.D) HW.out)))
      clear HX ih h hI hA hO HS HW
      go_enter Tryz.func81, Tryz.ntmps81
      go_wp2
      go_ret
      exact ⟨room, rfl, HR.out.1, HR.out.2.1, HR.out.2.2⟩
    have hpos : 0 ≤ room := by omega
    have HI := Lib.hid ih
    have HK := Lib.hid hI
    have HO := Lib.hid hO
    have HA := Lib.hid hA
    have HEN := Lib.hid (fun (r : Int) h => rooms_end (r := r) hI hO hpos h)
    have HMO := Lib.hid (hI.mean_ok hO)
    have HC := Lib.hid (meaning_any w0 p s t _ _ (h.kept HW.out) hI.pre2 hA hO)
    clear h hI hA hO hneg ih
    unfold MeanP at HC
    generalize meanT s t = m at HC HEN HMO
    go_enter Tryz.func81, Tryz.ntmps81
    go_wp2_with fail
    refine HC.out.mono ?_
    rintro e w1 ⟨u, rfl, hu, hs1, ho1⟩
    have HS1 := Lib.hid hs1
    have HO1 := Lib.hid ((Only.of_below (S := fun k => k ∈ s.D) HW.out).trans ho1)
    obtain ⟨ma, mc, rfl⟩ := hu.at.slice
    have HU := Lib.hid hu
    clear hu hs1 ho1 HC HX
    have hml : m.args.length ≤ 2 := by
      by_cases h4 : m.kind = 4
      · obtain ⟨x, y, e, _, _⟩ := good_pair HMO.out.2 h4
        rw [e]; exact Nat.le_refl _
      · rw [good_leaf HMO.out.2 h4]; exact Nat.zero_le _
    have hfd : ∀ W : World, (Instr.field 27 (.agg #[.int .i64 m.kind, .int .i64 m.num, .string m.name, .slice ma m.args.length mc]) 3).run Tryz.prog W = .ok (.slice ma m.args.length mc) W := fun _ => by kernel_rfl
    go_wp2
    clear hfd
    go_loopw [2, 19] (fun rv iv wr => ∃ (k : Nat) (r : Int), k ≤ m.args.length ∧ iv = .int .i64 k ∧ rv = .int .i64 r ∧ -1 ≤ r ∧ r ≤ room - 1 ∧ Hid (Rooms s (m.args.take k) (room - 1) r) ∧ Hid (SolW w0 p s wr ∧ Only (fun k => k ∈ s.D) w wr)) (fun _ iv _ => m.args.length - (intOf iv).toNat)
    case atStart => exact ⟨0, room - 1, Nat.zero_le _, rfl, by go_num, by omega, by omega, Lib.hid rfl, Lib.hid ⟨HS1.out, HO1.out⟩⟩
    case round =>
      obtain ⟨k, r, hk, rfl, rfl, hr0', hr1', HRK, HB⟩ := hrel
      clear HS1 HO1
      by_cases hlt : k < m.args.length
      · have hltI : (k : Int) < (m.args.length : Int) := by omega
        obtain ⟨x, hx⟩ : ∃ x, m.args[k]? = some x := ⟨_, List.getElem?_eq_getElem hlt⟩
        obtain ⟨g, off, u1, u2, rfl, hg, hq, hc, hu⟩ := HU.out.elem hx
        obtain ⟨d0, d1, d2, d3⟩ := hc wr HB.out.1.old
        have hgl : g < wr.heap.size := Nat.lt_of_lt_of_le hg HB.out.1.old.size
        have hxo : Ok x := ⟨by have h0 := nodes_at hx; have h1 := HMO.out.1; have h2 := nodes_eq m; omega, HMO.out.2.each hx⟩
        have HBX := Lib.hid (belowAlloc (Below.refl wr.heap.size wr) (.cells #[.int .i64 x.kind, .int .i64 x.num, .string x.name, .slice u1 x.args.length u2] 27))
        have HC := Lib.hid (HI.out w0 p s E x (.slice u1 x.args.length u2) r _ (by omega) (HB.out.1.kept HBX.out) HK.out hu hxo hr0' (by omega))
        have HNX := Lib.hid hx
        clear hc hu hx hq hg hxo
        go_wp2_with fail
        refine HC.out.mono ?_
        rintro e w3 ⟨r', rfl, hr', hs3, ho3⟩
        have hb := room_bd hr'
        have HR3 := Lib.hid (rooms_take HNX.out HRK.out hr')
        have HB3 := Lib.hid (And.intro hs3 ((HB.out.2.trans (Only.of_below (S := fun k => k ∈ s.D) HBX.out)).trans ho3))
        clear HC hr' d0 d1 d2 d3 hs3 ho3
        go_wp2
        go_roundw
        case rel => exact ⟨k + 1, r', by omega, by go_num, rfl, by omega, by omega, HR3, HB3⟩
        case measure => simp [intOf]; omega
      · obtain rfl : k = m.args.length := by omega
        have HRF := HRK
        rw [List.take_length] at HRF
        have HE := Lib.hid (HEN.out r HRF.out)
        clear HEN
        go_wp2
        go_ret
        exact ⟨r, rfl, HE.out, HB.out.1, HB.out.2⟩
end Go.Proofs.YtealiilcnmdmdaaGreat

