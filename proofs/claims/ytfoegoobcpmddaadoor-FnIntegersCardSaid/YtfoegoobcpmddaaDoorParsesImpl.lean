/-
  The contract of impl.ParseInts.
-/
import Derived.Test.YtfoegoobcpmddaaDoorParses
namespace Go.Proofs.YtfoegoobcpmddaaDoor
open Go.RowKit

/-- The library's variable MaxLen holds an integer. -/
def MaxL (w : World) : Prop := ∃ m : Int, w.cell? ⟨3, 0, none⟩ = some (.int .i64 m)
theorem MaxL.kept {w w' : World} (h : MaxL w) (hb : Below w.heap.size w w') : MaxL w' := by
  obtain ⟨m, c⟩ := h
  exact ⟨m, (hb.cell (World.block_lt_of_cell? w _ c)).trans c⟩
theorem TabErrs.kept {w w' : World} (h : TabErrs w) (hb : Below w.heap.size w w') : TabErrs w' := ⟨h.1.kept hb, h.2.kept hb⟩
/-- What ParseInts asks of the library's variables. -/
def Vars (w : World) : Prop := TabErrs w ∧ MaxL w
theorem Vars.kept {w w' : World} (h : Vars w) (hb : Below w.heap.size w w') : Vars w' := ⟨h.1.kept hb, h.2.kept hb⟩

theorem split_facts (s : ByteArray) : ∃ Q : List ByteArray, Q = Lib.splitB sp 0 (Lib.countB s sp) s ∧ Q.length = Lib.countB s sp + 1 ∧ Q.map (·.data.toList) = pl s.data.toList ∧ (∀ q ∈ Q, q.data.toList ∈ pl s.data.toList) ∧ Q.length ≤ s.size + 1 := by
  obtain ⟨h1, h2⟩ := split_pl s.size s (Nat.le_refl _)
  refine ⟨_, rfl, h2, h1, fun q hq => ?_, ?_⟩
  · rw [← h1]; exact List.mem_map_of_mem hq
  · rw [h2]
    have := Lib.countB_le sp (by decide) s.size s (Nat.le_refl _)
    omega
theorem pl_piece_len (s : ByteArray) (p : List UInt8) (hp : p ∈ pl s.data.toList) : p.length ≤ s.size := by
  have key : ∀ l : List UInt8, ∀ p ∈ pl l, p.length ≤ l.length := by
    intro l
    induction l with
    | nil => intro p hp; simp [pl] at hp; subst hp; exact Nat.le_refl _
    | cons c r ih =>
      intro p hp
      rw [pl] at hp
      split at hp
      · rcases List.mem_cons.1 hp with rfl | hp
        · simp
        · have := ih p hp; simp; omega
      · split at hp
        · rw [List.mem_singleton.1 hp]; simp
        · rename_i h t heq
          rcases List.mem_cons.1 hp with rfl | hp
          · have := ih h (by rw [heq]; simp)
            simp; omega
          · have := ih p (by rw [heq]; exact List.mem_cons_of_mem _ hp)
            simp; omega
  have := key _ p hp
  have := Lib.size_eq s
  omega

set_option maxHeartbeats 1000000 in
set_option maxRecDepth 100000 in
theorem implParses_any (s : ByteArray) (w : World) (hv : Vars w) (hs : s.size ≤ 1048576) :
    Calls Tryd.prog 11 #[.string s] w (IntsPost (parsesOf s.data.toList) w) := by
  obtain ⟨i0, hi, hz0, hz1, hz2⟩ := info_parts infoInt
  by_cases h0 : s.size = 0
  · have hl : s.data.toList = [] := by have := Lib.size_eq s; exact List.length_eq_zero_iff.1 (by omega)
    have HP : Hid (parsesOf s.data.toList = ([], true)) := Lib.hid (if_pos hl)
    have h1 : s.toList.isEmpty = true := by rw [Lib.toList_data, hl]; rfl
    clear hl h0 hv
    go_enter Tryd.func11, Tryd.ntmps11
    go_wp2
    go_ret2
    exact ⟨_, by rw [HP.out]; rfl, by rw [HP.out]; exact Row.nil _ _ _, Below.refl _ _⟩
  · have hne : s.data.toList ≠ [] := by intro e; have := Lib.size_eq s; rw [e] at this; exact h0 (by simpa using this)
    have h1 : s.toList.isEmpty = false := by
      rw [Lib.toList_data]
      cases h : s.data.toList with
      | nil => exact absurd h hne
      | cons a b => rfl
    have HP := Lib.hid (parses_ne hne)
    obtain ⟨Q, hQ, hQl, hQm, hQp, hQs⟩ := split_facts s
    have HNO : Hid (∀ q, q ∈ Q → (parseOf q.data.toList).2 = false → parsesOf s.data.toList = ([], false)) := Lib.hid (fun q h1 h2 => by rw [HP.out]; exact nums_no (hQp q h1) h2)
    have HYES : Hid (allOk (Q.map (·.data.toList)) → parsesOf s.data.toList = ((Q.map (·.data.toList)).map val1, true)) := Lib.hid (fun h2 => by rw [HP.out, ← hQm]; exact nums_yes h2)
    have HSZ : Hid (∀ q, q ∈ Q → q.size ≤ s.size) := Lib.hid (fun q hq => by have := pl_piece_len s _ (hQp q hq); have := Lib.size_eq q; omega)
    obtain ⟨m, hm⟩ := hv.2
    have HV := Lib.hid hv.1
    have HSP := Lib.hid (Tryd.strings_Split s sp m w (by omega) hm (by decide))
    rw [← hQ, ← hQl] at HSP
    clear hne HP h0 hQ hQl hQm hQp hm hv
    generalize parsesOf s.data.toList = R at HNO HYES
    unfold sp at HSP
    go_enter Tryd.func11, Tryd.ntmps11
    go_wp2_with fail
    refine HSP.out.mono ?_
    rintro e w1 ⟨rfl, hw1⟩
    have HB1 : Hid (Below w.heap.size w w1) := by rw [hw1]; exact (Below.refl _ _).alloc (Nat.le_refl _) _
    have HC : Hid (∀ j q, Q[j]? = some q → w1.cell? ⟨w.heap.size, j, none⟩ = some (.string q)) := Lib.hid (fun j q hq => by
      rw [hw1, cell_of_row _ w.heap.size j (Q.map Value.string).toArray 9 (0, 0) (heap_alloc_new w _)]
      simp [hq])
    have hsz : w.heap.size + 1 ≤ w1.heap.size := by rw [hw1]; simp
    clear hw1
    go_wp2
    go_loopw [4, 14] (fun v iv wr => ∃ k : Nat, k ≤ Q.length ∧ iv = .int .i64 k ∧ allOk ((Q.take k).map (·.data.toList)) ∧ Row wr (w.heap.size + 1) 3 v (cellsOf (((Q.take k).map (·.data.toList)).map val1)) ∧ Below (w.heap.size + 1) w1 wr)
        (fun _ iv _ => Q.length - (intOf iv).toNat)
    case atStart => exact ⟨0, Nat.zero_le _, rfl, (fun p hp => by cases hp), Row.nil _ _ _, Below.refl _ _⟩
    case round =>
      obtain ⟨k, hk, rfl, hok, hrow, hb⟩ := hrel
      have HK := Lib.hid hok
      have HO := Lib.hid hrow
      have HB := Lib.hid hb
      have hB := hb.size
      clear hok hrow hb
      by_cases hlt : k < Q.length
      · have c1 := (HB.out.cell (p := ⟨w.heap.size, k, none⟩) (Nat.lt_succ_self _)).trans (HC.out k Q[k] (by simp))
        have HQ : Hid (Q[k] ∈ Q) := Lib.hid (List.getElem_mem hlt)
        have HT : Hid ((Q.take (k + 1)).map (·.data.toList) = (Q.take k).map (·.data.toList) ++ [Q[k].data.toList]) := Lib.hid (by rw [List.take_add_one, List.getElem?_eq_getElem hlt, List.map_append]; rfl)
        have hsq := HSZ.out Q[k] HQ.out
        have hBw := HB1.out.trans (HB.out.mono (Nat.le_succ _))
        have hVars := HV.out.kept hBw
        have HS := Lib.hid (implParse_any Q[k] wr hVars.1 hVars.2 (by omega))
        have HN : Hid ((parseOf Q[k].data.toList).2 = false → R = ([], false)) := Lib.hid (HNO.out _ HQ.out)
        have HVV : Hid (∀ n b, parseOf Q[k].data.toList = (n, b) → val1 Q[k].data.toList = n ∧ (parseOf Q[k].data.toList).2 = b) := Lib.hid (fun n b h => by unfold val1; rw [h]; exact ⟨rfl, rfl⟩)
        have HBW := Lib.hid hBw
        clear hVars hsq hBw
        generalize hp : parseOf Q[k].data.toList = p at HS
        have HPP := Lib.hid hp
        clear hp
        obtain ⟨n, ok⟩ := p
        obtain ⟨hv1, hv2⟩ := HVV.out n ok HPP.out
        have HV1 := Lib.hid hv1
        have HV2 := Lib.hid hv2
        clear HVV hv1 hv2 HPP HQ
        generalize Q[k] = q at c1 HT HS HN HV1 HV2
        go_wp2_with fail
        refine HS.out.mono ?_
        rintro e w2 ⟨rfl, b2⟩
        have HO2 := Lib.hid (HO.out.kept b2)
        have HB2 := Lib.hid (HB.out.trans (b2.mono (by omega)))
        have hB2 := HB2.out.size
        clear b2
        cases ok with
        | false =>
          go_wp2
          go_ret2
          exact IntsPost.none (HN.out HV2.out) rfl (HB1.out.trans (HB2.out.mono (Nat.le_succ _)))
        | true =>
          go_wp2_with (at_builtin; refine append_one rfl _ _ 24 rfl (w.heap.size + 1) 3 i0 _ 8 Tryd.underlying24 hi hz0 hz1 hz2 rfl (by decide) _ _ rfl HO2.out _ rfl rfl (by simp [cellsOf]; omega) (by omega) ?_; intro v' w3 hown3 hb3; have HO3 := Lib.hid hown3; have HB3 := Lib.hid hb3; clear hown3 hb3)
          go_roundw
          case rel => exact ⟨k + 1, by omega, by go_num, by rw [HT.out]; exact allOk_snoc HK.out HV2.out, by rw [HT.out, List.map_append, List.map_cons, List.map_nil, HV1.out]; simpa [cellsOf] using HO3.out, HB2.out.trans HB3.out⟩
          case measure => simp [intOf]; omega
      · obtain rfl : k = Q.length := by omega
        rw [List.take_length] at HK HO
        have HY := Lib.hid (HYES.out HK.out)
        go_wp2
        go_ret2
        exact ⟨_, by rw [HY.out]; rfl, by rw [HY.out]; exact HO.out.base (by omega), HB1.out.trans (HB.out.mono (Nat.le_succ _))⟩
end Go.Proofs.YtfoegoobcpmddaaDoor
