/-
  The model's l08Values: the values number k for some variables.
-/
import Derived.Test.YtjpkkhhcpcokaaaRowX
import Derived.Test.YtjpkkhhcpcokaaaRows3
import Derived.IntWalk
import Derived.Deep.DeepAppendWide
namespace Go.Proofs.Ytjpkkhhcpcokaaa
open Go.RowKit
set_option linter.unusedVariables false
set_option linter.unusedSimpArgs false

/-! ### A row whose parts lie below another bound -/
def RowY {α : Type} (E : El α) (e : TypeId) (w : World) (lo kb : Nat) (v : Value) (xs : List α) : Prop :=
  ∃ L : List (α × Value), xs = L.map Prod.fst ∧ w.ownsRow lo e E.n v L.length (cellsE E L) ∧ ∀ (j : Nat) (p : α × Value), L[j]? = some p → E.kid w (fun b => b < kb) p.2 p.1
theorem RowY.kept {α : Type} {E : El α} {e : TypeId} {w w' : World} {lo kb : Nat} {v : Value} {xs : List α} (h : RowY E e w lo kb v xs) (hb : Below w.heap.size w w') : RowY E e w' lo kb v xs := by
  obtain ⟨L, hL, hrow, hch⟩ := h
  exact ⟨L, hL, rowE_moved hrow fun k hk => hb.block k (World.ownsRow.lt hrow k hk).2, fun j p hj => E.kidFrame (hch j p hj) hb.size fun k _ hk => hb.block k hk⟩
theorem RowY.some {α : Type} {E : El α} {e : TypeId} {w : World} {lo kb : Nat} {v : Value} {xs : List α} (h : RowY E e w lo kb v xs) (hp : 0 < xs.length) : ∃ g cap, v = .slice (some ⟨g, 0, none⟩) xs.length cap := by
  obtain ⟨L, rfl, hrow, hch⟩ := h
  rw [List.length_map] at hp ⊢
  rcases hrow.2 with ⟨_, hn⟩ | ⟨g', cap', cur, he, h1, h2⟩
  · omega
  · exact ⟨g', cap', he⟩
theorem rowY_start {α : Type} {E : El α} {e : TypeId} {w : World} {lo kb : Nat} (hl : lo ≤ w.heap.size) : RowY E e (w.alloc (.cells #[] e)) lo kb (.slice (some ⟨w.heap.size, 0, none⟩) 0 0) [] :=
  ⟨[], rfl, ⟨by simp [cellsE], .inr ⟨w.heap.size, 0, #[], rfl, hl, heap_new w _, Nat.le_refl _, Nat.zero_le _, by simp, by simp [cellsE]⟩⟩, fun j p hj => by simp at hj⟩
/-- 'append(v, t...)' on such a row: t nil, empty or structs that can be read. -/
theorem append_rowY {P : Program} {W : World} {ops : Array Oper} {rest : List Oper} {o : Oper} {a : Act} {Q : Exit → Act → World → Prop} (hgd : o.guard = none) (s x : Operand) (t : TypeId)
    (ho : o.op = .call { callee := .builtin .append, args := #[s, x], argTypes := #[t, t] }) {α : Type} (E : El α)
    (lo kb : Nat) (e : TypeId) (i : TypeInfo) (z : Value) (bytes : Nat) (ht : P.underlying t = some (.slice e)) (hi : P.info? e = some i) (hz : i.zero = some z)
    (hsize : i.size = E.n) (hby : i.bytes = bytes) (hzs : z.cells.size = E.n) (hb128 : bytes ≤ 128)
    (v : Value) (xs : List α) (hs : a.eval s = v) (hown : RowY E e W lo kb v xs) (A : Option Addr) (m c : Nat) (hx : a.eval x = .slice A m c) (M : List (α × Value)) (hl : M.length = m)
    (hA : A = none → m = 0 ∧ c = 0) (hc : ∀ ad, A = some ad → ∀ j u, (cellsE E M)[j]? = some u → W.cell? (ad.add j) = some u) (h1 : ∀ u ∈ cellsE E M, u.oneCell' = true)
    (hk : ∀ (j : Nat) (p : α × Value), M[j]? = some p → E.kid W (fun b => b < kb) p.2 p.1) (hn : xs.length + m ≤ 1073741824) (hbase : lo ≤ W.heap.size) (hkb : kb ≤ lo)
    (h : ∀ v' w', RowY E e w' lo kb v' (xs ++ M.map Prod.fst) → Below lo W w' → wpList P ops Q rest (a.put o.dst v') w') : wpList P ops Q (o :: rest) a W := by
  obtain ⟨L, hL, hrow, hch⟩ := hown
  have hxl : xs.length = L.length := by rw [hL, List.length_map]
  cases A with
  | none =>
    obtain ⟨rfl, rfl⟩ := hA rfl
    have hM : M = [] := List.length_eq_zero_iff.1 hl
    subst hM
    refine wpList_append_own_none hgd s x t ho lo e i E.n ht hi v L.length _ hs hrow hx ?_
    exact h v W (by rw [List.map_nil, List.append_nil]; exact ⟨L, hL, hrow, hch⟩) (Below.refl _ _)
  | some ad =>
    refine wpList_append_own W hgd s x t ho lo e i z E.n bytes ht hi hz hsize hby hzs E.pos v L.length _ hs hrow ad m c (cellsE E M) hx (by rw [cellsE_length, hl]) (hc ad rfl) h1 (by unfold maxLen; omega) ?_ hbase ?_
    · have : (L.length + m) * bytes ≤ (L.length + m) * 128 := Nat.mul_le_mul_left _ hb128
      omega
    · intro v' w' hown' hg _
      have hB : Below lo W w' := below_of_grown hg hbase (fun k hk => (World.ownsRow.lt hrow k hk).1)
      refine h v' w' ⟨L ++ M, by rw [hL, List.map_append], by rw [List.length_append, hl, cellsE_append]; exact hown', fun j p hj => ?_⟩ hB
      have hW : E.kid W (fun b => b < kb) p.2 p.1 := by
        by_cases hjl : j < L.length
        · rw [List.getElem?_append_left hjl] at hj
          exact hch j p hj
        · rw [List.getElem?_append_right (by omega)] at hj
          exact hk _ p hj
      exact E.kidFrame hW hB.size fun k hk _ => hB.block k (Nat.lt_of_lt_of_le hk hkb)


def valsU (u : List Tm) : List Int → Nat → List Bd
  | [], _ => []
  | v :: vs, k => ⟨v, (u[k % u.length]?).getD (.mk 0 0 ⟨#[]⟩ [])⟩ :: valsU u vs (k / u.length)
/-- What k has become behind j variables. -/
def quoU (u : List Tm) (k : Nat) : Nat → Nat
  | 0 => k
  | j + 1 => quoU u k j / u.length
theorem quoU_shift (u : List Tm) (k : Nat) : ∀ j, quoU u (k / u.length) j = quoU u k (j + 1)
  | 0 => rfl
  | j + 1 => by rw [quoU, quoU_shift u k j]; rfl
theorem valsU_take (u : List Tm) : ∀ (vs : List Int) (k j : Nat) (v : Int), vs[j]? = some v → valsU u (vs.take (j + 1)) k = valsU u (vs.take j) k ++ [⟨v, (u[quoU u k j % u.length]?).getD (.mk 0 0 ⟨#[]⟩ [])⟩]
  | [], _, j, v, h => by simp at h
  | w :: vs, k, 0, v, h => by
    simp at h
    rw [← h]
    rfl
  | w :: vs, k, j + 1, v, h => by
    have h2 := valsU_take u vs (k / u.length) j v (by simpa using h)
    rw [List.take_succ_cons, List.take_succ_cons, valsU, valsU, h2, quoU_shift]
    rfl
theorem valsU_len (u : List Tm) : ∀ (vs : List Int) (k : Nat), (valsU u vs k).length = vs.length
  | [], _ => rfl
  | v :: vs, k => by rw [valsU, List.length_cons, valsU_len u vs, List.length_cons]
theorem RowY.list {α : Type} {E : El α} {e : TypeId} {w : World} {lo kb : Nat} {V : Value} {l : List α} (h : RowY E e w lo kb V l) : ListS E w (fun k => k < kb ∨ V.ownBlock = Option.some k) V l := by
  obtain ⟨L, rfl, h2, h3⟩ := h
  rcases h2.2 with ⟨rfl, hn⟩ | ⟨g, cap, cur, rfl, h5, h6, h7, h8, h9, h10⟩
  · have : L = [] := List.length_eq_zero_iff.1 hn
    subst this
    exact .nil none 0
  · refine .row g 0 L.length cap L _ rfl rfl (.inr rfl) (World.ownsRow.lt h2 g rfl).2 (fun i v hv => ?_) fun j p hj => E.kidSub (h3 j p hj) fun b hb => .inl hb
    rw [Nat.zero_add, World.ownsRow.cellAt h2 _ (by rw [← cellsE_length]; exact (List.getElem?_eq_some_iff.1 hv).1)]
    exact hv
theorem vals_ints {w : World} {V : Value} {k : List Int} (h : Vals w V (k.map (Value.int .i64))) : ∃ a c, V = .slice a k.length c := by
  obtain ⟨a, c, hv, _⟩ := h
  exact ⟨a, c, by rw [hv, List.length_map]⟩
theorem vals_get {w : World} {a : Option Addr} {n c : Nat} {k : List Int} (h : Vals w (.slice a n c) (k.map (Value.int .i64))) {j : Nat} {v : Int} (hv : k[j]? = some v) :
    ∃ g off, a = some ⟨g, off, none⟩ ∧ g < w.heap.size ∧ ∀ W, Below w.heap.size w W → W.cell? ⟨g, off + j, none⟩ = some (.int .i64 v) := by
  obtain ⟨a', c', he, hk⟩ := h
  simp only [Value.slice.injEq] at he
  obtain ⟨rfl, _, _⟩ := he
  rcases hk with hk | ⟨g, off, rfl, hg, hc⟩
  · have : k = [] := by simpa using hk
    rw [this] at hv
    simp at hv
  · exact ⟨g, off, rfl, hg, fun W hW => (hW.cell (p := ⟨g, off + j, none⟩) hg).trans (hc j _ (by rw [List.getElem?_map, hv]; rfl))⟩

set_option maxRecDepth 100000 in
set_option maxHeartbeats 4000000 in
theorem specValues8_any (u : List Tm) (Vu : Value) (vs : List Int) (Vv : Value) (k : Nat) (kb : Nat) (w : World) (hkb : kb ≤ w.heap.size) (hA : ArgsS w (fun b => b < kb) Vu u) (hV : Vals w Vv (vs.map (Value.int .i64))) (hu : 1 ≤ u.length ∧ u.length ≤ 8) (hv : vs.length ≤ 1048576) (hk : k ≤ 4096) :
    Calls Try.prog 78 #[Vv, Vu, .int .i64 (k : Int)] w fun e w' => ∃ a n c, e = .returned (.slice a n c) ∧ RowY bdE 62 w' w.heap.size kb (.slice a n c) (valsU u vs k) ∧ Below w.heap.size w w' := by
  obtain ⟨i0, hi, hz0, hz1, hz2⟩ := info_parts infoBinding
  have HII := Lib.hid (And.intro hi (And.intro hz0 (And.intro hz1 hz2)))
  obtain ⟨ua, uc, rfl⟩ := hA.at.slice
  obtain ⟨va, vc, rfl⟩ := vals_ints hV
  have HA := Lib.hid hA
  have HV := Lib.hid hV
  have HU := Lib.hid hu
  have HK0 := Lib.hid hk
  have HRS := Lib.hid (rowY_start (E := bdE) (e := 62) (w := w) (lo := w.heap.size) (kb := kb) (Nat.le_refl _))
  have hal : Below w.heap.size w (w.alloc (.cells #[] 62)) := belowAlloc (Below.refl _ _) _
  have HBA := Lib.hid hal
  have hu1 := hu.1
  have hu8 := hu.2
  have hun : ¬ u.length = 0 := by omega
  have hunI : ¬ (u.length : Int) = 0 := by omega
  clear hi hz0 hz1 hz2 hA hV hal hu
  go_enter Try.func78, Try.ntmps78
  go_wp2
  go_loopw [2, 7, 13] (fun kv lv iv wr => ∃ (j q : Nat), j ≤ vs.length ∧ iv = .int .i64 j ∧ kv = .int .i64 q ∧ Hid (quoU u k j = q ∧ q ≤ 4096) ∧ Hid (RowY bdE 62 wr w.heap.size kb lv (valsU u (vs.take j) k)) ∧ Hid (Below w.heap.size w wr)) (fun _ _ iv _ => vs.length - (intOf iv).toNat)
  case atStart => exact ⟨0, k, Nat.zero_le _, rfl, rfl, Lib.hid ⟨rfl, HK0.out⟩, HRS, HBA⟩
  case round =>
    clear HRS HBA
    obtain ⟨j, q, hj, rfl, rfl, HQ, HO, HB⟩ := hrel
    obtain ⟨la, lc, hlv⟩ := HO.out.list.slice
    subst hlv
    by_cases hlt : j < vs.length
    · have hltI : (j : Int) < (vs.length : Int) := by omega
      obtain ⟨v, hvj⟩ : ∃ v, vs[j]? = some v := ⟨_, List.getElem?_eq_getElem hlt⟩
      obtain ⟨gv, offv, rfl, hgv, hcv⟩ := vals_get HV.out hvj
      have d0 := hcv wr HB.out
      have hgw : gv < wr.heap.size := Nat.lt_of_lt_of_le hgv HB.out.size
      have hq := HQ.out.2
      have hm : q % u.length < u.length := Nat.mod_lt _ hu1
      obtain ⟨x, hx⟩ : ∃ x, u[q % u.length]? = some x := ⟨_, List.getElem?_eq_getElem hm⟩
      obtain ⟨gu, offu, x1, x2, rfl, hgu, hqu, hcu, hux⟩ := HA.out.elem hx
      obtain ⟨c0, c1, c2, c3⟩ := hcu wr HB.out
      have hgw2 : gu < wr.heap.size := Nat.lt_of_lt_of_le hgu HB.out.size
      have HT : Hid (valsU u (vs.take (j + 1)) k = valsU u (vs.take j) k ++ [⟨v, x⟩]) := Lib.hid (by rw [valsU_take u vs k j v hvj, HQ.out.1, hx]; rfl)
      have HQ2 : Hid (quoU u k (j + 1) = q / u.length ∧ q / u.length ≤ 4096) := Lib.hid ⟨by rw [quoU, HQ.out.1], Nat.le_trans (Nat.div_le_self _ _) hq⟩
      have HX := Lib.hid hux
      have ht : (q : Int).tmod (u.length : Int) = ((q % u.length : Nat) : Int) := by rw [Int.tmod_eq_emod_of_nonneg (by omega)]; rfl
      have hte : (q : Int) % (u.length : Int) = ((q % u.length : Nat) : Int) := rfl
      have hd : (q : Int).tdiv (u.length : Int) = ((q / u.length : Nat) : Int) := by rw [Int.tdiv_eq_ediv_of_nonneg (by omega)]; rfl
      have hde : (q : Int) / (u.length : Int) = ((q / u.length : Nat) : Int) := rfl
      have HLN : Hid ((valsU u (vs.take j) k).length ≤ 1048576) := Lib.hid (by rw [valsU_len, List.length_take]; omega)
      have HBX : Hid (Below wr.heap.size wr (wr.alloc (.cells #[.int .i64 v, .int .i64 x.kind, .int .i64 x.num, .string x.name, .slice x1 x.args.length x2] 62))) := Lib.hid (belowAlloc (Below.refl _ _) _)
      have HR1 := Lib.hid (HO.out.kept HBX.out)
      have hsz := HB.out.size
      clear hvj hcv hx hqu hcu hux
      generalize hmq : q % u.length = m at hm ht hte c0 c1 c2 c3
      generalize hdq : q / u.length = d at hd hde HQ2
      have hd4 := HQ2.out.2
      have hw1 : IntKind.i64.wrap (m : Int) = (m : Int) := IntWalk.i64_in _ (by omega)
      have hw2 : IntKind.i64.wrap (d : Int) = (d : Int) := IntWalk.i64_in _ (by omega)
      have hmI : (m : Int) < (u.length : Int) := by omega
      have hm0 : (0 : Int) ≤ (m : Int) := by omega
      clear hmq hdq
      go_wp2_with (at_builtin; refine append_rowY rfl _ _ 25 rfl bdE w.heap.size kb 62 i0 _ 64 Try.underlying25 HII.out.1 HII.out.2.1 HII.out.2.2.1 HII.out.2.2.2 rfl (by omega) _ _ rfl HR1.out (some ⟨wr.heap.size, 0, none⟩) 1 1 rfl [(⟨v, x⟩, .slice x1 x.args.length x2)] rfl (fun h => by cases h) (fun ad h j u hj => by cases h; rw [cellsE_one] at hj; exact World.news_of_block (heap_alloc_new wr _) j u hj) (by intro u hu; rw [cellsE_one] at hu; simp [bdE] at hu; rcases hu with rfl | rfl | rfl | rfl | rfl <;> rfl) (fun j p hj => by (match j, hj with | 0, hj => (simp at hj; subst hj; exact HX.out.frame (Nat.le_trans hsz HBX.out.size) fun k hk _ => (HB.out.trans (HBX.out.mono hsz)).block k (Nat.lt_of_lt_of_le hk hkb)))) (by have := HLN.out; omega) (by have := HBX.out.size; omega) hkb ?_; intro lv2 w2 hown hb2; have HO2 := Lib.hid hown; have HB2 := Lib.hid hb2; clear hown hb2)
      have HN2 : Hid (RowY bdE 62 w2 w.heap.size kb lv2 (valsU u (vs.take (j + 1)) k)) := Lib.hid (by rw [HT.out]; exact HO2.out)
      have HF : Hid (Below w.heap.size w w2) := Lib.hid ((HB.out.trans (HBX.out.mono hsz)).trans HB2.out)
      clear HO2 HB2 HR1 HO HB
      go_wp2
      go_roundw
      case rel => exact ⟨j + 1, d, by omega, by go_num, by first | rfl | (simp only [hd, hde, hw2]), HQ2, HN2, HF⟩
      case measure => simp [intOf]; omega
    · obtain rfl : j = vs.length := by omega
      rw [List.take_length] at HO ⊢
      have HL := HO
      go_wp2
      go_ret
      exact ⟨_, _, _, rfl, HL.out, HB.out⟩
end Go.Proofs.Ytjpkkhhcpcokaaa

