/-
  The model's GroundTerms, plain, and two of its contracts. (Written by wip/tools/gen_specground.py.)
-/
import Derived.Test.YtoihimdfmncdoaaGroundW
import Derived.Test.YtoihimdfmncdoaaSpecIns8
namespace Go.Proofs.Ytoihimdfmncdoaa
open Go.RowKit
set_option linter.unusedVariables false
set_option linter.unusedSimpArgs false

theorem args_two8 {w : World} {g : Nat} {e : TypeId} {x y : Tm} {Vx Vy : Value} (h : w.heap[g]? = some (.cells #[.int .i64 x.kind, .int .i64 x.num, .string x.name, Vx, .int .i64 y.kind, .int .i64 y.num, .string y.name, Vy] e))
    (hx : ArgsAt w Vx x.args) (hy : ArgsAt w Vy y.args) : ArgsAt w (.slice (some ⟨g, 0, none⟩) 2 2) [x, y] := by
  have hs : g < w.heap.size := (Array.getElem?_eq_some_iff.1 h).1
  have a0 : w.cell? ⟨g, 0, none⟩ = some (.int .i64 x.kind) := cell_of_row w g 0 _ _ _ h
  have a1 : w.cell? ⟨g, 1, none⟩ = some (.int .i64 x.num) := cell_of_row w g 1 _ _ _ h
  have a2 : w.cell? ⟨g, 2, none⟩ = some (.string x.name) := cell_of_row w g 2 _ _ _ h
  have a3 : w.cell? ⟨g, 3, none⟩ = some Vx := cell_of_row w g 3 _ _ _ h
  have b0 : w.cell? ⟨g, 4, none⟩ = some (.int .i64 y.kind) := cell_of_row w g 4 _ _ _ h
  have b1 : w.cell? ⟨g, 5, none⟩ = some (.int .i64 y.num) := cell_of_row w g 5 _ _ _ h
  have b2 : w.cell? ⟨g, 6, none⟩ = some (.string y.name) := cell_of_row w g 6 _ _ _ h
  have b3 : w.cell? ⟨g, 7, none⟩ = some Vy := cell_of_row w g 7 _ _ _ h
  clear h
  refine .row g 0 2 2 (fun j => if j = 0 then Vx else Vy) [x, y] rfl hs (fun j t ht i u hi => ?_) (fun j t ht => ?_)
  · match j, ht with
    | 0, ht =>
      simp at ht
      subst ht
      match i, hi with
      | 0, hi => simp [cells4] at hi; subst hi; simpa using a0
      | 1, hi => simp [cells4] at hi; subst hi; simpa using a1
      | 2, hi => simp [cells4] at hi; subst hi; simpa using a2
      | 3, hi => simp [cells4] at hi; subst hi; simpa using a3
      | i + 4, hi => simp [cells4] at hi
    | 1, ht =>
      simp at ht
      subst ht
      match i, hi with
      | 0, hi => simp [cells4] at hi; subst hi; simpa using b0
      | 1, hi => simp [cells4] at hi; subst hi; simpa using b1
      | 2, hi => simp [cells4] at hi; subst hi; simpa using b2
      | 3, hi => simp [cells4] at hi; subst hi; simpa using b3
      | i + 4, hi => simp [cells4] at hi
    | j + 2, ht => simp at ht
  · match j, ht with
    | 0, ht => simp at ht; subst ht; exact hx
    | 1, ht => simp at ht; subst ht; exact hy
    | j + 2, ht => simp at ht

/-! ### What the law says, plain -/

def mkL (V : Nat → Value) : Nat → List Tm → List (Tm × Value)
  | _, [] => []
  | k, t :: l => (t, V k) :: mkL V (k + 1) l
theorem mkL_fst (V : Nat → Value) : ∀ (l : List Tm) (k : Nat), (mkL V k l).map Prod.fst = l
  | [], _ => rfl
  | t :: l, k => by rw [mkL, List.map_cons, mkL_fst V l (k + 1)]
theorem mkL_len (V : Nat → Value) (l : List Tm) (k : Nat) : (mkL V k l).length = l.length := by
  have h := congrArg List.length (mkL_fst V l k)
  rwa [List.length_map] at h
theorem mkL_get (V : Nat → Value) : ∀ (l : List Tm) (k j : Nat) (p : Tm × Value), (mkL V k l)[j]? = some p → l[j]? = some p.1 ∧ p.2 = V (k + j)
  | [], _, j, p, h => by simp [mkL] at h
  | t :: l, k, 0, p, h => by
    simp [mkL] at h
    rw [← h]
    exact ⟨rfl, rfl⟩
  | t :: l, k, j + 1, p, h => by
    have h2 := mkL_get V l (k + 1) j p (by simpa [mkL] using h)
    refine ⟨by simpa using h2.1, ?_⟩
    rw [h2.2]
    congr 1
    omega
/-- Terms that can be read, as a row's cells. -/
theorem args_cells {w : World} {S : Nat → Prop} {a : Option Addr} {n cap : Nat} {l : List Tm} (h : ArgsS w S (.slice a n cap) l) (hp : 1 ≤ l.length) :
    ∃ (g off : Nat) (M : List (Tm × Value)), a = some ⟨g, off, none⟩ ∧ n = l.length ∧ M.map Prod.fst = l ∧ (∀ j v, (cellsE tmE M)[j]? = some v → w.cell? ⟨g, off + j, none⟩ = some v) ∧ g < w.heap.size ∧ ∀ (j : Nat) (p : Tm × Value), M[j]? = some p → ArgsS w S p.2 p.1.args := by
  cases h with
  | nil a cap => simp at hp
  | row g off n cap V l hn hS hg hc hr =>
    refine ⟨g, off, mkL V 0 l, rfl, hn, mkL_fst V l 0, fun j v hj => ?_, hg, fun j p hj => ?_⟩
    · have hjl := (List.getElem?_eq_some_iff.1 hj).1
      rw [show (cellsE tmE (mkL V 0 l)).length = (mkL V 0 l).length * 4 from cellsE_length tmE _] at hjl
      obtain ⟨p, hp2⟩ : ∃ p, (mkL V 0 l)[j / 4]? = some p := ⟨_, List.getElem?_eq_getElem (by omega)⟩
      obtain ⟨v', hv'⟩ : ∃ v', (cells4 p.1 p.2)[j % 4]? = some v' := ⟨_, List.getElem?_eq_getElem (by show j % 4 < 4; omega)⟩
      have h1 := cellsE_at (E := tmE) hp2 (i := j % 4) (v := v') hv'
      rw [show j / 4 * tmE.n + j % 4 = j from by show j / 4 * 4 + j % 4 = j; omega] at h1
      have hv : v' = v := Option.some.inj (h1.symm.trans hj)
      subst hv
      obtain ⟨h2, h3⟩ := mkL_get V l 0 _ p hp2
      rw [h3, Nat.zero_add] at hv'
      have h4 := hc (j / 4) p.1 h2 (j % 4) _ hv'
      rwa [show j / 4 * 4 + j % 4 = j from by omega] at h4
    · obtain ⟨h2, h3⟩ := mkL_get V l 0 j p hj
      rw [h3, Nat.zero_add]
      exact hr j _ h2

/-! ### What the model puts in -/
def row2 (u : List Tm) (a : Tm) (j : Nat) : List Tm := (u.take j).map (pairT a)
def t2 (u : List Tm) (i : Nat) : List Tm := (u.take i).flatMap fun a => row2 u a u.length
def t3c (u : List Tm) (a b : Tm) (k : Nat) : List Tm := (u.take k).flatMap fun x => [pairT a (pairT b x), pairT (pairT a b) x]
def t3b (u : List Tm) (a : Tm) (j : Nat) : List Tm := (u.take j).flatMap fun b => t3c u a b u.length
def t3 (u : List Tm) (i : Nat) : List Tm := (u.take i).flatMap fun a => t3b u a u.length
theorem row2_succ {u : List Tm} {a b : Tm} {j : Nat} (h : u[j]? = some b) : row2 u a (j + 1) = row2 u a j ++ [pairT a b] := by unfold row2; rw [take_next h, List.map_append]; rfl
theorem t2_succ {u : List Tm} {a : Tm} {i : Nat} (h : u[i]? = some a) : t2 u (i + 1) = t2 u i ++ row2 u a u.length := by unfold t2; rw [take_next h, List.flatMap_append, List.flatMap_singleton]
theorem t3c_succ {u : List Tm} {a b x : Tm} {k : Nat} (h : u[k]? = some x) : t3c u a b (k + 1) = t3c u a b k ++ [pairT a (pairT b x)] ++ [pairT (pairT a b) x] := by unfold t3c; rw [take_next h, List.flatMap_append, List.flatMap_singleton, List.append_assoc]; rfl
theorem t3b_succ {u : List Tm} {a b : Tm} {j : Nat} (h : u[j]? = some b) : t3b u a (j + 1) = t3b u a j ++ t3c u a b u.length := by unfold t3b; rw [take_next h, List.flatMap_append, List.flatMap_singleton]
theorem t3_succ {u : List Tm} {a : Tm} {i : Nat} (h : u[i]? = some a) : t3 u (i + 1) = t3 u i ++ t3b u a u.length := by unfold t3; rw [take_next h, List.flatMap_append, List.flatMap_singleton]
theorem flat_len {α β : Type} (f : α → List β) (c : Nat) : ∀ (l : List α), (∀ x ∈ l, (f x).length ≤ c) → (l.flatMap f).length ≤ l.length * c
  | [], _ => by simp
  | x :: l, h => by
    have h1 := flat_len f c l fun y hy => h y (by simp [hy])
    have h2 := h x (by simp)
    rw [List.flatMap_cons, List.length_append, List.length_cons, Nat.add_mul, Nat.one_mul]
    omega
/-- Lists of terms that are built of u. -/
def Tb (u : List Tm) (t : Tm) : Prop := Good t ∧ t.sz ≤ 1048576
theorem tb_pairs {u : List Tm} (hU : UniP u) {a b : Tm} (ha : a ∈ u) (hb : b ∈ u) : Tb u (pairT a b) := by
  have h1 := uni_sz hU a ha
  have h2 := uni_sz hU b hb
  refine ⟨.pair a b (uni_good hU a ha) (uni_good hU b hb), ?_⟩
  have h3 : (pairT a b).sz = 2 + a.sz + b.sz := by
    show (⟨#[]⟩ : ByteArray).size + szL [a, b] = _
    rw [show (⟨#[]⟩ : ByteArray).size = 0 from rfl]
    simp [szL]
    omega
  omega
theorem tb_three {u : List Tm} (hU : UniP u) {a b c : Tm} (ha : a ∈ u) (hb : b ∈ u) (hc : c ∈ u) : Tb u (pairT a (pairT b c)) ∧ Tb u (pairT (pairT a b) c) := by
  have h1 := uni_sz hU a ha
  have h2 := uni_sz hU b hb
  have h3 := uni_sz hU c hc
  have e : ∀ x y : Tm, (pairT x y).sz = 2 + x.sz + y.sz := fun x y => by
    show (⟨#[]⟩ : ByteArray).size + szL [x, y] = _
    rw [show (⟨#[]⟩ : ByteArray).size = 0 from rfl]
    simp [szL]
    omega
  refine ⟨⟨.pair a _ (uni_good hU a ha) (tb_pairs hU hb hc).1, ?_⟩, ⟨.pair _ c (tb_pairs hU ha hb).1 (uni_good hU c hc), ?_⟩⟩
  · rw [e, e]; omega
  · rw [e, e]; omega
def TsOk (u ts : List Tm) : Prop := (∀ t ∈ ts, Tb u t) ∧ ts.length ≤ 3000
theorem row2_ok {u : List Tm} (hU : UniP u) {a : Tm} (ha : a ∈ u) (j : Nat) : (∀ t ∈ row2 u a j, Tb u t) ∧ (row2 u a j).length ≤ 8 := by
  refine ⟨fun t ht => ?_, ?_⟩
  · obtain ⟨b, hb, rfl⟩ := List.mem_map.1 ht
    exact tb_pairs hU ha (List.mem_of_mem_take hb)
  · unfold row2
    rw [List.length_map, List.length_take]
    have := hU.1.2
    omega
theorem t2_ok {u : List Tm} (hU : UniP u) (i : Nat) : (∀ t ∈ t2 u i, Tb u t) ∧ (t2 u i).length ≤ 64 := by
  refine ⟨fun t ht => ?_, ?_⟩
  · obtain ⟨a, ha, h⟩ := List.mem_flatMap.1 ht
    exact (row2_ok hU (List.mem_of_mem_take ha) _).1 t h
  · have h := flat_len (fun a => row2 u a u.length) 8 (u.take i) fun a ha => (row2_ok hU (List.mem_of_mem_take ha) _).2
    have h2 : (u.take i).length ≤ 8 := by rw [List.length_take]; have := hU.1.2; omega
    unfold t2
    omega
theorem t3c_ok {u : List Tm} (hU : UniP u) {a b : Tm} (ha : a ∈ u) (hb : b ∈ u) (k : Nat) : (∀ t ∈ t3c u a b k, Tb u t) ∧ (t3c u a b k).length ≤ 16 := by
  refine ⟨fun t ht => ?_, ?_⟩
  · obtain ⟨x, hx, h⟩ := List.mem_flatMap.1 ht
    have h3 := tb_three hU ha hb (List.mem_of_mem_take hx)
    simp only [List.mem_cons, List.not_mem_nil, or_false] at h
    rcases h with rfl | rfl
    · exact h3.1
    · exact h3.2
  · have h := flat_len (fun x => [pairT a (pairT b x), pairT (pairT a b) x]) 2 (u.take k) fun x _ => Nat.le_refl _
    have h2 : (u.take k).length ≤ 8 := by rw [List.length_take]; have := hU.1.2; omega
    unfold t3c
    omega
theorem t3b_ok {u : List Tm} (hU : UniP u) {a : Tm} (ha : a ∈ u) (j : Nat) : (∀ t ∈ t3b u a j, Tb u t) ∧ (t3b u a j).length ≤ 128 := by
  refine ⟨fun t ht => ?_, ?_⟩
  · obtain ⟨b, hb, h⟩ := List.mem_flatMap.1 ht
    exact (t3c_ok hU ha (List.mem_of_mem_take hb) _).1 t h
  · have h := flat_len (fun b => t3c u a b u.length) 16 (u.take j) fun b hb => (t3c_ok hU ha (List.mem_of_mem_take hb) _).2
    have h2 : (u.take j).length ≤ 8 := by rw [List.length_take]; have := hU.1.2; omega
    unfold t3b
    omega
theorem t3_ok {u : List Tm} (hU : UniP u) (i : Nat) : (∀ t ∈ t3 u i, Tb u t) ∧ (t3 u i).length ≤ 1024 := by
  refine ⟨fun t ht => ?_, ?_⟩
  · obtain ⟨a, ha, h⟩ := List.mem_flatMap.1 ht
    exact (t3b_ok hU (List.mem_of_mem_take ha) _).1 t h
  · have h := flat_len (fun a => t3b u a u.length) 128 (u.take i) fun a ha => (t3b_ok hU (List.mem_of_mem_take ha) _).2
    have h2 : (u.take i).length ≤ 8 := by rw [List.length_take]; have := hU.1.2; omega
    unfold t3
    omega
theorem uni_asc {u : List Tm} (h : UniP u) : AscT u := by
  refine ⟨?_, uni_good h⟩
  have key : ∀ (d k : Nat) (x y : Tm), u[k]? = some x → u[k + d + 1]? = some y → x.cmp y < 0 := by
    intro d
    induction d with
    | zero => exact fun k x y hx hy => (h.2 (k + 1) y (by simpa using hy)).2 k x rfl hx
    | succ d ih =>
      intro k x y hx hy
      obtain ⟨z, hz⟩ : ∃ z, u[k + d + 1]? = some z := ⟨_, List.getElem?_eq_getElem (by have := (List.getElem?_eq_some_iff.1 hy).1; omega)⟩
      have h1 := ih k x z hx hz
      have h2 := (h.2 (k + (d + 1) + 1) y hy).2 (k + d + 1) z (by omega) hz
      exact cmpT_lt (uni_good h x (List.mem_of_getElem? hx)) (uni_good h z (List.mem_of_getElem? hz)) (uni_good h y (List.mem_of_getElem? hy)) h1 h2
  rw [List.pairwise_iff_getElem]
  intro i j hi hj hij
  obtain ⟨d, rfl⟩ : ∃ d, j = i + d + 1 := ⟨j - i - 1, by omega⟩
  exact key d i _ _ (List.getElem?_eq_getElem hi) (List.getElem?_eq_getElem hj)
/-- What the model has at its end. -/
noncomputable def mS (u : List Tm) (n : Nat) : List Tm := putsT u ((if 3 ≤ n then t2 u u.length else []) ++ (if 5 ≤ n then t3 u u.length else []))
theorem bf5_1 (u : List Tm) : bf u 5 1 = u := bf_one u 4
theorem bf4_1 (u : List Tm) : bf u 4 1 = u := bf_one u 3
theorem bf3_1 (u : List Tm) : bf u 3 1 = u := bf_one u 2
theorem bf_2 (u : List Tm) (N : Nat) : bf u N 2 = [] := by cases N with
  | zero => rfl
  | succ N => rw [bf, if_neg (by omega)]; rfl
theorem mem_bf3 {u : List Tm} {N : Nat} {x : Tm} : x ∈ bf u (N + 2) 3 ↔ ∃ a ∈ u, ∃ b ∈ u, x = pairT a b := by
  rw [bf, if_neg (by omega)]
  simp only [List.mem_flatMap, List.mem_map, List.mem_range]
  constructor
  · rintro ⟨i, hi, a, ha, b, hb, rfl⟩
    obtain rfl : i = 0 := by omega
    rw [show 3 - 2 - 0 = 1 from rfl, bf_one] at ha
    rw [show 0 + 1 = 1 from rfl, bf_one] at hb
    exact ⟨a, ha, b, hb, rfl⟩
  · rintro ⟨a, ha, b, hb, rfl⟩
    refine ⟨0, by omega, a, ?_, b, ?_, rfl⟩
    · rw [show 3 - 2 - 0 = 1 from rfl, bf_one]; exact ha
    · rw [show 0 + 1 = 1 from rfl, bf_one]; exact hb
theorem mem_bf4 {u : List Tm} {N : Nat} {x : Tm} : ¬ x ∈ bf u (N + 2) 4 := by
  rw [bf, if_neg (by omega)]
  simp only [List.mem_flatMap, List.mem_map, List.mem_range]
  rintro ⟨i, hi, a, ha, b, hb, rfl⟩
  rcases (show i = 0 ∨ i = 1 by omega) with rfl | rfl
  · rw [show 4 - 2 - 0 = 2 from rfl, bf_2] at ha
    cases ha
  · rw [show 1 + 1 = 2 from rfl, bf_2] at hb
    cases hb
theorem mem_bf5 {u : List Tm} {N : Nat} {x : Tm} : x ∈ bf u (N + 3) 5 ↔ ∃ a ∈ u, ∃ b ∈ u, ∃ c ∈ u, x = pairT a (pairT b c) ∨ x = pairT (pairT a b) c := by
  rw [bf, if_neg (by omega)]
  simp only [List.mem_flatMap, List.mem_map, List.mem_range]
  constructor
  · rintro ⟨i, hi, a, ha, b, hb, rfl⟩
    rcases (show i = 0 ∨ i = 1 ∨ i = 2 by omega) with rfl | rfl | rfl
    · rw [show 5 - 2 - 0 = 3 from rfl] at ha
      rw [show 0 + 1 = 1 from rfl, bf_one] at hb
      obtain ⟨p, hp, q, hq, rfl⟩ := mem_bf3.1 ha
      exact ⟨p, hp, q, hq, b, hb, .inr rfl⟩
    · rw [show 5 - 2 - 1 = 2 from rfl, bf_2] at ha
      cases ha
    · rw [show 5 - 2 - 2 = 1 from rfl, bf_one] at ha
      rw [show 2 + 1 = 3 from rfl] at hb
      obtain ⟨p, hp, q, hq, rfl⟩ := mem_bf3.1 hb
      exact ⟨a, ha, p, hp, q, hq, .inl rfl⟩
  · rintro ⟨a, ha, b, hb, c, hc, rfl | rfl⟩
    · refine ⟨2, by omega, a, ?_, pairT b c, ?_, rfl⟩
      · rw [show 5 - 2 - 2 = 1 from rfl, bf_one]; exact ha
      · rw [show 2 + 1 = 3 from rfl]; exact mem_bf3.2 ⟨b, hb, c, hc, rfl⟩
    · refine ⟨0, by omega, pairT a b, ?_, c, ?_, rfl⟩
      · rw [show 5 - 2 - 0 = 3 from rfl]; exact mem_bf3.2 ⟨a, ha, b, hb, rfl⟩
      · rw [show 0 + 1 = 1 from rfl, bf_one]; exact hc
theorem mem_t2 {u : List Tm} {x : Tm} : x ∈ t2 u u.length ↔ ∃ a ∈ u, ∃ b ∈ u, x = pairT a b := by
  unfold t2 row2
  simp only [List.take_length, List.mem_flatMap, List.mem_map]
  constructor
  · rintro ⟨a, ha, b, hb, rfl⟩; exact ⟨a, ha, b, hb, rfl⟩
  · rintro ⟨a, ha, b, hb, rfl⟩; exact ⟨a, ha, b, hb, rfl⟩
theorem mem_t3 {u : List Tm} {x : Tm} : x ∈ t3 u u.length ↔ ∃ a ∈ u, ∃ b ∈ u, ∃ c ∈ u, x = pairT a (pairT b c) ∨ x = pairT (pairT a b) c := by
  unfold t3 t3b t3c
  simp only [List.take_length, List.mem_flatMap, List.mem_cons, List.not_mem_nil, or_false]
theorem mem_gtS {u : List Tm} {n : Nat} {x : Tm} : x ∈ gtS u n ↔ ∃ i, i < n ∧ x ∈ bf u 5 (i + 1) := by
  unfold gtS gtAll
  rw [putsT_mem]
  simp [List.mem_flatMap]
theorem mem_mS {u : List Tm} {n : Nat} {x : Tm} : x ∈ mS u n ↔ x ∈ u ∨ (3 ≤ n ∧ x ∈ t2 u u.length) ∨ (5 ≤ n ∧ x ∈ t3 u u.length) := by
  unfold mS
  rw [putsT_mem, List.mem_append]
  by_cases h3 : 3 ≤ n <;> by_cases h5 : 5 ≤ n <;> simp [h3, h5]
theorem mS_eq {u : List Tm} (hU : UniP u) {n : Nat} (hn : 1 ≤ n ∧ n ≤ 5) : gtS u n = mS u n := by
  refine ascT_ext (gtS_asc hU n) (putsT_asc _ (uni_asc hU) fun t ht => ?_) fun x => ?_
  · rw [List.mem_append] at ht
    rcases ht with h | h
    · split at h
      · exact ((t2_ok hU _).1 t h).1
      · cases h
    · split at h
      · exact ((t3_ok hU _).1 t h).1
      · cases h
  · rw [mem_gtS, mem_mS, mem_t2, mem_t3, ← mem_bf3 (N := 3), ← mem_bf5 (N := 2)]
    constructor
    · rintro ⟨i, hi, h⟩
      rcases (show i = 0 ∨ i = 1 ∨ i = 2 ∨ i = 3 ∨ i = 4 by omega) with rfl | rfl | rfl | rfl | rfl
      · exact .inl (by rwa [bf5_1] at h)
      · rw [bf_2] at h; cases h
      · exact .inr (.inl ⟨by omega, h⟩)
      · exact absurd h (mem_bf4 (N := 3))
      · exact .inr (.inr ⟨by omega, h⟩)
    · rintro (h | ⟨h1, h⟩ | ⟨h1, h⟩)
      · exact ⟨0, by omega, by rw [bf5_1]; exact h⟩
      · exact ⟨2, by omega, h⟩
      · exact ⟨4, by omega, h⟩

/-! ### Contracts -/
theorem specPairT_any (a b : Tm) (va vb : Option Addr) (ca cb : Nat) (w : World) (hA : ArgsAt w (.slice va a.args.length ca) a.args) (hB : ArgsAt w (.slice vb b.args.length cb) b.args) :
    Calls Try.prog 70 #[.agg #[.int .i64 a.kind, .int .i64 a.num, .string a.name, .slice va a.args.length ca], .agg #[.int .i64 b.kind, .int .i64 b.num, .string b.name, .slice vb b.args.length cb]] w fun e w' =>
      ∃ g, e = .returned (.agg #[.int .i64 4, .int .i64 0, .string ⟨#[]⟩, .slice (some ⟨g, 0, none⟩) 2 2]) ∧ ArgsAt w' (.slice (some ⟨g, 0, none⟩) 2 2) [a, b] ∧ Below w.heap.size w w' :=
  (specPair_any _ _ _ _ _ _ _ _ _ _ _ _ w).mono fun e w' ⟨g, h1, h2, h3, h4, h5⟩ => ⟨g, h1, args_two8 h4 (hA.kept h5) (hB.kept h5), h5⟩
theorem specPut8_any {u : List Tm} (hU : UniP u) (ts : List Tm) (hts : TsOk u ts) (V : Value) (t : Tm) (Vt : Value) (w : World) (h : OwnX w V (putsT u ts)) (hb : ArgsAt w Vt t.args) (ht : Tb u t) :
    Calls Try.prog 69 #[V, .agg #[.int .i64 t.kind, .int .i64 t.num, .string t.name, Vt]] w fun e w' => ∃ U, e = .returned U ∧ OwnX w' U (putsT u (ts ++ [t])) ∧ Below w.heap.size w w' := by
  have hasc := putsT_asc ts (uni_asc hU) fun x hx => (hts.1 x hx).1
  have h1 := putsT_ge ts u
  have h2 := putsT_le ts u
  have h3 := hU.1
  have h4 := hts.2
  have hS : ∀ x ∈ putsT u ts, x.sz ≤ 1048576 := fun x hx => by
    rcases (putsT_mem ts u).1 hx with h | h
    · have := uni_sz hU x h; omega
    · exact (hts.1 x h).2
  rw [putsT_snoc]
  exact specIns8_any (putsT u ts) V t Vt w h hb hasc ht.1 (by omega) (by omega) hS ht.2
def In5 (n : Int) (e : Ending) : Prop := ∃ b, e = .returned (.bool b) ∧ (b = true ↔ 1 ≤ n ∧ n ≤ 5)
theorem in5_any (n : Int) (w : World) : Calls Try.prog 51 #[.int .i64 n, .int .i64 1, .int .i64 5] w fun e w' => In5 n e ∧ w = w' := by
  by_cases h0 : 1 ≤ n
  · by_cases h1 : n ≤ 5
    · have HI := Lib.hid (And.intro h0 h1)
      go_enter Try.func51, Try.ntmps51
      go_wp2
      go_ret
      exact ⟨⟨true, rfl, ⟨fun _ => HI.out, fun _ => rfl⟩⟩, rfl⟩
    · have HI := Lib.hid h1
      go_enter Try.func51, Try.ntmps51
      go_wp2
      go_ret
      exact ⟨⟨false, rfl, ⟨fun h => (by cases h), fun h => (by have := HI.out; have := h.2; omega)⟩⟩, rfl⟩
  · have HI := Lib.hid h0
    go_enter Try.func51, Try.ntmps51
    go_wp2
    go_ret
    exact ⟨⟨false, rfl, ⟨fun h => (by cases h), fun h => (by have := HI.out; have := h.1; omega)⟩⟩, rfl⟩

end Go.Proofs.Ytoihimdfmncdoaa

