/-
  The program's solver: its bindings, the knots ranged over in any order.
-/
import Derived.Test.YtbbgiefnmihmdaaKnotIN
import Derived.Test.YtbbgiefnmihmdaaSortB
import Derived.Deep.AppendLies
namespace Go.Proofs.Ytbbgiefnmihmdaa
open Go.RowKit
set_option linter.unusedVariables false
set_option linter.unusedSimpArgs false

theorem next_heap {w w' : World} {r lo : Nat} (hg : w.grownBy w' (some r)) (hr : r < lo) : ∀ k, lo ≤ k → k < w.heap.size → w'.heap[k]? = w.heap[k]? := fun k h1 h2 => hg.block k h2 (fun e => by cases e; omega)
/-- The bindings of the variables that have come out of the map. -/
structure GotK (s : St) (left : Int → Bool) (l : List Bd) : Prop where
  come : ∀ c ∈ l, (∃ b, s.M c.v = some b ∧ s.rep b ≠ b ∧ Fill s (s.tm (s.rep b)) c.t ∧ c.t.nodes ≤ 5000) ∧ left c.v = false
  once : l.Pairwise fun a b => ¬ a.v = b.v
  all : ∀ v b, s.M v = some b → left v = false → s.rep b ≠ b → ∃ c ∈ l, c.v = v
theorem gotK_start (s : St) : GotK s (fun v => (s.M v).isSome) [] := ⟨fun b hb => by simp at hb, List.Pairwise.nil, fun v b h1 h2 => by rw [h1] at h2; cases h2⟩
theorem GotK.skip {s : St} {left : Int → Bool} {l : List Bd} (h : GotK s left l) {v : Int} {b : Nat} (hf : s.M v = some b) (hr : s.rep b = b) : GotK s (fun x => left x && !decide (x = v)) l := by
  refine ⟨fun c hc => ⟨(h.come c hc).1, by rw [(h.come c hc).2]; rfl⟩, h.once, fun x b' hx hlx hrx => ?_⟩
  by_cases e : x = v
  · subst e
    rw [hf] at hx
    cases hx
    exact absurd hr hrx
  · exact h.all x b' hx (by simpa [e] using hlx) hrx
theorem GotK.step {s : St} {left : Int → Bool} {l : List Bd} (h : GotK s left l) {v : Int} {b : Nat} {u : Tm} (hl : left v = true) (hf : s.M v = some b) (hr : s.rep b ≠ b) (hu : Fill s (s.tm (s.rep b)) u) (hn : u.nodes ≤ 5000) : GotK s (fun x => left x && !decide (x = v)) (l ++ [⟨v, u⟩]) := by
  refine ⟨fun c hc => ?_, ?_, fun x b' hx hlx hrx => ?_⟩
  · rcases List.mem_append.1 hc with hc | hc
    · obtain ⟨h1, h2⟩ := h.come c hc
      exact ⟨h1, by rw [h2]; rfl⟩
    · simp at hc
      subst hc
      exact ⟨⟨b, hf, hr, hu, hn⟩, by simp⟩
  · rw [List.pairwise_append]
    refine ⟨h.once, List.pairwise_singleton _ _, fun a ha b hb => ?_⟩
    simp at hb
    subst hb
    intro e
    have e' : a.v = v := e
    have := (h.come a ha).2
    rw [e', hl] at this
    cases this
  · by_cases e : x = v
    · subst e
      exact ⟨⟨x, u⟩, by simp, rfl⟩
    · obtain ⟨c, hc, hcv⟩ := h.all x b' hx (by simpa [e] using hlx) hrx
      exact ⟨c, by simp [hc], hcv⟩
theorem gotK_len {s : St} {E : List (Tm × Tm)} (h : KInv s E) {left : Int → Bool} {u : List Bd} (hu : GotK s left u) : u.length ≤ s.bound := by
  have key : ∃ l : List Nat, l.length = u.length ∧ l.Nodup ∧ (∀ b ∈ l, b ∈ s.D.filter (bndQ s)) ∧ ∀ b ∈ l, ∃ c ∈ u, s.M c.v = some b := by
    have hm := hu.come
    have ha := hu.once
    clear hu
    induction u with
    | nil => exact ⟨[], rfl, List.nodup_nil, (fun b hb => by cases hb), fun b hb => by cases hb⟩
    | cons c u ih =>
      obtain ⟨p1, p2⟩ := List.pairwise_cons.1 ha
      obtain ⟨l, l1, l2, l3, l4⟩ := ih (fun d hd => hm d (by simp [hd])) p2
      obtain ⟨b, b1, b2, _⟩ := (hm c (by simp)).1
      have hb := h.maps _ b b1
      refine ⟨b :: l, by simp [l1], List.nodup_cons.2 ⟨fun hbl => ?_, l2⟩, fun d hd => ?_, fun d hd => ?_⟩
      · obtain ⟨e, he, e1⟩ := l4 b hbl
        have e2 := (h.maps _ b e1).2
        rw [hb.2] at e2
        have : c.v = e.v := congrArg Tm.num e2
        exact p1 e he this
      · rcases List.mem_cons.1 hd with rfl | hd
        · exact List.mem_filter.2 ⟨hb.1, by unfold bndQ; rw [hb.2]; exact decide_eq_true ⟨rfl, b2⟩⟩
        · exact l3 d hd
      · rcases List.mem_cons.1 hd with rfl | hd
        · exact ⟨c, by simp, b1⟩
        · obtain ⟨e, he, e1⟩ := l4 d hd
          exact ⟨e, by simp [he], e1⟩
  obtain ⟨l, l1, l2, l3, _⟩ := key
  rw [← l1, h.cnt]
  exact inj_length l2 l3
theorem GotK.full {s : St} {left : Int → Bool} {l m : List Bd} (h : GotK s left l) (hl : ∀ v, left v = false) (hp : m.Perm l) (ha : m.Pairwise fun a b => ¬ b.v < a.v) : Full s m := by
  refine ⟨?_, fun c hc => (h.come c (hp.mem_iff.1 hc)).1, fun v b hm hr => ?_⟩
  · have h2 : m.Pairwise fun a b => ¬ a.v = b.v := (hp.pairwise_iff (fun {a b} k e => k e.symm)).2 h.once
    exact (ha.and h2).imp fun {a b} k => by omega
  · obtain ⟨c, hc, e⟩ := h.all v b hm (hl v) hr
    exact ⟨c, hp.mem_iff.2 hc, e⟩
/-- The test whether a root is the variable itself. -/
theorem self_root {s : St} {E : List (Tm × Tm)} (h : KInv s E) {v : Int} {b : Nat} (hm : s.M v = some b) : ((s.tm (s.rep b)).kind = 1 ∧ (s.tm (s.rep b)).num = v) ↔ s.rep b = b := by
  have hb := h.maps v b hm
  constructor
  · rintro ⟨h1, h2⟩
    have := h.vars _ (h.repD b hb.1) h1
    rw [h2, hm] at this
    exact (Option.some.inj this).symm
  · intro e
    rw [e, hb.2]
    exact ⟨rfl, rfl⟩
/-- What the bindings are: all of them; or one is too large. -/
def BndP (w0 : World) (s : St) (w : World) (e : Ending) (w' : World) : Prop :=
  ((∃ V u, e = .returned (.tuple #[V, .bool true]) ∧ ListO bdE 47 w' (iv w.heap.size w'.heap.size) V u ∧ Full s u) ∨
    (e = .returned (.tuple #[.slice none 0 0, .bool false]) ∧ ∃ v b r, s.M v = some b ∧ RoomS s (s.tm (s.rep b)) 5000 r ∧ r < 0)) ∧ Below w0.heap.size w0 w'

theorem RanK.iter {w : World} {b r n cnt : Nat} {f : EntK} {left : Int → Bool} (h : RanK w b r n f left cnt) : (∀ cs t, w.heap[r]? ≠ some (Obj.cells cs t (0, 0))) ∧ ∀ es c, w.heap[r]? ≠ some (Obj.map es c) := by
  obtain ⟨D, lf, ⟨es, clock, since, seen, c0, h1, h2, h3, h4, h5, h6⟩, hf, hl⟩ := h
  rw [h5]
  exact ⟨fun _ _ e => by simp at e, fun _ _ e => by simp at e⟩
theorem SolT.gen {w0 w w' : World} {p : Nat} {s : St} {tie : Nat → Option Nat} (h : SolT w0 p s tie w) (hB : Below w0.heap.size w0 w') (hk : ∀ (k : Nat) (cs : Array Value) (t : TypeId), w.heap[k]? = some (Obj.cells cs t (0, 0)) → w'.heap[k]? = w.heap[k]?) (hmp : ∀ (k : Nat) (es : Array MapEntry) (c : Nat), w.heap[k]? = some (Obj.map es c) → w'.heap[k]? = w.heap[k]?) : SolT w0 p s tie w' := by
  obtain ⟨mb, SV, xs, n, hh⟩ := h.head
  obtain ⟨es, clock, hm⟩ := hh.map.block
  refine ⟨hB, h.tieD, h.chain, fun b hb => ?_, h.plo, mb, SV, xs, n, ⟨(hk p _ _ hh.cell).trans hh.cell, hh.mlo, hh.map.frame (hmp mb _ _ hm), hh.count, rowT_kept hh.row fun k cs hkc => hk k _ _ hkc, hh.steps.1, fun j v q a1 a2 => ?_⟩⟩
  · obtain ⟨h1, a, c, PV, h2, h3, h4⟩ := h.knots b hb
    refine ⟨h1, a, c, PV, (hk b _ _ h2).trans h2, h3, ?_⟩
    generalize s.parts b = o at h4
    cases o with
    | none => exact h4
    | some q =>
      obtain ⟨x, y⟩ := q
      obtain ⟨g, k1, k2⟩ := h4
      exact ⟨g, k1, (hk g _ _ k2).trans k2⟩
  · obtain ⟨x, y, z, e, b1, b2, b3⟩ := hh.steps.2 j v q a1 a2
    exact ⟨x, y, z, e, (hk x _ _ b1).trans b1, (hk y _ _ b2).trans b2, (hk z _ _ b3).trans b3⟩
/-- What the loop over the knots carries. -/
structure Car (w0 : World) (p : Nat) (s : St) (mb r n : Nat) (left : Int → Bool) (cnt : Nat) (lv : Value) (l : List Bd) (W : World) : Prop where
  ran : RanK W mb r n s.M left cnt
  lst : ListO bdE 47 W (iv (r + 1) W.heap.size) lv l
  sol : SolW w0 p s W
  sz : r + 1 ≤ W.heap.size
theorem Car.kept {w0 : World} {p : Nat} {s : St} {mb r n : Nat} {left : Int → Bool} {cnt : Nat} {lv : Value} {l : List Bd} {W W' : World} (h : Car w0 p s mb r n left cnt lv l W) (hb : Below W.heap.size W W') : Car w0 p s mb r n left cnt lv l W' :=
  ⟨h.ran.kept hb, (h.lst.kept hb).sub fun k hk => ⟨hk.1, Nat.lt_of_lt_of_le hk.2 hb.size⟩, h.sol.kept hb, Nat.le_trans h.sz hb.size⟩
theorem Car.only {w0 : World} {p : Nat} {s : St} {mb r n : Nat} {left : Int → Bool} {cnt : Nat} {lv : Value} {l : List Bd} {W W' : World} (h : Car w0 p s mb r n left cnt lv l W) (ho : Only (fun k => k ∈ s.D) W W') (hS : SolW w0 p s W') (hD : ∀ k ∈ s.D, k < r) (hm : ¬ mb ∈ s.D) : Car w0 p s mb r n left cnt lv l W' :=
  ⟨h.ran.frame (ho.block mb h.ran.lt.1 hm) (ho.block r h.ran.lt.2.1 (fun k => by have := hD r k; omega)), (h.lst.only ho fun k hk hx => by have h1 := hD k hx; have h2 := hk.1; omega).sub fun k hk => ⟨hk.1, Nat.lt_of_lt_of_le hk.2 ho.size⟩, hS, Nat.le_trans h.sz ho.size⟩

set_option maxRecDepth 100000 in
set_option maxHeartbeats 8000000 in
theorem solBindings_any (w0 : World) (p : Nat) (s : St) (E : List (Tm × Tm)) (w : World) (h : SolW w0 p s w) (hI : KInv s E) (hC : credB s ≤ 1099511500000) (hB : s.bound ≤ 400) :
    Calls Try.prog 114 #[.pointer (some ⟨p, 0, none⟩)] w (BndP w0 s w) := by
  obtain ⟨i0, hi, hz0, hz1, hz2⟩ := info_parts infoBinding
  have HII := Lib.hid (And.intro hi (And.intro hz0 (And.intro hz1 hz2)))
  have HSW := Lib.hid h
  have HIN := Lib.hid (And.intro hI hB)
  have HND : Hid (∀ k ∈ s.D, k < w.heap.size) := Lib.hid fun k hk => h.lt hk
  have HLO := Lib.hid h.old.size
  obtain ⟨tie, hT⟩ := h
  obtain ⟨mb, SV, xs, n, hh⟩ := hT.head
  have HNM : Hid (¬ mb ∈ s.D) := Lib.hid fun hk => (hh.ne (hT.knots mb hk).isK).2.1 rfl
  have HM := Lib.hid hh.map
  have hn : n ≤ 1099511500000 := Nat.le_trans hh.count (Nat.le_trans (len_credB s) hC)
  obtain ⟨e0, e1, e2, ef⟩ := hh.cells
  clear hi hz0 hz1 hz2 hT hh hI hC hB e1 e2 ef
  go_enter Try.func114, Try.ntmps114
  go_wp2_with (at_range; refine wpList_rangeK _ rfl _ rfl mb n s.M rfl HM.out ?_; intro wz cnt0 hc0 hrg0 hb0 hs0)
  have HR0 := Lib.hid hrg0
  have HB0 := Lib.hid hb0
  have HS0 := Lib.hid hs0
  have HG0 := Lib.hid (gotK_start s)
  clear hrg0 hb0 hs0 e0
  go_frame
  go_loopw [4] (fun lv wr => ∃ (left : Int → Bool) (cnt : Nat) (l : List Bd), Hid (RanK wr mb w.heap.size n s.M left cnt) ∧ Hid (ListO bdE 47 wr (iv (w.heap.size + 1) wr.heap.size) lv l) ∧ Hid (GotK s left l) ∧ l.length + cnt ≤ n ∧ Hid (SolW w0 p s wr) ∧ Hid (w.heap.size + 1 ≤ wr.heap.size)) (fun _ wr => wr.rangeLeft mb w.heap.size)
  case atStart => exact ⟨_, cnt0, [], HR0, Lib.hid .nil, HG0, by simpa using hc0, Lib.hid (HSW.out.kept HB0.out), Lib.hid (by rw [HS0.out]; exact Nat.le_refl _)⟩
  case round =>
    obtain ⟨left, cnt, l, HR, HO, HG, hlc, HS, HSZ⟩ := hrel
    obtain ⟨oa, oc, rfl⟩ := HO.out.slice
    clear HR0 HB0 HS0 HG0 hc0 HSW
    have hrl := HR.out.left_eq
    have HRL := Lib.hid hrl
    clear hrl
    go_wp2_with (at_next; refine wpList_nextK _ rfl _ rfl mb w.heap.size n cnt s.M left rfl HR.out ?_ ?_)
    · intro hc1 hl0
      have hlen : l.length ≤ 4194304 := by have h1 := gotK_len HIN.out.1 HG.out; have h2 := HIN.out.2; omega
      have HSO := Lib.hid (sortB_any l _ _ wr HO.out hlen)
      have HL0 := Lib.hid hl0
      clear hl0 hlen
      go_wp2_with fail
      refine HSO.out.mono ?_
      rintro e w2 ⟨rfl, m, hmp, hms, hmo, hon⟩
      have HE : Hid (BndP w0 s w (.returned (.tuple #[.slice oa l.length oc, .bool true])) w2) := Lib.hid ⟨.inl ⟨_, m, rfl, hmo.sub fun k hk => ⟨by have := hk.1; omega, by have := hk.2; have := hon.size; omega⟩, HG.out.full HL0.out hmp hms⟩,
        HS.out.old.trans (hon.below (fun k hk => by have h1 := hk.1; have h2 := HLO.out; omega) HS.out.old.size)⟩
      clear hmp hms hmo hon HSO HL0
      go_wp2
      go_ret2
      exact HE.out
    · intro v b w1 cnt1 hwf hlv hfv hrg hlt hgr hsz hen
      have hbD := (HIN.out.1.maps v b hfv).1
      have hrD := HIN.out.1.repD b hbD
      have hok := HIN.out.1.ok _ hrD
      have HLV := Lib.hid (And.intro hlv hfv)
      have HSELF := Lib.hid (self_root HIN.out.1 hfv)
      have HBD := Lib.hid (And.intro hbD (And.intro hrD hok))
      have HC1 : Hid (Car w0 p s mb w.heap.size n (fun x => left x && !decide (x = v)) cnt1 (.slice oa l.length oc) l w1) := Lib.hid (by
        refine ⟨hrg, (HO.out.frame fun k hk hks => hgr.block k hks (fun e => by cases e; have := hk.1; omega)).sub fun k hk => ⟨hk.1, by rw [hsz]; exact hk.2⟩, ?_, by rw [hsz]; exact HSZ.out⟩
        obtain ⟨tie1, hT1⟩ := HS.out
        have hit := HR.out.iter
        refine ⟨tie1, hT1.gen (hT1.old.trans (below_of_grown hgr hT1.old.size (fun j hj => by cases hj; exact HLO.out))) (fun k cs t hk => hgr.block k (lt_of_cells hk) fun e => ?_) (fun k es c hk => hgr.block k (lt_of_cells hk) fun e => ?_)⟩
        · cases e; exact hit.1 cs t hk
        · cases e; exact hit.2 es c hk)
      have HLT := Lib.hid hlt
      clear hrg hgr hfv hlv hsz HR HO HS HSZ hbD hrD hok hlt
      have HC := Lib.hid (root_any w0 p s b w1 HC1.out.sol HBD.out.1)
      go_wp2_with fail
      refine HC.out.mono ?_
      rintro e w2 ⟨rfl, hS2, ho2⟩
      have HC2 := Lib.hid (HC1.out.only ho2 hS2 HND.out HNM.out)
      obtain ⟨tie2, hT2⟩ := hS2
      obtain ⟨ra, rc, PV, hAR, _, k0, k1, k2, k3, k4, k5, kf⟩ := (hT2.knots _ HBD.out.2.1).cells
      have HAR := Lib.hid hAR
      have HOK := Lib.hid HBD.out.2.2
      have hkl : s.rep b < w2.heap.size := (hT2.knots _ HBD.out.2.1).lt
      clear hT2 hAR k0 k5 kf ho2 HC HC1 hen
      have HROM : Hid (∀ r, RoomS s (s.tm (s.rep b)) 5000 r → r < 0 → BndP w0 s w (.returned (.tuple #[.slice none 0 0, .bool false])) w0 → True) := Lib.hid fun _ _ _ _ => trivial
      have HBAD : Hid (∀ (r : Int) (W : World), RoomS s (s.tm (s.rep b)) 5000 r → r < 0 → Below w0.heap.size w0 W → BndP w0 s w (.returned (.tuple #[.slice none 0 0, .bool false])) W) := Lib.hid fun r W h1 h2 h3 => ⟨.inr ⟨rfl, v, b, r, HLV.out.2, h1, h2⟩, h3⟩
      have HSTEP : Hid (∀ u, s.rep b ≠ b → Fill s (s.tm (s.rep b)) u → u.nodes ≤ 5000 → GotK s (fun x => left x && !decide (x = v)) (l ++ [⟨v, u⟩])) := Lib.hid fun u h1 h2 h3 => HG.out.step HLV.out.1 HLV.out.2 h1 h2 h3
      have HSKIP : Hid (s.rep b = b → GotK s (fun x => left x && !decide (x = v)) l) := Lib.hid fun h1 => HG.out.skip HLV.out.2 h1
      clear HROM HBD
      generalize hm0 : s.tm (s.rep b) = m at k1 k2 k3 k4 HAR HOK HBAD HSTEP HSELF
      clear hm0
      generalize s.rep b = rb at k1 k2 k3 k4 HSTEP HSKIP HSELF hkl ⊢
      go_upto_region 6 with (fail)
      have hal : Below w2.heap.size w2 (w2.alloc (.cells #[.int .i64 m.kind, .int .i64 m.num, .string m.name, .slice ra m.args.length rc] 27)) := belowAlloc (Below.refl _ _) _
      have HBX := Lib.hid (heap_new w2 (.cells #[.int .i64 m.kind, .int .i64 m.num, .string m.name, .slice ra m.args.length rc] 27))
      have HC3 := Lib.hid (HC2.out.kept hal)
      have HNB : Hid (∀ k ∈ s.D, ¬ k = w2.heap.size) := Lib.hid fun k hk e => by have := HND.out k hk; have := HC2.out.sz; omega
      clear hal k1 k2 k3 k4 HC2 hkl
      generalize hw3 : w2.alloc (.cells #[.int .i64 m.kind, .int .i64 m.num, .string m.name, .slice ra m.args.length rc] 27) = w3 at HBX HC3 ⊢
      clear hw3
      generalize w2.heap.size = nb at HBX HNB ⊢
      have HCE : Hid (∀ W, Only (fun k => k ∈ s.D) w3 W → W.cell? ⟨nb, 0, none⟩ = some (.int .i64 m.kind) ∧ W.cell? ⟨nb, 1, none⟩ = some (.int .i64 m.num) ∧ W.cell? ⟨nb, 2, none⟩ = some (.string m.name) ∧ W.cell? ⟨nb, 3, none⟩ = some (.slice ra m.args.length rc)) := Lib.hid fun W hW => by
        obtain ⟨y0, y1, y2, y3, _⟩ := box_cells (bx_keep HBX.out hW (fun hk => HNB.out _ hk rfl))
        exact ⟨y0, y1, y2, y3⟩
      obtain ⟨y0, y1, y2, y3⟩ := HCE.out w3 (Only.refl _ _)
      have HV := Lib.hid (isVar_any m ra rc v w3)
      go_wp2_with fail
      refine HV.out.mono ?_
      rintro e w4 ⟨rfl, hb4⟩
      have HC4 := Lib.hid (HC3.out.kept hb4)
      have HO4 : Hid (Only (fun k => k ∈ s.D) w3 w4) := Lib.hid (Only.of_below hb4)
      clear hb4 HV y0 y1 y2 y3 HC3
      by_cases hself : rb = b
      · have d1 : decide (m.kind = 1 ∧ m.num = v) = true := decide_eq_true (HSELF.out.2 hself)
        rw [d1]
        have HGN := Lib.hid (HSKIP.out hself)
        clear d1 hself HSELF HSKIP HSTEP HBAD
        go_wp2
        go_roundw
        case rel => exact ⟨_, cnt1, l, Lib.hid HC4.out.ran, Lib.hid HC4.out.lst, HGN, by have := HLT.out; omega, Lib.hid HC4.out.sol, Lib.hid HC4.out.sz⟩
        case measure => rw [HC4.out.ran.left_eq, HRL.out]; exact HLT.out
      · have d1 : decide (m.kind = 1 ∧ m.num = v) = false := decide_eq_false (fun h => hself (HSELF.out.1 h))
        rw [d1]
        have HSF := Lib.hid hself
        clear d1 hself HSELF HSKIP
        obtain ⟨y0, y1, y2, y3⟩ := HCE.out w4 HO4.out
        have HRA := Lib.hid (solRoom_any 5002 w0 p s E m (.slice ra m.args.length rc) 5000 w4 (by omega) HC4.out.sol HIN.out.1 HAR.out HOK.out (by omega) (by omega))
        go_wp2_with fail
        refine HRA.out.mono ?_
        rintro e w5 ⟨rr, rfl, hrr, hS5, ho5⟩
        have hbd5 := room_bd hrr
        have HRR := Lib.hid hrr
        have HC5 := Lib.hid (HC4.out.only ho5 hS5 HND.out HNM.out)
        have HO5 := Lib.hid (HO4.out.trans ho5)
        clear hrr hS5 ho5 HRA y0 y1 y2 y3 HC4 HO4
        by_cases hneg : rr < 0
        · have HE := Lib.hid (HBAD.out rr w5 HRR.out hneg HC5.out.sol.old)
          clear HBAD HSTEP
          go_wp2
          go_ret2
          exact HE.out
        · obtain ⟨u, hfu, hun⟩ : ∃ u, Fill s m u ∧ u.nodes ≤ 5000 := by
            rcases HRR.out with ⟨u, h1, h2, h3⟩ | ⟨h1, _⟩
            · exact ⟨u, h1, by omega⟩
            · exact absurd h1 hneg
          have HGN := Lib.hid (HSTEP.out u HSF.out hfu hun)
          obtain ⟨y0, y1, y2, y3⟩ := HCE.out w5 HO5.out
          have HFL := Lib.hid (filled_any (u.nodes + 1) w0 p s E m u (.slice ra m.args.length rc) w5 (Nat.lt_succ_self _) hfu HC5.out.sol HIN.out.1 HAR.out HOK.out)
          clear hfu hun HBAD HSTEP HRR
          go_wp2_with fail
          refine HFL.out.mono ?_
          rintro e w6 ⟨UV, rfl, hnt, hS6, ho6⟩
          obtain ⟨va, vc, rfl⟩ := hnt.argsAt.slice
          have HN := Lib.hid hnt
          have HC6 := Lib.hid (HC5.out.only ho6 hS6 HND.out HNM.out)
          obtain ⟨L, C, hL1, hrow, hbk, hr, hC, hd⟩ := (HC5.out.lst.only ho6 (fun k hk hx => by have h1 := HND.out k hx; have h2 := hk.1; omega)).parts
          obtain ⟨q, hq⟩ : ∃ q, q = l.length := ⟨_, rfl⟩
          have hqn : q ≤ 1099511500000 := by omega
          have hLn : q = L.length := by have := congrArg List.length hL1; rw [List.length_map, ← hq] at this; exact this
          rw [← hLn, ← hq] at hrow
          rw [← hq] at hbk hC ⊢
          have HROW := Lib.hid hrow
          have HPA := Lib.hid (And.intro hL1 (And.intro hLn (And.intro hbk (And.intro hr (And.intro hC hd)))))
          have HS56 := Lib.hid ho6.size
          have HSZ5 := Lib.hid HC5.out.sz
          have HQQ := Lib.hid hq
          clear hL1 hLn hrow hbk hr hC hd hnt hS6 ho6 HFL y0 y1 y2 y3 hq HC5
          go_wp2_with (at_builtin; refine wpList_append_lies _ rfl _ _ 23 rfl 0 47 i0 _ 5 64 Try.underlying23 HII.out.1 HII.out.2.1 HII.out.2.2.1 HII.out.2.2.2 rfl (by omega) (.slice oa q oc) q (cellsE bdE L) rfl (HROW.out.alloc _) ⟨w6.heap.size, 0, none⟩ 1 1 (bdE.cells ⟨v, u⟩ (.slice va u.args.length vc)) rfl rfl (World.news_of_block (heap_alloc_new w6 _)) (by simp [bdE, Value.oneCell']) (by omega) (by unfold maxLen; omega) (by omega) (Nat.zero_le _) (w6.heap.size + 1) (by simp) ?_; intro gg cap' w7 hown1 hgrow hat hlt1; have HAP := Lib.hid (And.intro hown1 (And.intro hgrow (And.intro hat hlt1))); clear hown1 hgrow hat hlt1)
          have HC7 : Hid (Car w0 p s mb w.heap.size n (fun x => left x && !decide (x = v)) cnt1 (.slice (some ⟨gg, 0, none⟩) (q + 1) cap') (l ++ [⟨v, u⟩]) w7) := Lib.hid (by
            have hgs := HAP.out.2.1.size
            simp only [World.size_alloc] at hgs
            have hb1 := HSZ5.out
            have hb2 := HC6.out.sz
            have h := listO_append (E := bdE) (x := ⟨v, u⟩) (S' := iv (w.heap.size + 1) w7.heap.size) HPA.out.2.1 HPA.out.2.2.1 HPA.out.2.2.2.1 HPA.out.2.2.2.2.1 HPA.out.2.2.2.2.2 HN.out (fun j hj => by have := hj.2; have := HS56.out; omega) (fun j hj => ⟨hj.2, fun h => by have h1 := hj.1; have h2 := h.2; omega⟩) (belowAlloc (Below.refl _ _) _) HAP.out.1 HAP.out.2.1 (HAP.out.2.2.1.imp id (fun h => by omega)) (fun j hj => by
              have hl := HAP.out.2.2.2
              have h56 := HS56.out
              rcases hj with hj | hj | hj
              · exact ⟨hj.1, by have := hj.2; omega⟩
              · exact ⟨by have := hj.1; omega, by have := hj.2; omega⟩
              · subst hj
                refine ⟨?_, hl⟩
                rcases HAP.out.2.2.1 with h | h
                · exact (HPA.out.2.2.1 _ h).1
                · omega)
            rw [← HPA.out.1] at h
            have hca := HC6.out.kept (belowAlloc (Below.refl _ _) (.cells #[.int .i64 v, .int .i64 u.kind, .int .i64 u.num, .string u.name, .slice va u.args.length vc] 47))
            have hran := hca.ran
            refine ⟨hran.frame (HAP.out.2.1.block mb hran.lt.1 (fun e => ?_)) (HAP.out.2.1.block w.heap.size hran.lt.2.1 (fun e => ?_)), h, ?_, by omega⟩
            · have h1 := (HPA.out.2.2.1 mb e.symm).1
              have h2 := HM.out.lt
              omega
            · have := (HPA.out.2.2.1 w.heap.size e.symm).1; omega
            · obtain ⟨tie6, hT6⟩ := hca.sol
              have hg := HAP.out.2.1
              refine ⟨tie6, hT6.other 47 (by decide) (by decide) (by decide) (by decide) (by decide) ⟨hg.os, hg.tape, hg.output, hg.size, fun k hk hq => hg.block k hk fun e => hq ?_⟩ (below_of_grown hg hT6.old.size fun j hj => by have h1 := (HPA.out.2.2.1 j hj).1; have h2 := HLO.out; omega)⟩
              rcases (HROW.out.alloc (.cells #[.int .i64 v, .int .i64 u.kind, .int .i64 u.num, .string u.name, .slice va u.args.length vc] 47)).2 with ⟨h1, _⟩ | ⟨g', cp, cur, h1, _, h3, _⟩
              · rw [h1] at e; simp [Value.ownBlock] at e
              · rw [h1] at e
                have e' : k = g' := by simpa [Value.ownBlock] using e
                rw [e']
                exact ⟨cur, h3⟩)
          clear HAP HPA HROW HN HS56 HSZ5 HC6
          go_roundw
          case rel => exact ⟨_, cnt1, l ++ [⟨v, u⟩], Lib.hid HC7.out.ran, Lib.hid HC7.out.lst, HGN, by have := HQQ.out; have := HLT.out; rw [List.length_append, List.length_singleton]; omega, Lib.hid HC7.out.sol, Lib.hid HC7.out.sz⟩
          case measure => rw [HC7.out.ran.left_eq, HRL.out]; exact HLT.out
end Go.Proofs.Ytbbgiefnmihmdaa

