/-
  The program's solver: partsOf.
-/
import Derived.Test.YtealiilcnmdmdaaGreatKnotA
import Derived.Deep.RegionHeld3
import Derived.Lib.SliceRun
namespace Go.Proofs.YtealiilcnmdmdaaGreat
open Go.RowKit
set_option linter.unusedVariables false
set_option linter.unusedSimpArgs false

/-- What partsOf makes. -/
def PtS (s : St) (k x y : Nat) (s' : St) : Prop := (s' = s ∧ s.parts k = some (x, y)) ∨ (s.parts k = none ∧ ∃ s1 s2 u v, s.tm k = pairTm u v ∧ KnS s u x s1 ∧ KnS s1 v y s2 ∧ s' = partS s2 k x y)
theorem PtS.ext {s s' : St} {E : List (Tm × Tm)} {k x y : Nat} (hI : KInv s E) (hk : k ∈ s.D) (h : PtS s k x y s') : Ext 0 s s' ∧ s'.parts k = some (x, y) := by
  rcases h with ⟨rfl, h⟩ | ⟨h0, s1, s2, u, v, ht, h1, h2, rfl⟩
  · exact ⟨Ext.refl _ _, h⟩
  · exact parts_ext hI hk h0 ht h1 h2
theorem KnS.pop {s s' : St} {t : Tm} {b : Nat} {r : List (Nat × Nat)} (h : KnS (popS s r) t b s') : KnS s t b { s' with steps := s.steps } ∧ s' = popS { s' with steps := s.steps } r := by
  rcases h with ⟨rfl, h1, h2⟩ | ⟨rfl, h1, h2⟩
  · exact ⟨.inl ⟨rfl, h1, h2⟩, rfl⟩
  · exact ⟨.inr ⟨rfl, h1, h2⟩, rfl⟩
theorem PtS.pop {s s' : St} {k x y : Nat} {r : List (Nat × Nat)} (h : PtS (popS s r) k x y s') : PtS s k x y { s' with steps := s.steps } ∧ s' = popS { s' with steps := s.steps } r := by
  rcases h with ⟨rfl, h⟩ | ⟨h0, s1, s2, u, v, ht, h1, h2, rfl⟩
  · exact ⟨.inl ⟨rfl, h⟩, rfl⟩
  · obtain ⟨a1, a2⟩ := h1.pop
    rw [a2] at h2
    obtain ⟨b1, b2⟩ := h2.pop
    refine ⟨.inr ⟨h0, _, _, u, v, ht, a1, b1, ?_⟩, ?_⟩
    · rfl
    · rw [b2]; rfl
/-- What a walk through knots wants to know of them. -/
def Pre (s : St) : Prop := (∀ b ∈ s.D, Ok (s.tm b)) ∧ ∀ v b, s.M v = some b → b ∈ s.D ∧ s.tm b = varTm v
theorem KInv.pre {s : St} {E : List (Tm × Tm)} (h : KInv s E) : Pre s := ⟨h.ok, h.maps⟩
theorem KnS.pre {s s' : St} {t : Tm} {b : Nat} (h : Pre s) (ht : Ok t) (k : KnS s t b s') : Pre s' := by
  rcases k with ⟨rfl, _⟩ | ⟨rfl, hb, hv⟩
  · exact h
  · refine ⟨fun c hc => ?_, fun v c hm => ?_⟩
    · rcases List.mem_cons.1 hc with rfl | hc
      · rw [(new_self s c t).1]; exact ht
      · rw [(new_old t hb hc).1]; exact h.1 c hc
    · have hm' : (if t.kind = 1 ∧ v = t.num then some b else s.M v) = some c := hm
      by_cases hc : t.kind = 1 ∧ v = t.num
      · rw [if_pos hc] at hm'
        cases hm'
        refine ⟨List.mem_cons_self, ?_⟩
        rw [(new_self s b t).1, var_is ht.2 hc.1, hc.2]
      · rw [if_neg hc] at hm'
        obtain ⟨k1, k2⟩ := h.2 v c hm'
        exact ⟨List.mem_cons_of_mem _ k1, by rw [(new_old t hb k1).1]; exact k2⟩
theorem SolW.old {w0 w : World} {p : Nat} {s : St} (h : SolW w0 p s w) : Below w0.heap.size w0 w := by obtain ⟨_, h⟩ := h; exact h.old

set_option maxRecDepth 100000 in
set_option maxHeartbeats 2000000 in
theorem partsOf_any (w0 : World) (p : Nat) (s : St) (k : Nat) (w : World) (h : SolW w0 p s w) (hI : Pre s) (hk : k ∈ s.D) (h4 : (s.tm k).kind = 4) (hD : s.D.length ≤ 1099511600000) :
    Calls Tryz.prog 112 #[.pointer (some ⟨p, 0, none⟩), .pointer (some ⟨k, 0, none⟩)] w fun e w' => ∃ x y s' g, e = .returned (.slice (some ⟨g, 0, none⟩) 2 2) ∧ w'.heap[g]? = some (.cells #[ptrN x, ptrN y] 90 (0, 0)) ∧ PtS s k x y s' ∧ SolW w0 p s' w' ∧ Fr isM w w' := by
  obtain ⟨tie, hT⟩ := h
  have hkc := hT.knots k hk
  cases hp : s.parts k with
  | some q =>
    obtain ⟨x, y⟩ := q
    rw [hp] at hkc
    obtain ⟨a, c, PV, _, ⟨g, rfl, hg⟩, _, _, _, _, _, c5, f⟩ := hkc.cells
    have f5 := f 5
    have HE : Hid (w.heap[g]? = some (.cells #[ptrN x, ptrN y] 90 (0, 0)) ∧ PtS s k x y s ∧ SolW w0 p s w ∧ Fr isM w w) := Lib.hid ⟨hg, .inl ⟨rfl, hp⟩, ⟨_, hT⟩, Fr.refl _ _⟩
    clear hT hkc hp hg f hI hk h4 hD
    have hnil := fun (W : World) (q : Option Addr) (n c : Nat) => Lib.run_eql_slice_nil (P := Tryz.prog) W 108 _ q n c 0 0 Tryz.underlying108
    go_enter Tryz.func112, Tryz.ntmps112
    go_wp2
    go_ret
    exact ⟨x, y, s, g, rfl, HE.out.1, HE.out.2.1, HE.out.2.2.1, HE.out.2.2.2⟩
  | none =>
    rw [hp] at hkc
    obtain ⟨u, v, ht, gu, gv⟩ := good_pair (hI.1 k hk).2 h4
    have ht' : s.tm k = pairTm u v := ht
    have hokp := hI.1 k hk
    rw [ht'] at hokp
    have hok2 := ok_two hokp
    obtain ⟨hlo, a, c, PV, hcell, hargs, hPV⟩ := hkc
    have hPV' : PV = .slice none 0 0 := hPV
    subst hPV'
    rw [ht'] at hcell hargs
    obtain ⟨ga, offa, u1, u2, v1, v2, rfl, hga, hla, hcx, hcy, hax, hay⟩ := hargs.two (x := u) (y := v) rfl
    have hz : w.cell? ⟨k, 5, none⟩ = some (.slice none 0 0) := cell_of_row w k 5 _ _ _ hcell
    have HH0 : Hid (∀ (s1 : St) (W : World), SolW w0 p s1 W → Calls Tryz.prog 99 #[.agg #[.int .i64 4, .int .i64 0, .string ⟨#[]⟩, .slice (some ⟨ga, offa, none⟩) 2 c]] W fun e w' => e = .returned (.agg #[.int .i64 u.kind, .int .i64 u.num, .string u.name, .slice u1 u.args.length u2]) ∧ Below W.heap.size W w') := Lib.hid fun s1 W hW => by
      obtain ⟨q0, q1, q2, q3⟩ := hcx W hW.old
      exact head_any 4 0 ⟨#[]⟩ ga offa 2 c _ _ _ _ _ _ W (Nat.lt_of_lt_of_le hga hW.old.size) (by omega) (by omega) q0 q1 q2 q3
    have HH1 : Hid (∀ (s1 : St) (W : World), SolW w0 p s1 W → Calls Tryz.prog 100 #[.agg #[.int .i64 4, .int .i64 0, .string ⟨#[]⟩, .slice (some ⟨ga, offa, none⟩) 2 c]] W fun e w' => e = .returned (.agg #[.int .i64 v.kind, .int .i64 v.num, .string v.name, .slice v1 v.args.length v2]) ∧ Below W.heap.size W w') := Lib.hid fun s1 W hW => by
      obtain ⟨q0, q1, q2, q3⟩ := hcy W hW.old
      exact tail_any 4 0 ⟨#[]⟩ ga offa 2 c _ _ _ _ _ _ W (Nat.lt_of_lt_of_le hga hW.old.size) (by omega) (by omega) q0 q1 q2 q3
    have HK0 : Hid (∀ (W : World), SolW w0 p s W → Calls Tryz.prog 63 #[.pointer (some ⟨p, 0, none⟩), .agg #[.int .i64 u.kind, .int .i64 u.num, .string u.name, .slice u1 u.args.length u2]] W fun e w' => ∃ b s', e = .returned (.pointer (some ⟨b, 0, none⟩)) ∧ KnS s u b s' ∧ SolW w0 p s' w' ∧ Fr isP W w') := Lib.hid fun W hW =>
      knotOf_any w0 p s u _ W hW hax hok2.1 (by omega) hI.2
    have HK1 : Hid (∀ (s1 : St) (x : Nat), KnS s u x s1 → ∀ (W : World), SolW w0 p s1 W → Calls Tryz.prog 63 #[.pointer (some ⟨p, 0, none⟩), .agg #[.int .i64 v.kind, .int .i64 v.num, .string v.name, .slice v1 v.args.length v2]] W fun e w' => ∃ b s', e = .returned (.pointer (some ⟨b, 0, none⟩)) ∧ KnS s1 v b s' ∧ SolW w0 p s' w' ∧ Fr isP W w') := Lib.hid fun s1 x hx W hW => by
      refine knotOf_any w0 p s1 v _ W hW hay hok2.2 ?_ (hx.pre hI hok2.1).2
      rcases hx with ⟨rfl, _⟩ | ⟨rfl, _⟩
      · omega
      · show (s.D.length + 1) ≤ _
        omega
    have HCE : Hid (∀ W, Fr isP w W → W.cell? ⟨k, 1, none⟩ = some (.int .i64 4) ∧ W.cell? ⟨k, 2, none⟩ = some (.int .i64 0) ∧ W.cell? ⟨k, 3, none⟩ = some (.string ⟨#[]⟩) ∧ W.cell? ⟨k, 4, none⟩ = some (.slice (some ⟨ga, offa, none⟩) 2 c) ∧ W.cell? ⟨k, 5, none⟩ = some (.slice none 0 0) ∧ W.frozen? ⟨k, 5, none⟩ = false ∧ k < W.heap.size) := Lib.hid fun W hW => by
      have hc := hW.cells hcell not_isP
      exact ⟨cell_of_row W k 1 _ _ _ hc, cell_of_row W k 2 _ _ _ hc, cell_of_row W k 3 _ _ _ hc, cell_of_row W k 4 _ _ _ hc, cell_of_row W k 5 _ _ _ hc, frozen_of_row W k 5 _ _ hc, lt_of_cells hc⟩
    have HCF : Hid (∀ (W : World) (x y : Nat), Fr isP w W → ((W.setCell ⟨k, 5, none⟩ (.slice (some ⟨W.heap.size, 0, none⟩) 2 2)).alloc (.cells #[.pointer (some ⟨x, 0, none⟩), .pointer (some ⟨y, 0, none⟩)] 90)).cell? ⟨k, 1, none⟩ = some (.int .i64 4) ∧ ((W.setCell ⟨k, 5, none⟩ (.slice (some ⟨W.heap.size, 0, none⟩) 2 2)).alloc (.cells #[.pointer (some ⟨x, 0, none⟩), .pointer (some ⟨y, 0, none⟩)] 90)).cell? ⟨k, 2, none⟩ = some (.int .i64 0) ∧ ((W.setCell ⟨k, 5, none⟩ (.slice (some ⟨W.heap.size, 0, none⟩) 2 2)).alloc (.cells #[.pointer (some ⟨x, 0, none⟩), .pointer (some ⟨y, 0, none⟩)] 90)).cell? ⟨k, 3, none⟩ = some (.string ⟨#[]⟩) ∧ ((W.setCell ⟨k, 5, none⟩ (.slice (some ⟨W.heap.size, 0, none⟩) 2 2)).alloc (.cells #[.pointer (some ⟨x, 0, none⟩), .pointer (some ⟨y, 0, none⟩)] 90)).cell? ⟨k, 4, none⟩ = some (.slice (some ⟨ga, offa, none⟩) 2 c) ∧ ((W.setCell ⟨k, 5, none⟩ (.slice (some ⟨W.heap.size, 0, none⟩) 2 2)).alloc (.cells #[.pointer (some ⟨x, 0, none⟩), .pointer (some ⟨y, 0, none⟩)] 90)).cell? ⟨k, 5, none⟩ = some (.slice (some ⟨W.heap.size, 0, none⟩) 2 2)) := Lib.hid fun W x y hW => by
      have hc := heap_setCell_same W k 5 _ _ (.slice (some ⟨W.heap.size, 0, none⟩) 2 2) (hW.cells hcell not_isP)
      have hb := (Below.refl (W.setCell ⟨k, 5, none⟩ (.slice (some ⟨W.heap.size, 0, none⟩) 2 2)).heap.size (W.setCell ⟨k, 5, none⟩ (.slice (some ⟨W.heap.size, 0, none⟩) 2 2)))
      have hc2 := ((belowAlloc hb (.cells #[.pointer (some ⟨x, 0, none⟩), .pointer (some ⟨y, 0, none⟩)] 90)).block k (lt_of_cells hc)).trans hc
      exact ⟨cell_of_row _ k 1 _ _ _ hc2, cell_of_row _ k 2 _ _ _ hc2, cell_of_row _ k 3 _ _ _ hc2, cell_of_row _ k 4 _ _ _ hc2, cell_of_row _ k 5 _ _ _ hc2⟩
    have HTF : Hid (∀ a b, Fr isP w a → Below a.heap.size a b → Fr isP w b) := Lib.hid fun a b h1 h2 => h1.trans (Fr.of_below h2)
    have HTG : Hid (∀ a b, Fr isP w a → Fr isP a b → Fr isP w b) := Lib.hid fun a b h1 h2 => h1.trans h2
    have HTS : Hid (∀ (s1 : St) a b, SolW w0 p s1 a → Below a.heap.size a b → SolW w0 p s1 b) := Lib.hid fun s1 a b h1 h2 => h1.kept h2
    have hS0 : SolW w0 p s w := ⟨_, hT⟩
    have hS1 : SolW w0 p s w.drew := hS0.kept (Below.refl _ _).drew
    have hF0 : Fr isP w w := Fr.refl _ _
    have hF1 : Fr isP w w.drew := Fr.of_below (Below.refl _ _).drew
    have HEND : Hid (∀ (s1 s2 : St) (x y : Nat) (W : World), KnS s u x s1 → KnS s1 v y s2 → SolW w0 p s2 W → Fr isP w W →
        ((W.setCell ⟨k, 5, none⟩ (.slice (some ⟨W.heap.size, 0, none⟩) 2 2)).alloc (.cells #[.pointer (some ⟨x, 0, none⟩), .pointer (some ⟨y, 0, none⟩)] 90)).heap[W.heap.size]? = some (.cells #[ptrN x, ptrN y] 90 (0, 0)) ∧ PtS s k x y (partS s2 k x y) ∧
        SolW w0 p (partS s2 k x y) ((W.setCell ⟨k, 5, none⟩ (.slice (some ⟨W.heap.size, 0, none⟩) 2 2)).alloc (.cells #[.pointer (some ⟨x, 0, none⟩), .pointer (some ⟨y, 0, none⟩)] 90)) ∧
        Fr isM w ((W.setCell ⟨k, 5, none⟩ (.slice (some ⟨W.heap.size, 0, none⟩) 2 2)).alloc (.cells #[.pointer (some ⟨x, 0, none⟩), .pointer (some ⟨y, 0, none⟩)] 90))) := Lib.hid fun s1 s2 x y W h1 h2 h3 h4 => by
      have hkl : k < W.heap.size := lt_of_cells (h4.cells hcell not_isP)
      rw [← World.setCell_alloc_past (w := W) (.cells #[.pointer (some ⟨x, 0, none⟩), .pointer (some ⟨y, 0, none⟩)] 90) k 5 (.slice (some ⟨W.heap.size, 0, none⟩) 2 2) hkl]
      obtain ⟨t2, h3⟩ := h3.kept (belowAlloc (Below.refl _ _) (.cells #[.pointer (some ⟨x, 0, none⟩), .pointer (some ⟨y, 0, none⟩)] 90))
      have hkD : k ∈ s2.D := (h2.ext hok2.2).1.D k ((h1.ext hok2.1).1.D k hk)
      have hnew := heap_new W (.cells #[.pointer (some ⟨x, 0, none⟩), .pointer (some ⟨y, 0, none⟩)] 90)
      have hfk := only_isK (o := 5) (u := .slice (some ⟨W.heap.size, 0, none⟩) 2 2) (h3.knots k hkD).isK
      exact ⟨hfk.cells hnew (not_isK (by decide)), .inr ⟨hp, s1, s2, u, v, ht', h1, h2, rfl⟩, ⟨_, h3.part hkD hnew⟩, (h4.wideP.trans (Fr.of_below (belowAlloc (Below.refl _ _) _))).trans hfk.wide⟩
    obtain ⟨k1, k2, k3, k4, k5, kf, kl⟩ := HCE.out w hF0
    have HS0 := Lib.hid hS0
    clear hT hI hk h4 hD hp hok2 hokp hlo hcell hargs ht ht' gu gv hga hla hcx hcy hax hay hPV hz
    have hnil := fun (W : World) (q : Option Addr) (n c : Nat) => Lib.run_eql_slice_nil (P := Tryz.prog) W 108 _ q n c 0 0 Tryz.underlying108
    go_enter Tryz.func112, Tryz.ntmps112
    go_upto_region 2 with (fail)
    go_region_held3 (fun w' => w'.cell? ⟨k, 1, none⟩ = some (.int .i64 4) ∧ w'.cell? ⟨k, 2, none⟩ = some (.int .i64 0) ∧ w'.cell? ⟨k, 3, none⟩ = some (.string ⟨#[]⟩) ∧ w'.cell? ⟨k, 4, none⟩ = some (.slice (some ⟨ga, offa, none⟩) 2 c)) (go_keep)
      (first
        | (go_at_call 99; (with_reducible refine Calls.mono (HH0.out _ _ (by assumption)) ?_); rintro e wA ⟨rfl, hbA⟩; have hSA := HTS.out _ _ _ (by assumption) hbA; have hFA := HTF.out _ _ (by assumption) hbA; obtain ⟨k1, k2, k3, k4, k5, kf, kl⟩ := HCE.out _ hFA; clear hbA)
        | (go_at_call 63; (with_reducible refine Calls.mono (HK0.out _ (by assumption)) ?_); rintro e wB ⟨x, s1, rfl, hk1, hSB, hfB⟩; have hFB := HTG.out _ _ (by assumption) hfB; obtain ⟨k1, k2, k3, k4, k5, kf, kl⟩ := HCE.out _ hFB; clear hfB)
        | (go_at_call 100; (with_reducible refine Calls.mono (HH1.out _ _ (by assumption)) ?_); rintro e wC ⟨rfl, hbC⟩; have hSC := HTS.out _ _ _ (by assumption) hbC; have hFC := HTF.out _ _ (by assumption) hbC; obtain ⟨k1, k2, k3, k4, k5, kf, kl⟩ := HCE.out _ hFC; clear hbC)
        | (go_at_call 63; (with_reducible refine Calls.mono (HK1.out _ _ (by assumption) _ (by assumption)) ?_); rintro e wD ⟨y, s2, rfl, hk2, hSD, hfD⟩; have hFD := HTG.out _ _ (by assumption) hfD; obtain ⟨k1, k2, k3, k4, k5, kf, kl⟩ := HCE.out _ hFD; obtain ⟨m1, m2, m3, m4, m5⟩ := HCF.out wD x y hFD; have HX := Lib.hid (HEND.out _ _ _ _ _ (by assumption) hk2 hSD hFD); clear hfD))
    all_goals (go_wp2; go_ret; exact ⟨_, _, _, _, rfl, HX.out.1, HX.out.2.1, HX.out.2.2.1, HX.out.2.2.2⟩)
end Go.Proofs.YtealiilcnmdmdaaGreat

