/-
  The program's builtFrom: the contract of the iterator that it makes. (Written by wip/tools/gen_built.py.)
-/
import Derived.Test.YtoihimdfmncdoaaIterLift
import Derived.Test.YtoihimdfmncdoaaBuiltP
namespace Go.Proofs.Ytoihimdfmncdoaa
open Go.RowKit Go.Shelf
set_option linter.unusedVariables false
set_option linter.unusedSimpArgs false

attribute [local go_sem] Oper.semAt_some

/-- What the walk of the iterator knows in each of its rounds. -/
structure KH (Z0 : Nat → Prop) (W0 : World) (B3 x4 l : Nat) (r : Int) (Ds : List Nat) (A : Fp) (W : World) : Prop where
  zs : ∀ k, Z0 k → A.z k
  o : Only (fun k => ¬ Z0 k) W0 W
  y : A.z B3 ∧ W.heap[B3]? = some (.cells #[.func (.yield l) #[] #[]] 45)
  x : A.z x4 ∧ W.heap[x4]? = some (.cells #[.int .i64 r] 3)
  d : Marks Ds A W
theorem KH.only {Z0 : Nat → Prop} {W0 : World} {B3 x4 l : Nat} {r : Int} {Ds : List Nat} {A : Fp} {W W' : World} (h : KH Z0 W0 B3 x4 l r Ds A W) (ho : Only (fun k => ¬ A.on k) W W') : KH Z0 W0 B3 x4 l r Ds A W' :=
  ⟨h.zs, h.o.trans (ho.sub fun k hk hz => hk (.inr (h.zs k hz))), ⟨h.y.1, (ho.block _ (Array.getElem?_eq_some_iff.1 h.y.2).1 fun hn => hn (.inr h.y.1)).trans h.y.2⟩, ⟨h.x.1, (ho.block _ (Array.getElem?_eq_some_iff.1 h.x.2).1 fun hn => hn (.inr h.x.1)).trans h.x.2⟩, h.d.only ho⟩
theorem KH.stable (Z0 : Nat → Prop) (W0 : World) (B3 x4 l : Nat) (r : Int) (Ds : List Nat) : KStable (KH Z0 W0 B3 x4 l r Ds) := fun A W W' h _ ho => h.only ho
/-- The same with more blocks, or with others set apart. -/
theorem KH.sets {Z0 : Nat → Prop} {W0 : World} {B3 x4 l : Nat} {r : Int} {Ds : List Nat} {A B : Fp} {W : World} (h : KH Z0 W0 B3 x4 l r Ds A W) (hz : ∀ k, A.z k → B.z k) (hp : ∀ D ∈ Ds, B.p D) : KH Z0 W0 B3 x4 l r Ds B W :=
  ⟨fun k hk => hz k (h.zs k hk), h.o, ⟨hz _ h.y.1, h.y.2⟩, ⟨hz _ h.x.1, h.x.2⟩, h.d.1, fun D hD => ⟨hp D hD, (h.d.2 D hD).2⟩⟩
theorem KH.sizes {Z0 : Nat → Prop} {W0 : World} {B3 x4 l : Nat} {r : Int} {Ds : List Nat} {A : Fp} {W : World} (h : KH Z0 W0 B3 x4 l r Ds A W) : B3 < W.heap.size ∧ x4 < W.heap.size := ⟨(Array.getElem?_eq_some_iff.1 h.y.2).1, (Array.getElem?_eq_some_iff.1 h.x.2).1⟩
/-- The head's round: the head lies in its box. -/
structure KX (Z0 : Nat → Prop) (W0 : World) (B3 x4 l : Nat) (r : Int) (Ds : List Nat) (x : Tm) (V : Value) (hb : Nat) (A : Fp) (W : World) : Prop where
  k : KH Z0 W0 B3 x4 l r Ds A W
  h : A.z hb ∧ W.heap[hb]? = some (.cells #[.int .i64 x.kind, .int .i64 x.num, .string x.name, V] 25)
  a : ArgsS W A.z V x.args
theorem KX.only {Z0 : Nat → Prop} {W0 : World} {B3 x4 l : Nat} {r : Int} {Ds : List Nat} {x : Tm} {V : Value} {hb : Nat} {A : Fp} {W W' : World} (h : KX Z0 W0 B3 x4 l r Ds x V hb A W) (ho : Only (fun k => ¬ A.on k) W W') : KX Z0 W0 B3 x4 l r Ds x V hb A W' :=
  ⟨h.k.only ho, ⟨h.h.1, (ho.block _ (Array.getElem?_eq_some_iff.1 h.h.2).1 fun hn => hn (.inr h.h.1)).trans h.h.2⟩, h.a.frame ho.size fun j hj hl => ho.block j hl fun hn => hn (.inr hj)⟩
theorem KX.stable (Z0 : Nat → Prop) (W0 : World) (B3 x4 l : Nat) (r : Int) (Ds : List Nat) (x : Tm) (V : Value) (hb : Nat) : KStable (KX Z0 W0 B3 x4 l r Ds x V hb) := fun A W W' h _ ho => h.only ho
theorem KX.sets {Z0 : Nat → Prop} {W0 : World} {B3 x4 l : Nat} {r : Int} {Ds : List Nat} {x : Tm} {V : Value} {hb : Nat} {A B : Fp} {W : World} (h : KX Z0 W0 B3 x4 l r Ds x V hb A W) (hz : ∀ k, A.z k → B.z k) (hp : ∀ D ∈ Ds, B.p D) : KX Z0 W0 B3 x4 l r Ds x V hb B W :=
  ⟨h.k.sets hz hp, ⟨hz _ h.h.1, h.h.2⟩, h.a.sub hz⟩
/-- The tail's rounds: what the head's round owes at its end. -/
structure KT (Z0 : Nat → Prop) (W0 : World) (B3 x4 l : Nat) (r : Int) (Ds : List Nat) (x : Tm) (V : Value) (hb : Nat) (Y : Fp) (Wb : World) (A : Fp) (W : World) : Prop where
  k : KX Z0 W0 B3 x4 l r Ds x V hb A W
  p : ∀ k, Y.p k → A.p k
  z : ∀ k, Y.z k → A.z k
  b : Only (fun k => ¬ Y.on k) Wb W
theorem KT.only {Z0 : Nat → Prop} {W0 : World} {B3 x4 l : Nat} {r : Int} {Ds : List Nat} {x : Tm} {V : Value} {hb : Nat} {Y : Fp} {Wb : World} {A : Fp} {W W' : World} (h : KT Z0 W0 B3 x4 l r Ds x V hb Y Wb A W) (ho : Only (fun k => ¬ A.on k) W W') : KT Z0 W0 B3 x4 l r Ds x V hb Y Wb A W' :=
  ⟨h.k.only ho, h.p, h.z, h.b.trans (ho.sub fun k hk hn => hk (hn.imp (h.p k) (h.z k)))⟩
theorem KT.stable (Z0 : Nat → Prop) (W0 : World) (B3 x4 l : Nat) (r : Int) (Ds : List Nat) (x : Tm) (V : Value) (hb : Nat) (Y : Fp) (Wb : World) : KStable (KT Z0 W0 B3 x4 l r Ds x V hb Y Wb) := fun A W W' h _ ho => h.only ho
theorem KT.sets {Z0 : Nat → Prop} {W0 : World} {B3 x4 l : Nat} {r : Int} {Ds : List Nat} {x : Tm} {V : Value} {hb : Nat} {Y : Fp} {Wb : World} {A B : Fp} {W : World} (h : KT Z0 W0 B3 x4 l r Ds x V hb Y Wb A W) (hz : ∀ k, A.z k → B.z k) (hp : ∀ D ∈ Ds, B.p D) (hY : ∀ k, Y.p k → B.p k) : KT Z0 W0 B3 x4 l r Ds x V hb Y Wb B W :=
  ⟨h.k.sets hz hp, hY, fun k hk => hz k (h.z k hk), h.b⟩
/-- The tail's round: the tail lies in its box. -/
structure KY (Z0 : Nat → Prop) (W0 : World) (B3 x4 l : Nat) (r : Int) (Ds : List Nat) (x : Tm) (V : Value) (hb : Nat) (Y : Fp) (Wb : World) (y : Tm) (U : Value) (tb : Nat) (A : Fp) (W : World) : Prop where
  k : KT Z0 W0 B3 x4 l r Ds x V hb Y Wb A W
  h : A.z tb ∧ W.heap[tb]? = some (.cells #[.int .i64 y.kind, .int .i64 y.num, .string y.name, U] 25)
  a : ArgsS W A.z U y.args
theorem KY.stable (Z0 : Nat → Prop) (W0 : World) (B3 x4 l : Nat) (r : Int) (Ds : List Nat) (x : Tm) (V : Value) (hb : Nat) (Y : Fp) (Wb : World) (y : Tm) (U : Value) (tb : Nat) : KStable (KY Z0 W0 B3 x4 l r Ds x V hb Y Wb y U tb) := fun A W W' h _ ho =>
  ⟨h.k.only ho, ⟨h.h.1, (ho.block _ (Array.getElem?_eq_some_iff.1 h.h.2).1 fun hn => hn (.inr h.h.1)).trans h.h.2⟩, h.a.frame ho.size fun j hj hl => ho.block j hl fun hn => hn (.inr hj)⟩
/-- yield's answer under one name. -/
theorem YieldW.bool {P : Program} {l : Nat} {args : Array Value} {W : World} {S : World → Prop} {A B : World → Prop} (h : YieldW P l args W fun e W' => S W' ∧ ((e = .returned (.bool true) ∧ A W') ∨ (e = .returned (.bool false) ∧ B W'))) :
    YieldW P l args W fun e W' => ∃ b : Bool, e = .returned (.bool b) ∧ Hid (S W' ∧ ((b = true ∧ A W') ∨ (b = false ∧ B W'))) :=
  h.mono fun e W' ⟨h1, h2⟩ => h2.elim (fun ⟨h3, h4⟩ => ⟨true, h3, Lib.hid ⟨h1, .inl ⟨rfl, h4⟩⟩⟩) (fun ⟨h3, h4⟩ => ⟨false, h3, Lib.hid ⟨h1, .inr ⟨rfl, h4⟩⟩⟩)

/-- What builtFrom gives: an iterator over bf's list. -/
def BuiltR (u : List Tm) (N s : Nat) (Zu : Nat → Prop) (w : World) (e : Ending) (w' : World) : Prop :=
  ∃ (g : Nat) (lb : Array Value), e = .returned (.func (.func g) #[] lb) ∧ Hid (∀ args W, (callFunc g args).run Try.prog W = .ok (.enter g args) W) ∧ Hid (Below w.heap.size w w') ∧ Hid (IterAt Try.prog g lb TmG NoneC (bf u N s) (fun k => Zu k ∨ (w.heap.size ≤ k ∧ k < w'.heap.size)) w')
def BuiltC (u : List Tm) (N : Nat) : Prop :=
  ∀ (s : Nat) (a : Option Addr) (cap : Nat) (Zu : Nat → Prop) (w : World), 1 ≤ s → s ≤ N → (∀ k, Zu k → k < w.heap.size) → ArgsS w Zu (.slice a u.length cap) u →
    Calls Try.prog 71 #[.slice a u.length cap, .int .i64 (s : Int)] w (BuiltR u N s Zu w)
def restAt (a : Act) (w : World) : Nat :=
  match a.tmps.getD 4 undef with
  | .pointer (some p) => (intOf ((w.cell? p).getD undef)).toNat
  | _ => 0
theorem restAt_of {a : Act} {w : World} {p : Addr} {r : Int} (h : a.tmps.getD 4 undef = .pointer (some p)) (hc : w.cell? p = some (.int .i64 r)) : restAt a w = r.toNat := by
  unfold restAt
  rw [h]
  simp [hc, intOf]

set_option maxRecDepth 100000 in
set_option maxHeartbeats 8000000 in
theorem built1_iter (u : List Tm) (hL : u.length ≤ 8) (N : Nat) (ih : BuiltC u N) (s : Nat) (hs1 : ¬ s = 1) (hsN : s ≤ N + 1) (hs5 : s ≤ 5) (bs ba : Nat) (a : Option Addr) (cap : Nat) (Zu Z0 : Nat → Prop) (w : World) (hbs : Z0 bs) (hba : Z0 ba) (hzu : ∀ k, Zu k → Z0 k) (hlt : ∀ k, Z0 k → k < w.heap.size)
    (hcs : w.cell? ⟨bs, 0, none⟩ = some (.int .i64 (s : Int))) (hca : w.cell? ⟨ba, 0, none⟩ = some (.slice a u.length cap)) (hU : ArgsS w Zu (.slice a u.length cap) u) :
    IterAt Try.prog 122 #[.pointer (some ⟨bs, 0, none⟩), .pointer (some ⟨ba, 0, none⟩)] TmG NoneC (bf u (N + 1) s) Z0 w := by
  intro l J Jx Y W ho hZ hok hJ hJx hY h0
  refine (callsIn_wide (n := 5)).1 ?_
  refine callsIn_of_wp_marks Try.func122 rfl trivial ?_ rfl
  simp only [List.append_toArray, List.cons_append, List.nil_append]
  simp only [Try.ntmps122, List.size_toArray, List.length_cons, List.length_nil, Nat.reduceAdd, Nat.reduceSub, Array.replicate_succ, Array.replicate_zero, List.push_toArray, List.append_toArray, List.nil_append, List.cons_append]
  have HIH := Lib.hid ih
  have HY := Lib.hid hY
  have HJ := Lib.hid (And.intro hJ hJx)
  have HZU := Lib.hid hzu
  have HZB := Lib.hid (And.intro hbs hba)
  have HS := Lib.hid (And.intro hs1 (And.intro hsN hs5))
  -- the captured variables, in every world that keeps Z0
  have HCAP : Hid (∀ W', Only (fun k => ¬ Z0 k) W W' → W'.cell? ⟨bs, 0, none⟩ = some (.int .i64 (s : Int)) ∧ W'.cell? ⟨ba, 0, none⟩ = some (.slice a u.length cap) ∧ ArgsS W' Zu (.slice a u.length cap) u ∧ ∀ k, Zu k → k < W'.heap.size) := Lib.hid fun W' hW => by
    have o := ho.trans hW
    exact ⟨(World.cell?_of_block (a := ⟨bs, 0, none⟩) (o.block bs (hlt bs hbs) fun h => h hbs)).trans hcs, (World.cell?_of_block (a := ⟨ba, 0, none⟩) (o.block ba (hlt ba hba) fun h => h hba)).trans hca,
      hU.frame o.size fun k hk hl => o.block k hl fun h => h (hzu k hk), fun k hk => Nat.lt_of_lt_of_le (hlt k (hzu k hk)) o.size⟩
  obtain ⟨B3, hB3⟩ : ∃ B3, W.heap.size = B3 := ⟨_, rfl⟩
  have HB3 := Lib.hid hB3
  -- the start: two boxes
  have hb1 : Below W.heap.size W ((W.alloc (.cells #[.func (.yield l) #[] #[]] 45)).alloc (.cells #[.int .i64 1] 3)) := belowAlloc (belowAlloc (Below.refl _ _) _) _
  have HK0 : Hid (∃ B : Fp, B.ok ((W.alloc (.cells #[.func (.yield l) #[] #[]] 45)).alloc (.cells #[.int .i64 1] 3)).heap.size ∧ J (bfDone u N s 0) B ((W.alloc (.cells #[.func (.yield l) #[] #[]] 45)).alloc (.cells #[.int .i64 1] 3)) ∧
      KH Z0 W W.heap.size (W.heap.size + 1) l 1 [] B ((W.alloc (.cells #[.func (.yield l) #[] #[]] 45)).alloc (.cells #[.int .i64 1] 3))) := Lib.hid (by
    obtain ⟨j1, j2⟩ := hJ.fresh h0 hok hb1 (fun k => W.heap.size ≤ k ∧ k < W.heap.size + 2) (fun k hk => ⟨hk.1, by simp; omega⟩)
    exact ⟨_, j2, j1, fun k hk => .inl (hZ k hk), Only.of_below hb1, ⟨.inr ⟨Nat.le_refl _, by omega⟩, heapE_0 _ _ _⟩, ⟨.inr ⟨by omega, by omega⟩, heapE_1 _ _ _⟩, by simp, by simp⟩)
  clear ih hY hJ hJx hzu hbs hba hs1 hsN hs5 hcs hca hU ho hZ hok h0 hlt hb1
  rw [hB3] at HK0
  gi_wp2
  generalize hw1 : ((W.alloc (.cells #[.func (.yield l) #[] #[]] 45)).alloc (.cells #[.int .i64 1] 3)) = w1 at HK0 ⊢
  clear hw1 hB3
  refine wpIn_loop (fun a' w' => ∃ (i x4 : Nat) (Ds : List Nat) (u5 u6 u7 u8 u9 u10 u11 u12 u13 u14 u15 u16 u17 u18 u19 u20 u21 u22 u23 u24 u25 u26 u27 u28 u29 u30 : Value), a' = { tmps := #[.func (.yield l) #[] #[], .pointer (some ⟨bs, 0, none⟩), .pointer (some ⟨ba, 0, none⟩), .pointer (some ⟨B3, 0, none⟩), .pointer (some ⟨x4, 0, none⟩), u5, u6, u7, u8, u9, u10, u11, u12, u13, u14, u15, u16, u17, u18, u19, u20, u21, u22, u23, u24, u25, u26, u27, u28, u29, u30], defers := Ds.map mk } ∧ Hid (i ≤ s - 2 ∧ ∃ B : Fp, B.ok w'.heap.size ∧ J (bfDone u N s i) B w' ∧ KH Z0 W B3 x4 l ((i : Int) + 1) Ds B w')) (fun a' w' => s - restAt a' w') ?start ?round
  case start =>
    exact ⟨0, B3 + 1, [], undef, undef, undef, undef, undef, undef, undef, undef, undef, undef, undef, undef, undef, undef, undef, undef, undef, undef, undef, undef, undef, undef, undef, undef, undef, undef, rfl, Lib.hid ⟨Nat.zero_le _, HK0.out⟩⟩
  case round =>
    rintro a' w' ⟨i, x4, Ds, u5, u6, u7, u8, u9, u10, u11, u12, u13, u14, u15, u16, u17, u18, u19, u20, u21, u22, u23, u24, u25, u26, u27, u28, u29, u30, rfl, HI⟩
    clear HK0 w1
    obtain ⟨hi, B, hBok, hJB, hKB⟩ := HI.out
    have HJB := Lib.hid (And.intro hBok hJB)
    have HKB := Lib.hid hKB
    have hiB := hi
    obtain ⟨cs, ca, hua, huz⟩ := HCAP.out w' hKB.o
    have HUA := Lib.hid (And.intro hua huz)
    have hx4 := (cells1_of hKB.x.2)
    have hmu : restAt { tmps := #[.func (.yield l) #[] #[], .pointer (some ⟨bs, 0, none⟩), .pointer (some ⟨ba, 0, none⟩), .pointer (some ⟨B3, 0, none⟩), .pointer (some ⟨x4, 0, none⟩), u5, u6, u7, u8, u9, u10, u11, u12, u13, u14, u15, u16, u17, u18, u19, u20, u21, u22, u23, u24, u25, u26, u27, u28, u29, u30], defers := Ds.map mk } w' = i + 1 := by
      show (intOf ((w'.cell? ⟨x4, 0, none⟩).getD undef)).toNat = i + 1
      rw [hx4]
      simp [intOf]
    rw [hmu]
    clear hBok hJB hKB hi hua huz hmu HI
    have w1e : IntKind.i64.wrap ((s : Int) - 1) = (s : Int) - 1 := by rw [IntWalk.i64_in _ (by have := HS.out.2.2; omega)]
    by_cases hlti : i < s - 2
    case neg =>
      have hni : ¬ ((i : Int) + 1 < (s : Int) - 1) := by omega
      clear hlti
      gi_wp2
      show LeavesInM Fence.wide 5 Try.prog _ _ _ (Ds.map mk) .returning w'
      refine leaves_marks Ds B w' HKB.out.d fun W' ho => ?_
      have he : i = s - 2 := by have := hiB; omega
      refine ⟨_, results_none rfl _ _ _, ⟨_, rfl⟩, .inl ⟨B, HJB.out.1.up ho.size, ?_⟩⟩
      rw [bf_more u N s HS.out.1, ← he]
      exact HJ.out.1 _ _ _ w' W' HJB.out.2 HJB.out.1 ho (Fp.to.refl _ _) (HJB.out.1.up ho.size)
    case pos =>
    have hli : ((i : Int) + 1 < (s : Int) - 1) := by omega
    have w2e : IntKind.i64.wrap ((s : Int) - 1 - ((i : Int) + 1)) = ((s - 2 - i : Nat) : Int) := by rw [IntWalk.i64_in _ (by have := HS.out.2.2; omega)]; omega
    have HC1 := Lib.hid ((callsIn_wide (n := 4)).2 (HIH.out (s - 2 - i) a cap Zu w' (by omega) (by have := HS.out.2.1; omega) HUA.out.2 HUA.out.1))
    have HLT := Lib.hid hlti
    clear hlti
    gi_wp2_with fail
    refine ⟨trivial, ?_⟩
    refine HC1.out.mono ?_
    rintro e w2 ⟨g1, lb1, rfl, HE1, HB1, HIT1⟩
    clear HC1
    -- the invariant, the maker's blocks with it
    have HT : Hid (∃ B : Fp, B.ok w2.heap.size ∧ J (bfDone u N s i ++ ([] : List Tm).flatMap (fun h => (bf u N (i + 1)).map (pairT h))) B w2 ∧ KH Z0 W B3 x4 l ((i : Int) + 1) Ds B w2 ∧ ∀ k, (Zu k ∨ (w'.heap.size ≤ k ∧ k < w2.heap.size)) → B.z k) := Lib.hid (by
      obtain ⟨j1, j2⟩ := HJ.out.1.fresh HJB.out.2 HJB.out.1 HB1.out (fun k => w'.heap.size ≤ k ∧ k < w2.heap.size) (fun k hk => hk)
      exact ⟨_, j2, by rw [List.flatMap_nil, List.append_nil]; exact j1, (HKB.out.only (Only.of_below HB1.out)).sets (fun k hk => .inl hk) (fun D hD => (HKB.out.d.2 D hD).1), fun k hk => hk.imp (fun h => HKB.out.zs k (HZU.out k h)) id⟩)
    clear cs ca hx4 HJB HKB
    gi_wp2_with fail
    refine range_iter (gf := g1) (lb := lb1) (w0 := w2) (Zc := fun k => Zu k ∨ (w'.heap.size ≤ k ∧ k < w2.heap.size)) rfl HE1.out HIT1.out (Only.refl _ _) (fun _ h => h) ?zlt (fun _ _ _ _ _ _ h => h.elim) (fun x v Y W h => h.size)
      (fun pre Y W' => Lift J (KH Z0 W B3 x4 l ((i : Int) + 1) Ds) (bfDone u N s i ++ pre.flatMap (fun h => (bf u N (i + 1)).map (pairT h))) Y W')
      (fun c _ Y W' => ∃ px, Lift Jx (KH Z0 W B3 x4 l ((i : Int) + 1) Ds) px Y W' ∧ c = .ret)
      (lift_aby HJ.out.1 (KH.stable Z0 W B3 x4 l _ Ds) _) ?hix ?h0
      (fun pre x v a' Y W' => ∃ (hb : Nat) (xa : Option Addr) (xc : Nat) (u6 u7 u8 u9 u10 u11 u12 u13 u14 u15 u16 u17 u18 u19 u20 u21 u22 u23 u24 u25 u26 u27 u28 u29 u30 : Value), Lift J (KX Z0 W B3 x4 l ((i : Int) + 1) Ds x (.slice xa x.args.length xc) hb) (bfDone u N s i ++ pre.flatMap (fun h => (bf u N (i + 1)).map (pairT h))) Y W' ∧ a' = { tmps := #[.func (.yield l) #[] #[], .pointer (some ⟨bs, 0, none⟩), .pointer (some ⟨ba, 0, none⟩), .pointer (some ⟨B3, 0, none⟩), .pointer (some ⟨x4, 0, none⟩), .pointer (some ⟨hb, 0, none⟩), u6, u7, u8, u9, u10, u11, u12, u13, u14, u15, u16, u17, u18, u19, u20, u21, u22, u23, u24, u25, u26, u27, u28, u29, u30], defers := [] })
      ?hax ?assign ?body ?done ?stop
    case zlt =>
      rintro k (h | h)
      · have := HUA.out.2 k h; have := HB1.out.size; omega
      · exact h.2
    case hix =>
      rintro c s' Y1 Y2 V1 V2 ⟨px, h, hc⟩ h1 h2 h3 h4
      exact ⟨px, lift_aby HJ.out.2 (KH.stable Z0 W B3 x4 l _ Ds) (fun (_ : Unit) => px) () Y1 Y2 V1 V2 h h1 h2 h3 h4, hc⟩
    case h0 =>
      obtain ⟨B', b1, b2, b3, b4⟩ := HT.out
      exact lift_of HJ.out.1 b1 b2 (fun _ h => h.elim) b4 (b3.sets (fun _ h => h) (fun D hD => ⟨(b3.d.2 D hD).1, id⟩))
    case hax =>
      rintro pre x v a' Y1 Y2 V1 V2 ⟨hb, xa, xc, u6, u7, u8, u9, u10, u11, u12, u13, u14, u15, u16, u17, u18, u19, u20, u21, u22, u23, u24, u25, u26, u27, u28, u29, u30, h, e⟩ h1 h2 h3 h4
      exact ⟨hb, xa, xc, u6, u7, u8, u9, u10, u11, u12, u13, u14, u15, u16, u17, u18, u19, u20, u21, u22, u23, u24, u25, u26, u27, u28, u29, u30, lift_aby HJ.out.1 (KX.stable Z0 W B3 x4 l _ Ds x _ hb) (fun (_ : Unit) => _) () Y1 Y2 V1 V2 h h1 h2 h3 h4, e⟩
    case assign =>
      intro lp pre x v p' Y1 W1 K hlp hI hokY hp' hpre hG hK
      obtain ⟨xa, xc, rfl, hga⟩ := hG
      have hal : Below W1.heap.size W1 (W1.alloc (.cells #[.int .i64 x.kind, .int .i64 x.num, .string x.name, .slice xa x.args.length xc] 25)) := belowAlloc (Below.refl _ _) _
      have HL2 : Hid (Lift J (KX Z0 W B3 x4 l ((i : Int) + 1) Ds x (.slice xa x.args.length xc) W1.heap.size) (bfDone u N s i ++ pre.flatMap (fun h => (bf u N (i + 1)).map (pairT h))) Y1 (W1.alloc (.cells #[.int .i64 x.kind, .int .i64 x.num, .string x.name, .slice xa x.args.length xc] 25))) := Lib.hid (by
        obtain ⟨A, a1, a2, a3, a4⟩ := hI
        obtain ⟨j1, j2⟩ := HJ.out.1.fresh a3 (join_ok a1 hokY a2) hal (fun k => k = W1.heap.size) (fun k hk => by rw [hk]; exact ⟨Nat.le_refl _, by simp⟩)
        exact lift_of HJ.out.1 j2 j1 (fun k hk => .inr hk) (fun k hk => .inl (.inr hk)) ⟨(a4.only (Only.of_below hal)).sets (fun k hk => .inl (.inl hk)) (fun D hD => ⟨.inl (a4.d.2 D hD).1, a2.on D (.inl (a4.d.2 D hD).1)⟩), ⟨.inr rfl, World.alloc_heap_new _ _⟩, (hga.kept hal).sub fun k hk => .inl (.inr hk)⟩)
      have HK := Lib.hid hK
      clear hI hga hK hal
      gi_wp2
      exact HK.out _ _ (only_alloc _ _ _) ⟨_, xa, xc, _, _, _, _, _, _, _, _, _, _, _, _, _, _, _, _, _, _, _, _, _, _, _, _, _, HL2.out, rfl⟩
    case body =>
      intro lp pre x v a' Y1 W1 hlp hrr hlY hokY hpre hAx
      obtain ⟨hb, xa, xc, u6, u7, u8, u9, u10, u11, u12, u13, u14, u15, u16, u17, u18, u19, u20, u21, u22, u23, u24, u25, u26, u27, u28, u29, u30, hL, rfl⟩ := hAx
      obtain ⟨A, a1, a2, a3, a4⟩ := hL
      obtain ⟨r0, hr0⟩ := hrr
      have HMY : Hid (∀ D ∈ Ds, ¬ Y1.p D) := Lib.hid fun D hD => a2.on D (.inl (a4.k.d.2 D hD).1)
      have HTOT : Hid ((A.join Y1).ok W1.heap.size ∧ J (bfDone u N s i ++ pre.flatMap (fun h => (bf u N (i + 1)).map (pairT h))) (A.join Y1) W1 ∧ KX Z0 W B3 x4 l ((i : Int) + 1) Ds x (.slice xa x.args.length xc) hb A W1) := Lib.hid ⟨join_ok a1 hokY a2, a3, a4⟩
      obtain ⟨cs, ca, hua, huz⟩ := HCAP.out W1 a4.k.o
      have hx4 := (cells1_of a4.k.x.2)
      have HC2 : Hid (CallsIn (Fence.wide.inRound lp) 4 Try.prog 71 #[.slice a u.length cap, .int .i64 ((i : Int) + 1)] W1 (BuiltR u N (i + 1) Zu W1)) := Lib.hid (CallsIn.inRound lp ((callsIn_wide (n := 4)).2 (by
        have h := HIH.out (i + 1) a cap Zu W1 (by omega) (by have := HS.out.2.1; have := HLT.out; omega) huz hua
        rwa [show ((i + 1 : Nat) : Int) = (i : Int) + 1 by omega] at h)))
      have HR0 := Lib.hid hr0
      have HPRE := Lib.hid hpre
      have HUZ := Lib.hid huz
      have HOKY := Lib.hid hokY
      clear a1 a2 a3 a4 hua huz hr0 hpre hokY hlY hlp
      gi_wp2_with fail
      refine ⟨trivial, ?_⟩
      refine HC2.out.mono ?_
      rintro e w3 ⟨g2, lb2, rfl, HE2, HB2, HIT2⟩
      clear HC2 cs ca hx4
      gi_wp2_with fail
      refine range_iter_in (gf := g2) (lb := lb2) (w0 := w3) (r₀ := r0) (Zc := fun k => Zu k ∨ (W1.heap.size ≤ k ∧ k < w3.heap.size)) ((HB2.out.block _ (Array.getElem?_eq_some_iff.1 HR0.out).1).trans HR0.out) rfl HE2.out HIT2.out (Only.refl _ _) (fun _ h => h) ?zlt2 (fun _ _ _ _ _ _ h => h.elim) (fun x v Y W h => h.size)
        (fun pre2 Y W' => Lift J (KT Z0 W B3 x4 l ((i : Int) + 1) Ds x (.slice xa x.args.length xc) hb Y1 W1) (bfDone u N s i ++ (pre.flatMap (fun h => (bf u N (i + 1)).map (pairT h)) ++ pre2.map (pairT x))) Y W')
        (fun c _ Y W' => ∃ px, Lift Jx (KT Z0 W B3 x4 l ((i : Int) + 1) Ds x (.slice xa x.args.length xc) hb Y1 W1) px Y W' ∧ c = .ret)
        (lift_aby HJ.out.1 (KT.stable Z0 W B3 x4 l _ Ds x _ hb Y1 W1) _) ?hix2 ?h02
        (fun pre2 y v a' Y W' => ∃ (tb : Nat) (ya : Option Addr) (yc : Nat) (u7 u8 u9 u10 u11 u12 u13 u14 u15 u16 u17 u18 u19 u20 u21 u22 u23 u24 u25 u26 u27 u28 u29 u30 : Value), Lift J (KY Z0 W B3 x4 l ((i : Int) + 1) Ds x (.slice xa x.args.length xc) hb Y1 W1 y (.slice ya y.args.length yc) tb) (bfDone u N s i ++ (pre.flatMap (fun h => (bf u N (i + 1)).map (pairT h)) ++ pre2.map (pairT x))) Y W' ∧ a' = { tmps := #[.func (.yield l) #[] #[], .pointer (some ⟨bs, 0, none⟩), .pointer (some ⟨ba, 0, none⟩), .pointer (some ⟨B3, 0, none⟩), .pointer (some ⟨x4, 0, none⟩), .pointer (some ⟨hb, 0, none⟩), .pointer (some ⟨tb, 0, none⟩), u7, u8, u9, u10, u11, u12, u13, u14, u15, u16, u17, u18, u19, u20, u21, u22, u23, u24, u25, u26, u27, u28, u29, u30], defers := [] })
        ?hax2 ?assign2 ?body2 ?done2 ?stop2
      case zlt2 =>
        rintro k (h | h)
        · have := HUZ.out k h; have := HB2.out.size; omega
        · exact h.2
      case hix2 =>
        rintro c s' Y1' Y2 V1 V2 ⟨px, h, hc⟩ h1 h2 h3 h4
        exact ⟨px, lift_aby HJ.out.2 (KT.stable Z0 W B3 x4 l _ Ds x _ hb Y1 W1) (fun (_ : Unit) => px) () Y1' Y2 V1 V2 h h1 h2 h3 h4, hc⟩
      case h02 =>
        obtain ⟨t1, t2, t3⟩ := HTOT.out
        obtain ⟨j1, j2⟩ := HJ.out.1.fresh t2 t1 HB2.out (fun k => W1.heap.size ≤ k ∧ k < w3.heap.size) (fun k hk => hk)
        refine lift_of HJ.out.1 j2 (by rw [List.map_nil, List.append_nil]; exact j1) (fun _ h => h.elim) (fun k hk => hk.imp (fun h => .inl (t3.k.zs k (HZU.out k h))) id) ⟨(t3.only (Only.of_below HB2.out)).sets (fun k hk => .inl (.inl hk)) (fun D hD => ⟨.inl (t3.k.d.2 D hD).1, id⟩), fun k hk => ⟨.inr hk, id⟩, fun k hk => .inl (.inr hk), Only.of_below HB2.out⟩
      case hax2 =>
        rintro pre2 y v2 a' Y1' Y2 V1 V2 ⟨tb, ya, yc, u7, u8, u9, u10, u11, u12, u13, u14, u15, u16, u17, u18, u19, u20, u21, u22, u23, u24, u25, u26, u27, u28, u29, u30, h, e⟩ h1 h2 h3 h4
        exact ⟨tb, ya, yc, u7, u8, u9, u10, u11, u12, u13, u14, u15, u16, u17, u18, u19, u20, u21, u22, u23, u24, u25, u26, u27, u28, u29, u30, lift_aby HJ.out.1 (KY.stable Z0 W B3 x4 l _ Ds x _ hb Y1 W1 y _ tb) (fun (_ : Unit) => _) () Y1' Y2 V1 V2 h h1 h2 h3 h4, e⟩
      case assign2 =>
        intro lp2 pre2 y v2 p' Y2 W2 K hlp hI hokY hp' hpre hG hK
        obtain ⟨ya, yc, rfl, hga⟩ := hG
        have hal : Below W2.heap.size W2 (W2.alloc (.cells #[.int .i64 y.kind, .int .i64 y.num, .string y.name, .slice ya y.args.length yc] 25)) := belowAlloc (Below.refl _ _) _
        have HL2 : Hid (Lift J (KY Z0 W B3 x4 l ((i : Int) + 1) Ds x (.slice xa x.args.length xc) hb Y1 W1 y (.slice ya y.args.length yc) W2.heap.size) (bfDone u N s i ++ (pre.flatMap (fun h => (bf u N (i + 1)).map (pairT h)) ++ pre2.map (pairT x))) Y2 (W2.alloc (.cells #[.int .i64 y.kind, .int .i64 y.num, .string y.name, .slice ya y.args.length yc] 25))) := Lib.hid (by
          obtain ⟨A2, a1, a2, a3, a4⟩ := hI
          obtain ⟨j1, j2⟩ := HJ.out.1.fresh a3 (join_ok a1 hokY a2) hal (fun k => k = W2.heap.size) (fun k hk => by rw [hk]; exact ⟨Nat.le_refl _, by simp⟩)
          exact lift_of HJ.out.1 j2 j1 (fun k hk => .inr hk) (fun k hk => .inl (.inr hk)) ⟨(a4.only (Only.of_below hal)).sets (fun k hk => .inl (.inl hk)) (fun D hD => ⟨.inl (a4.k.k.d.2 D hD).1, a2.on D (.inl (a4.k.k.d.2 D hD).1)⟩) (fun k hk => ⟨.inl (a4.p k hk), a2.on k (.inl (a4.p k hk))⟩), ⟨.inr rfl, World.alloc_heap_new _ _⟩, (hga.kept hal).sub fun k hk => .inl (.inr hk)⟩)
        have HK := Lib.hid hK
        clear hI hga hK hal
        gi_wp2
        exact HK.out _ _ (only_alloc _ _ _) ⟨_, ya, yc, _, _, _, _, _, _, _, _, _, _, _, _, _, _, _, _, _, _, _, _, _, _, _, _, HL2.out, rfl⟩
      case body2 =>
        intro lp2 pre2 y v2 a2' Y2 W2 hlp2 hrr2 hlY2 hokY2 hpre2 hAx2
        obtain ⟨tb, ya, yc, u7, u8, u9, u10, u11, u12, u13, u14, u15, u16, u17, u18, u19, u20, u21, u22, u23, u24, u25, u26, u27, u28, u29, u30, hL2, rfl⟩ := hAx2
        obtain ⟨A2, e1, e2, e3, e4⟩ := hL2
        have HMY2 : Hid ((∀ D ∈ Ds, ¬ Y2.p D) ∧ ∀ k, Y1.p k → ¬ Y2.p k) := Lib.hid ⟨fun D hD => e2.on D (.inl (e4.k.k.k.d.2 D hD).1), fun k hk => e2.on k (.inl (e4.k.p k hk))⟩
        have HTOT2 : Hid ((A2.join Y2).ok W2.heap.size ∧ J (bfDone u N s i ++ (pre.flatMap (fun h => (bf u N (i + 1)).map (pairT h)) ++ pre2.map (pairT x))) (A2.join Y2) W2 ∧ KT Z0 W B3 x4 l ((i : Int) + 1) Ds x (.slice xa x.args.length xc) hb Y1 W1 A2 W2) := Lib.hid ⟨join_ok e1 hokY2 e2, e3, e4.k⟩
        have HCE : Hid (∀ V, Below W2.heap.size W2 V → V.cell? ⟨B3, 0, none⟩ = some (.func (.yield l) #[] #[]) ∧ (V.cell? ⟨hb, 0, none⟩ = some (.int .i64 x.kind) ∧ V.cell? ⟨hb, 1, none⟩ = some (.int .i64 x.num) ∧ V.cell? ⟨hb, 2, none⟩ = some (.string x.name) ∧ V.cell? ⟨hb, 3, none⟩ = some (.slice xa x.args.length xc)) ∧
            (V.cell? ⟨tb, 0, none⟩ = some (.int .i64 y.kind) ∧ V.cell? ⟨tb, 1, none⟩ = some (.int .i64 y.num) ∧ V.cell? ⟨tb, 2, none⟩ = some (.string y.name) ∧ V.cell? ⟨tb, 3, none⟩ = some (.slice ya y.args.length yc))) := Lib.hid fun V hV => by
          obtain ⟨q0, q1, q2, q3, _⟩ := box_cells ((hV.block hb (Array.getElem?_eq_some_iff.1 e4.k.k.h.2).1).trans e4.k.k.h.2)
          obtain ⟨p0, p1, p2, p3, _⟩ := box_cells ((hV.block tb (Array.getElem?_eq_some_iff.1 e4.h.2).1).trans e4.h.2)
          exact ⟨cells1_of ((hV.block B3 (Array.getElem?_eq_some_iff.1 e4.k.k.k.y.2).1).trans e4.k.k.k.y.2), ⟨q0, q1, q2, q3⟩, ⟨p0, p1, p2, p3⟩⟩
        have HPP := Lib.hid (fun (W' : World) => pairOf_any x.kind x.num x.name xa x.args.length xc y.kind y.num y.name ya y.args.length yc W')
        have HYD : Hid (∀ (wP : World) (gg : Nat), Below W2.heap.size W2 wP → W2.heap.size ≤ gg → gg < wP.heap.size → wP.heap[gg]? = some (.cells #[.int .i64 x.kind, .int .i64 x.num, .string x.name, .slice xa x.args.length xc, .int .i64 y.kind, .int .i64 y.num, .string y.name, .slice ya y.args.length yc] 25) →
            YieldW Try.prog l #[.agg #[.int .i64 4, .int .i64 0, .string ⟨#[]⟩, .slice (some ⟨gg, 0, none⟩) 2 2]] wP fun e W' => ∃ b : Bool, e = .returned (.bool b) ∧ Hid (Only (fun k => ¬ Fp.on ⟨(A2.join Y2).p, fun k => (A2.join Y2).z k ∨ k = gg⟩ k ∨ NoneC #[.agg #[.int .i64 4, .int .i64 0, .string ⟨#[]⟩, .slice (some ⟨gg, 0, none⟩) 2 2]] k) wP W' ∧
              ((b = true ∧ J ((bfDone u N s i ++ (pre.flatMap (fun h => (bf u N (i + 1)).map (pairT h)) ++ pre2.map (pairT x))) ++ [pairT x y]) ⟨(A2.join Y2).p, fun k => (A2.join Y2).z k ∨ k = gg⟩ W') ∨ (b = false ∧ Jx ((bfDone u N s i ++ (pre.flatMap (fun h => (bf u N (i + 1)).map (pairT h)) ++ pre2.map (pairT x))) ++ [pairT x y]) ⟨(A2.join Y2).p, fun k => (A2.join Y2).z k ∨ k = gg⟩ W')))) := Lib.hid fun wP gg hbP hg1 hg2 hgP => by
          obtain ⟨j1, j2⟩ := HJ.out.1.fresh HTOT2.out.2.1 HTOT2.out.1 hbP (fun k => k = gg) (fun k hk => by rw [hk]; exact ⟨hg1, hg2⟩)
          exact (HY.out _ (pairT x y) _ _ wP j1 j2 (bf_pre HLT.out HS.out.1 HPRE.out hpre2) ⟨_, _, rfl, argsS_pair hgP hg2 (.inr rfl) ((e4.k.k.a.frame hbP.size fun k hk hl => hbP.block k hl).sub fun k hk => .inl (.inl hk)) ((e4.a.frame hbP.size fun k hk hl => hbP.block k hl).sub fun k hk => .inl (.inl hk))⟩).bool
        have HFIN : Hid (∀ (wP W3 : World) (gg : Nat), Below W2.heap.size W2 wP → W2.heap.size ≤ gg ∧ gg < wP.heap.size → ∀ va : Array Value, Only (fun k => ¬ Fp.on ⟨(A2.join Y2).p, fun k => (A2.join Y2).z k ∨ k = gg⟩ k ∨ NoneC va k) wP W3 →
            (J ((bfDone u N s i ++ (pre.flatMap (fun h => (bf u N (i + 1)).map (pairT h)) ++ pre2.map (pairT x))) ++ [pairT x y]) ⟨(A2.join Y2).p, fun k => (A2.join Y2).z k ∨ k = gg⟩ W3 → Only (fun k => ¬ Y2.on k ∨ NoneC v2 k) W2 W3 ∧ Lift J (KT Z0 W B3 x4 l ((i : Int) + 1) Ds x (.slice xa x.args.length xc) hb Y1 W1) (bfDone u N s i ++ (pre.flatMap (fun h => (bf u N (i + 1)).map (pairT h)) ++ (pre2 ++ [y]).map (pairT x))) Y2 W3) ∧
            (Jx ((bfDone u N s i ++ (pre.flatMap (fun h => (bf u N (i + 1)).map (pairT h)) ++ pre2.map (pairT x))) ++ [pairT x y]) ⟨(A2.join Y2).p, fun k => (A2.join Y2).z k ∨ k = gg⟩ W3 → Only (fun k => ¬ Y2.on k ∨ NoneC v2 k) W2 W3 ∧ ∃ px, Lift Jx (KT Z0 W B3 x4 l ((i : Int) + 1) Ds x (.slice xa x.args.length xc) hb Y1 W1) px Y2 W3)) := Lib.hid fun wP W3 gg hbP hg va ho => by
          obtain ⟨t1, t2, t3⟩ := HTOT2.out
          have hoY : Only (fun k => ¬ Fp.on (A2.join Y2) k) W2 W3 := (Only.of_below hbP).trans (ho.sub fun k hk hn => hk.elim (fun h => h (hn.imp id .inl)) id)
          have h1 : Only (fun k => ¬ Y2.on k ∨ NoneC v2 k) W2 W3 := hoY.sub fun k hk => .inl fun hn => hk (hn.imp .inr .inr)
          have hok : Fp.ok ⟨(A2.join Y2).p, fun k => (A2.join Y2).z k ∨ k = gg⟩ W3.heap.size := ⟨fun k hk => by
            rcases hk with h | h | h
            · exact Nat.lt_of_lt_of_le (t1.lt k (.inl h)) hoY.size
            · exact Nat.lt_of_lt_of_le (t1.lt k (.inr h)) hoY.size
            · rw [h]; exact Nat.lt_of_lt_of_le hg.2 ho.size, fun k hz hp => by
            rcases hz with h | h
            · exact t1.off k h hp
            · rw [h] at hp; have := t1.lt gg (.inl hp); omega⟩
          have k2 := (t3.only (hoY.sub fun k hk hn => hk (hn.imp .inl .inl))).sets (B := ⟨fun k => (A2.join Y2).p k ∧ ¬ Y2.p k, fun k => (A2.join Y2).z k ∨ k = gg⟩) (fun k hk => .inl (.inl hk)) (fun D hD => ⟨.inl (t3.k.k.d.2 D hD).1, HMY2.out.1 D hD⟩) (fun k hk => ⟨.inl (t3.p k hk), HMY2.out.2 k hk⟩)
          refine ⟨fun hj => ⟨h1, lift_of HJ.out.1 hok ?_ (fun k hk => .inr hk) (fun k hk => .inl (.inr hk)) k2⟩, fun hj => ⟨h1, _, lift_of HJ.out.2 hok hj (fun k hk => .inr hk) (fun k hk => .inl (.inr hk)) k2⟩⟩
          rw [List.map_append, ← List.append_assoc (pre.flatMap (fun h => (bf u N (i + 1)).map (pairT h))), ← List.append_assoc (bfDone u N s i)]
          exact hj
        clear e1 e2 e3 e4 hokY2 hlY2 hlp2 hrr2 hpre2
        have hself : Below W2.heap.size W2 W2 := Below.refl _ _
        have hdrew : Below W2.heap.size W2 W2.drew := hself.drew
        obtain ⟨y0, ⟨x0, x1, x2, x3⟩, ⟨v0, v1, v2', v3⟩⟩ := HCE.out _ hself
        obtain ⟨z0, ⟨c0, c1, c2, c3⟩, ⟨d0, d1, d2, d3⟩⟩ := HCE.out _ hdrew
        have hmx : Try.prog.follows .mixedOrders = true := by kernel_rfl
        gi_wp2_with fail
        gi_region_with_o (first
          | (refine ⟨trivial, ?_⟩; gi_at_call 94; refine (CallsIn.inRound lp2 (callsIn_wide.2 (HPP.out _))).mono ?_; rintro e wP ⟨gg, rfl, hg1, hg2, hgP, hbP⟩; have hbA : Below W2.heap.size W2 wP := (by first | exact belowOn hself (Nat.le_refl _) hbP | exact belowOn hdrew (Nat.le_refl _) hbP); obtain ⟨k0, _, _⟩ := HCE.out _ hbA; obtain ⟨fnY, tmY, asY, boY, hy, hR⟩ := (HYD.out wP gg hbA (by first | exact hg1 | (have := hdrew.size; omega)) hg2 hgP).within lp2 4; have HGP := Lib.hid (And.intro hg1 hg2); have HBA := Lib.hid hbA; clear hgP hbP hbA)
          | (refine hR.mono ?_; rintro e W3 ⟨bb, rfl, HB3⟩))
        all_goals
          obtain ⟨ho3, hj⟩ := HB3.out
          have HE := Lib.hid (HFIN.out wP W3 gg HBA.out HGP.out _ ho3)
          clear ho3
          cases bb with
          | true =>
            have HJ3 := Lib.hid (hj.resolve_right (fun h => by cases h.1)).2
            clear hj
            gi_wp2
            exact HE.out.1 HJ3.out
          | false =>
            have HJ3 := Lib.hid (hj.resolve_left (fun h => by cases h.1)).2
            clear hj
            gi_wp2
            obtain ⟨q1, q2⟩ := HE.out.2 HJ3.out
            exact ⟨q1, q2, rfl⟩
      case done2 =>
        intro Y2 W2 hok2 hI2
        have HI2 := Lib.hid (And.intro hok2 hI2)
        clear hok2 hI2
        gi_wp2
        obtain ⟨hok2, A2, c1, c2, c3, c4⟩ := HI2.out
        refine ⟨c4.b.sub fun k hk => .inl hk, lift_of HJ.out.1 (join_ok c1 hok2 c2) (by rw [List.flatMap_append, List.flatMap_singleton]; exact c3) (fun k hk => .inl (c4.p k hk)) (fun k hk => .inl (c4.z k hk)) (c4.k.k.sets (fun k hk => .inl hk) (fun D hD => ⟨.inl (c4.k.k.d.2 D hD).1, HMY.out D hD⟩))⟩
      case stop2 =>
        rintro c pre2 Y2 W2 hok2 ⟨px, hI2, rfl⟩
        have HI2 := Lib.hid (And.intro hok2 hI2)
        clear hok2 hI2
        gi_wp2
        obtain ⟨hok2, A2, c1, c2, c3, c4⟩ := HI2.out
        exact ⟨c4.b.sub fun k hk => .inl hk, px, lift_of HJ.out.2 (join_ok c1 hok2 c2) c3 (fun k hk => .inl (c4.p k hk)) (fun k hk => .inl (c4.z k hk)) (c4.k.k.sets (fun k hk => .inl hk) (fun D hD => ⟨.inl (c4.k.k.d.2 D hD).1, HMY.out D hD⟩)), rfl⟩
    case done =>
      intro D Y1 W1 hD hYD hokY hI hdef
      have HDS : Hid (∀ D' ∈ Ds, D' < w2.heap.size) := Lib.hid (by
        obtain ⟨B', b1, b2, b3, b4⟩ := HT.out
        exact fun D' hD' => (Array.getElem?_eq_some_iff.1 (b3.d.2 D' hD').2).1)
      obtain ⟨A, a1, a2, a3, a4⟩ := hI
      have hx4 := (cells1_of a4.x.2)
      have HTOT : Hid ((A.join Y1).ok W1.heap.size ∧ J (bfDone u N s (i + 1)) (A.join Y1) W1 ∧ KH Z0 W B3 x4 l ((i : Int) + 1) Ds A W1 ∧ (A.join Y1).p D ∧ W1.heap[D]? = some (.deferred (some [])) ∧ w2.heap.size ≤ D) := Lib.hid ⟨join_ok a1 hokY a2, by rw [bfDone_succ]; exact a3, a4, .inr hYD, hdef, hD⟩
      clear a1 a2 a3 a4 hokY hdef hYD hD
      have w3e : IntKind.i64.wrap ((i : Int) + 1 + 1) = ((i + 1 : Nat) : Int) + 1 := by rw [IntWalk.i64_in _ (by have := HS.out.2.2; have := HLT.out; omega)]; omega
      clear HT
      gi_wp2
      obtain ⟨t1, t2, t3, t4, t5, t6⟩ := HTOT.out
      have hbz : Below W1.heap.size W1 (W1.alloc (.cells #[.int .i64 ((i : Int) + 1 + 1)] 3)) := belowAlloc (Below.refl _ _) _
      have hcz : (W1.alloc (.cells #[.int .i64 ((i : Int) + 1 + 1)] 3)).heap[W1.heap.size]? = some (.cells #[.int .i64 ((i : Int) + 1 + 1)] 3) := World.alloc_heap_new _ _
      have hsz : (W1.alloc (.cells #[.int .i64 ((i : Int) + 1 + 1)] 3)).heap.size = W1.heap.size + 1 := by simp
      have hri : (((i + 1 : Nat) : Int) + 1) = (i : Int) + 1 + 1 := by omega
      refine ⟨⟨i + 1, W1.heap.size, D :: Ds, _, _, _, _, _, _, _, _, _, _, _, _, _, _, _, _, _, _, _, _, _, _, _, _, _, _, rfl, Lib.hid ⟨by have := HLT.out; omega, ?_⟩⟩, ?_⟩
      · obtain ⟨j1, j2⟩ := HJ.out.1.fresh t2 t1 hbz (fun k => k = W1.heap.size) (fun k hk => by rw [hk, hsz]; exact ⟨Nat.le_refl _, by omega⟩)
        have k2 := t3.only (Only.of_below hbz)
        rw [hri]
        refine ⟨_, j2, j1, fun k hk => .inl (.inl (k2.zs k hk)), k2.o, ⟨.inl (.inl k2.y.1), k2.y.2⟩, ⟨.inr rfl, hcz⟩, List.nodup_cons.2 ⟨fun h => by have := HDS.out D h; omega, k2.d.1⟩, fun D' hD' => ?_⟩
        rcases List.mem_cons.1 hD' with h | h
        · rw [h]; exact ⟨t4, (hbz.block D (Array.getElem?_eq_some_iff.1 t5).1).trans t5⟩
        · exact ⟨.inl (k2.d.2 D' h).1, (k2.d.2 D' h).2⟩
      · refine Nat.lt_of_le_of_lt (Nat.le_of_eq (congrArg (s - ·) (restAt_of (p := ⟨W1.heap.size, 0, none⟩) (r := (i : Int) + 1 + 1) rfl (cells1_of hcz)))) ?_
        have := HLT.out
        show s - ((i : Int) + 1 + 1).toNat < s - (i + 1)
        omega
    case stop =>
      rintro D c pre Y1 W1 hD hYD hokY ⟨px, hI, rfl⟩ hdef
      have HDS : Hid (∀ D' ∈ Ds, D' < w2.heap.size) := Lib.hid (by
        obtain ⟨B', b1, b2, b3, b4⟩ := HT.out
        exact fun D' hD' => (Array.getElem?_eq_some_iff.1 (b3.d.2 D' hD').2).1)
      have HI := Lib.hid (And.intro hI (And.intro hokY (And.intro hYD (And.intro hdef hD))))
      clear hI hokY hYD hdef hD
      gi_wp2
      show LeavesInM Fence.wide 5 Try.prog _ _ _ ((D :: Ds).map mk) .returning W1
      obtain ⟨⟨A, a1, a2, a3, a4⟩, hokY, hYD, hdef, hD⟩ := HI.out
      refine leaves_marks (D :: Ds) (A.join Y1) W1 ⟨List.nodup_cons.2 ⟨fun h => by have := HDS.out D h; omega, a4.d.1⟩, fun D' hD' => ?_⟩ fun W' ho => ?_
      · rcases List.mem_cons.1 hD' with h | h
        · rw [h]; exact ⟨.inr hYD, hdef⟩
        · exact ⟨.inl (a4.d.2 D' h).1, (a4.d.2 D' h).2⟩
      · exact ⟨_, results_none rfl _ _ _, ⟨_, rfl⟩, .inr ⟨px, A.join Y1, (join_ok a1 hokY a2).up ho.size, HJ.out.2 _ _ _ W1 W' a3 (join_ok a1 hokY a2) ho (Fp.to.refl _ _) ((join_ok a1 hokY a2).up ho.size)⟩⟩

set_option maxRecDepth 100000 in
set_option maxHeartbeats 2000000 in
theorem built_any (u : List Tm) (hL : u.length ≤ 8) : ∀ N, N ≤ 5 → BuiltC u N := by
  intro N
  induction N with
  | zero => intro _ s a cap Zu w h1 h2; omega
  | succ N ih =>
    intro hN5 s a cap Zu w h1 h2 hz hU
    have hb : Below w.heap.size w ((w.alloc (.cells #[.slice a u.length cap] 23)).alloc (.cells #[.int .i64 (s : Int)] 3)) := belowAlloc (belowAlloc (Below.refl _ _) _) _
    have HB := Lib.hid hb
    have HU := Lib.hid (And.intro hz hU)
    have HIH := Lib.hid (ih (by omega))
    have HS := Lib.hid (And.intro h1 (And.intro h2 hN5))
    have h0 := heapE_0 w (.cells #[.slice a u.length cap] 23) (.cells #[.int .i64 (s : Int)] 3)
    have h1' := heapE_1 w (.cells #[.slice a u.length cap] 23) (.cells #[.int .i64 (s : Int)] 3)
    have hsz : ((w.alloc (.cells #[.slice a u.length cap] 23)).alloc (.cells #[.int .i64 (s : Int)] 3)).heap.size = w.heap.size + 2 := by simp
    have HBX := Lib.hid (And.intro h0 (And.intro h1' hsz))
    clear hb hz hU ih h1 h2 hN5 h0 h1' hsz
    by_cases hs : s = 1
    · subst hs
      go_enter Try.func71, Try.ntmps71
      go_upto_region 1 with (fail)
      generalize hw1 : ((w.alloc (.cells #[.slice a u.length cap] 23)).alloc (.cells #[.int .i64 ((1 : Nat) : Int)] 3)) = w1 at HB HBX ⊢
      clear hw1
      have c0 := cells1_of HBX.out.1
      have c1 := cells1_of HBX.out.2.1
      have z0 := (Array.getElem?_eq_some_iff.1 HBX.out.1).1
      have z1 := (Array.getElem?_eq_some_iff.1 HBX.out.2.1).1
      have HC := Lib.hid (valuesT_any a u.length cap w1)
      go_wp2_with fail
      refine HC.out.mono ?_
      rintro e w2 ⟨rfl, rfl⟩
      go_wp2
      go_ret
      have hb2 : Below w1.heap.size w1 (w1.alloc (.cells #[.slice a u.length cap] 23)) := belowAlloc (Below.refl _ _) _
      have hs1 := HBX.out.2.2
      refine ⟨_, _, rfl, Lib.hid (enters_of Try.func141 (by kernel_rfl) rfl), Lib.hid (belowOn HB.out (Nat.le_refl _) hb2), Lib.hid ?_⟩
      rw [bf_one]
      refine valuesT_iter u w1.heap.size a cap _ _ (by omega) (.inr ⟨by omega, by simp⟩) ?_ (cells1_of (World.alloc_heap_new _ _)) (((HU.out.2.kept HB.out).kept hb2).sub fun k hk => .inl hk)
      rintro k (h | h)
      · have := HU.out.1 k h; simp; omega
      · exact h.2
    · have hsI : ((s : Int) == 1) = false := by rw [beq_eq_false_iff_ne]; omega
      have HS1 := Lib.hid hs
      clear hs
      go_enter Try.func71, Try.ntmps71
      go_upto_region 1 with (fail)
      generalize hw1 : ((w.alloc (.cells #[.slice a u.length cap] 23)).alloc (.cells #[.int .i64 (s : Int)] 3)) = w1 at HB HBX ⊢
      clear hw1
      have c0 := cells1_of HBX.out.1
      have c1 := cells1_of HBX.out.2.1
      have z0 := (Array.getElem?_eq_some_iff.1 HBX.out.1).1
      have z1 := (Array.getElem?_eq_some_iff.1 HBX.out.2.1).1
      go_wp2
      go_ret
      refine ⟨_, _, rfl, Lib.hid (enters_of Try.func122 (by kernel_rfl) rfl), HB, Lib.hid ?_⟩
      refine built1_iter u hL N HIH.out s HS1.out HS.out.2.1 (by have := HS.out.2; omega) (w.heap.size + 1) w.heap.size a cap Zu _ w1 (.inr ⟨by omega, z1⟩) (.inr ⟨Nat.le_refl _, z0⟩) (fun k hk => .inl hk) ?_ c1 c0 (HU.out.2.kept HB.out)
      rintro k (h | h)
      · have := HU.out.1 k h; omega
      · exact h.2
end Go.Proofs.Ytoihimdfmncdoaa

