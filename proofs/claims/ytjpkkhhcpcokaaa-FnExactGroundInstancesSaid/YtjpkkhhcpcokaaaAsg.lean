/-
  The program's assignments: the contract of the iterator that it makes. (Written by wip/tools/gen_asg.py.)
-/
import Derived.Test.YtjpkkhhcpcokaaaIterLift
import Derived.Test.YtjpkkhhcpcokaaaRoundReg
import Derived.Test.YtjpkkhhcpcokaaaMapSubst
import Derived.Test.YtjpkkhhcpcokaaaInstP
import Derived.Sort.CutIn
namespace Go.Proofs.Ytjpkkhhcpcokaaa
open Go.RowKit Go.Shelf
set_option linter.unusedVariables false
set_option linter.unusedSimpArgs false

attribute [local go_sem] Oper.semAt_some

/-! ### a map of values whose parts lie in given blocks -/
def MapS (S : Nat → Prop) (w : World) (b : Nat) (s : List Bd) : Prop :=
  ∃ (f : Ent) (D : DataW Value), w.ownsMap Try.prog 3 elemR b s.length D ∧ FitsD D f ∧ (∀ v, (f v).map Prod.fst = getO s v) ∧ ∀ v p, f v = some p → ArgsS w S p.2 p.1.args
theorem MapS.lt {S : Nat → Prop} {w : World} {b : Nat} {s : List Bd} (h : MapS S w b s) : b < w.heap.size := by obtain ⟨f, D, h1, _⟩ := h; exact h1.lt
theorem MapS.only {S C : Nat → Prop} {w w' : World} {b : Nat} {s : List Bd} (h : MapS S w b s) (ho : Only C w w') (hb : ¬ C b) (hS : ∀ k, S k → ¬ C k) : MapS S w' b s := by
  have hl := h.lt
  obtain ⟨f, D, h1, h2, h3, h4⟩ := h
  obtain ⟨es, clock, e1, e2⟩ := h1
  exact ⟨f, D, ⟨es, clock, (ho.block b hl hb).trans e1, e2⟩, h2, h3, fun v p hp => (h4 v p hp).frame ho.size fun k hk hlt => ho.block k hlt (hS k hk)⟩
theorem mapS_made (S : Nat → Prop) (w : World) : MapS S (w.alloc (.map #[] 0)) w.heap.size [] :=
  ⟨fun _ => none, .map [], World.ownsMap_made w _ _ _, fun v => ⟨fun _ => rfl, fun p h => by cases h⟩, fun v => rfl, fun v p h => by cases h⟩
theorem MapS.g {S : Nat → Prop} {w : World} {b : Nat} {s : List Bd} (h : MapS S w b s) (hn : s.length ≤ 1048576) : MapG w b (getO s) := by
  obtain ⟨f, D, h1, h2, h3, h4⟩ := h
  exact ⟨s.length, f, hn, ⟨D, h1, h2⟩, h3, fun v p hp => (h4 v p hp).at⟩
theorem MapS.update {S : Nat → Prop} {w : World} {b : Nat} {s : List Bd} (h : MapS S w b s) (hn : s.length < maxLen) {v : Int} (hv : wfI v) (x : Tm) (U : Value) (hU : ArgsS w S U x.args) (hb : ¬ S b) :
    ∃ w', (Instr.mapUpdate 89 (.map (some b)) (.int .i64 v) (.agg #[.int .i64 x.kind, .int .i64 x.num, .string x.name, U])).run Try.prog w = .ok () w' ∧ MapS S w' b (⟨v, x⟩ :: s) ∧ Only (fun k => k = b) w w' := by
  obtain ⟨f, D, h1, h2, h3, h4⟩ := h
  obtain ⟨w', hr, h5, h6⟩ := h1.update keyedInt Try.underlying89 hn (keyInt hv) (elemR_mk (celT x U))
  have ho : Only (fun k => k = b) w w' := Only.of_grown h6 rfl
  refine ⟨w', hr, ⟨updF f v (x, U), _, h5, h2.put h1.isMap v (x, U), fun y => ?_, fun y p hp => ?_⟩, ho⟩
  · unfold updF
    by_cases e : y = v
    · subst e; rw [if_pos rfl, getO, if_pos rfl]; rfl
    · rw [if_neg e, h3, getO, if_neg (fun e' => e e'.symm)]
  · unfold updF at hp
    have fr : ∀ {V : Value} {l : List Tm}, ArgsS w S V l → ArgsS w' S V l := fun h => h.frame ho.size fun k hk hl => ho.block k hl fun e => hb (e ▸ hk)
    by_cases e : y = v
    · rw [if_pos e] at hp; cases hp; exact fr hU
    · rw [if_neg e] at hp; exact fr (h4 y p hp)

/-- A slice of integers, its cells in given blocks. -/
def ValsZ (w : World) (Z : Nat → Prop) (V : Value) (vs : List Int) : Prop :=
  ∃ a cap, V = .slice a vs.length cap ∧ vs.length ≤ cap ∧ cap ≤ 9223372036854775807 ∧ (vs = [] ∨ ∃ g off, a = some ⟨g, off, none⟩ ∧ Z g ∧ g < w.heap.size ∧ ∀ j x, vs[j]? = some x → w.cell? ⟨g, off + j, none⟩ = some (.int .i64 x))
theorem ValsZ.only {w w' : World} {Z C : Nat → Prop} {V : Value} {vs : List Int} (h : ValsZ w Z V vs) (ho : Only C w w') (hZ : ∀ k, Z k → ¬ C k) : ValsZ w' Z V vs := by
  obtain ⟨a, cap, h1, h2, h3, h4⟩ := h
  refine ⟨a, cap, h1, h2, h3, h4.imp id ?_⟩
  rintro ⟨g, off, e, hg, hl, hc⟩
  exact ⟨g, off, e, hg, Nat.lt_of_lt_of_le hl ho.size, fun j x hx => (World.cell?_of_block (a := ⟨g, off + j, none⟩) (ho.block g hl (hZ g hg))).trans (hc j x hx)⟩
theorem ValsZ.sub {w : World} {Z Z' : Nat → Prop} {V : Value} {vs : List Int} (h : ValsZ w Z V vs) (hZ : ∀ k, Z k → Z' k) : ValsZ w Z' V vs := by
  obtain ⟨a, cap, h1, h2, h3, h4⟩ := h
  exact ⟨a, cap, h1, h2, h3, h4.imp id fun ⟨g, off, e, hg, h⟩ => ⟨g, off, e, hZ g hg, h⟩⟩

/-- An assignment that is handed on: a map that is given away. -/
def AsgG (Zu : Nat → Prop) (s : List Bd) (va : Array Value) (Y : Fp) (W : World) : Prop := ∃ b, va = #[.map (some b)] ∧ Y.p b ∧ MapS Zu W b s
def AsgK (va : Array Value) (k : Nat) : Prop := va = #[.map (some k)]
theorem asgK_eq {b k : Nat} (h : AsgK #[.map (some b)] k) : k = b := by
  have : (#[Value.map (some b)] : Array Value) = #[Value.map (some k)] := h
  simp only [Array.mk.injEq, List.cons.injEq, Value.map.injEq, Option.some.injEq, and_true] at this
  exact this.symm
def AsgR (u : List Tm) (vs : List Int) (Zu Zin : Nat → Prop) (w : World) (e : Ending) (w' : World) : Prop :=
  ∃ (g : Nat) (lb : Array Value), e = .returned (.func (.func g) #[] lb) ∧ Hid (∀ args W, (callFunc g args).run Try.prog W = .ok (.enter g args) W) ∧ Hid (Below w.heap.size w w') ∧ Hid (IterAt Try.prog g lb (AsgG Zu) AsgK (asgL u vs) (fun k => Zin k ∨ (w.heap.size ≤ k ∧ k < w'.heap.size)) w')
def AsgC (u : List Tm) (Zu : Nat → Prop) (vs : List Int) : Prop :=
  ∀ (V : Value) (a : Option Addr) (cap : Nat) (Zin : Nat → Prop) (w : World), (∀ k, Zu k → Zin k) → (∀ k, Zin k → k < w.heap.size) → ValsZ w Zin V vs → ArgsS w Zu (.slice a u.length cap) u →
    Calls Try.prog 84 #[V, .slice a u.length cap] w (AsgR u vs Zu Zin w)

/-- What the walk of the iterator knows between its rounds. -/
structure KS (Z0 : Nat → Prop) (W0 : World) (B3 l : Nat) (Ds : List Nat) (A : Fp) (W : World) : Prop where
  zs : ∀ k, Z0 k → A.z k
  o : Only (fun k => ¬ Z0 k) W0 W
  y : A.z B3 ∧ W.heap[B3]? = some (.cells #[.func (.yield l) #[] #[]] 153)
  d : Marks Ds A W
theorem KS.only {Z0 : Nat → Prop} {W0 : World} {B3 l : Nat} {Ds : List Nat} {A : Fp} {W W' : World} (h : KS Z0 W0 B3 l Ds A W) (ho : Only (fun k => ¬ A.on k) W W') : KS Z0 W0 B3 l Ds A W' :=
  ⟨h.zs, h.o.trans (ho.sub fun k hk hz => hk (.inr (h.zs k hz))), ⟨h.y.1, (ho.block _ (Array.getElem?_eq_some_iff.1 h.y.2).1 fun hn => hn (.inr h.y.1)).trans h.y.2⟩, h.d.only ho⟩
theorem KS.stable (Z0 : Nat → Prop) (W0 : World) (B3 l : Nat) (Ds : List Nat) : KStable (KS Z0 W0 B3 l Ds) := fun A W W' h _ ho => h.only ho
theorem KS.sets {Z0 : Nat → Prop} {W0 : World} {B3 l : Nat} {Ds : List Nat} {A B : Fp} {W : World} (h : KS Z0 W0 B3 l Ds A W) (hz : ∀ k, A.z k → B.z k) (hp : ∀ D ∈ Ds, B.p D) : KS Z0 W0 B3 l Ds B W :=
  ⟨fun k hk => hz k (h.zs k hk), h.o, ⟨hz _ h.y.1, h.y.2⟩, h.d.1, fun D hD => ⟨hp D hD, (h.d.2 D hD).2⟩⟩
/-- Within a round: the value lies in its box. -/
structure KB (Z0 Zu : Nat → Prop) (W0 : World) (B3 l : Nat) (Ds : List Nat) (x : Tm) (V : Value) (hb : Nat) (A : Fp) (W : World) : Prop where
  k : KS Z0 W0 B3 l Ds A W
  h : A.z hb ∧ W.heap[hb]? = some (.cells #[.int .i64 x.kind, .int .i64 x.num, .string x.name, V] 46)
  a : ArgsS W Zu V x.args
  u : ∀ k, Zu k → Z0 k
theorem KB.only {Z0 Zu : Nat → Prop} {W0 : World} {B3 l : Nat} {Ds : List Nat} {x : Tm} {V : Value} {hb : Nat} {A : Fp} {W W' : World} (h : KB Z0 Zu W0 B3 l Ds x V hb A W) (ho : Only (fun k => ¬ A.on k) W W') : KB Z0 Zu W0 B3 l Ds x V hb A W' :=
  ⟨h.k.only ho, ⟨h.h.1, (ho.block _ (Array.getElem?_eq_some_iff.1 h.h.2).1 fun hn => hn (.inr h.h.1)).trans h.h.2⟩, h.a.frame ho.size fun j hj hl => ho.block j hl fun hn => hn (.inr (h.k.zs j (h.u j hj))), h.u⟩
theorem KB.stable (Z0 Zu : Nat → Prop) (W0 : World) (B3 l : Nat) (Ds : List Nat) (x : Tm) (V : Value) (hb : Nat) : KStable (KB Z0 Zu W0 B3 l Ds x V hb) := fun A W W' h _ ho => h.only ho

def asgDone (u : List Tm) (v : Int) (vs : List Int) (i : Nat) : List (List Bd) := (u.take i).flatMap fun x => (asgL u vs).map fun s => (⟨v, x⟩ : Bd) :: s
theorem asgDone_succ {u : List Tm} {v : Int} {vs : List Int} {i : Nat} {x : Tm} (hx : u[i]? = some x) : asgDone u v vs (i + 1) = asgDone u v vs i ++ (asgL u vs).map fun s => (⟨v, x⟩ : Bd) :: s := by
  unfold asgDone
  rw [take_next hx, List.flatMap_append, List.flatMap_singleton]
theorem asgDone_all (u : List Tm) (v : Int) (vs : List Int) : asgDone u v vs u.length = asgL u (v :: vs) := by unfold asgDone; rw [List.take_length, asgL]
theorem asg_pre {u : List Tm} {v : Int} {vs : List Int} {i : Nat} {x : Tm} (hx : u[i]? = some x) {pre : List (List Bd)} {s : List Bd} (hp : pre ++ [s] <+: asgL u vs) :
    (asgDone u v vs i ++ pre.map fun s => (⟨v, x⟩ : Bd) :: s) ++ [(⟨v, x⟩ : Bd) :: s] <+: asgL u (v :: vs) := by
  obtain ⟨r, hr⟩ := hp
  refine ⟨(r.map fun s => (⟨v, x⟩ : Bd) :: s) ++ (u.drop (i + 1)).flatMap fun x => (asgL u vs).map fun s => (⟨v, x⟩ : Bd) :: s, ?_⟩
  have h1 : asgL u (v :: vs) = asgDone u v vs (i + 1) ++ (u.drop (i + 1)).flatMap fun x => (asgL u vs).map fun s => (⟨v, x⟩ : Bd) :: s := by
    unfold asgDone
    rw [← List.flatMap_append, List.take_append_drop, asgL]
  rw [h1, asgDone_succ hx, ← hr]
  simp [List.append_assoc]
/-- New blocks that may be turned. -/
theorem AbY.fresh_p {β : Type} {J : β → Fp → World → Prop} (hJ : AbY J) {s : β} {B : Fp} {W W' : World} (h : J s B W) (hok : B.ok W.heap.size) (hb : Below W.heap.size W W') (Pn Zn : Nat → Prop) (hP : ∀ k, Pn k → W.heap.size ≤ k ∧ k < W'.heap.size) (hZ : ∀ k, Zn k → W.heap.size ≤ k ∧ k < W'.heap.size) (hd : ∀ k, Zn k → ¬ Pn k) :
    J s ⟨fun k => B.p k ∨ Pn k, fun k => B.z k ∨ Zn k⟩ W' ∧ Fp.ok ⟨fun k => B.p k ∨ Pn k, fun k => B.z k ∨ Zn k⟩ W'.heap.size := by
  have hs := hb.size
  have ok : Fp.ok ⟨fun k => B.p k ∨ Pn k, fun k => B.z k ∨ Zn k⟩ W'.heap.size := ⟨fun k hk => by
    rcases hk with (h | h) | (h | h)
    · have := hok.lt k (.inl h); omega
    · exact (hP k h).2
    · have := hok.lt k (.inr h); omega
    · exact (hZ k h).2, fun k hz hp => by
    rcases hz with h | h <;> rcases hp with h' | h'
    · exact hok.off k h h'
    · have := hok.lt k (.inr h); have := (hP k h').1; omega
    · have := hok.lt k (.inl h'); have := (hZ k h).1; omega
    · exact hd k h h'⟩
  exact ⟨hJ _ _ _ W W' h hok (Only.of_below hb) ⟨fun k hk => hk.imp id fun h => (hP k h).1, fun k hk => .inl hk, fun k hk => hk.imp id fun h => (hZ k h).1⟩ ok, ok⟩

set_option maxRecDepth 100000 in
set_option maxHeartbeats 4000000 in
theorem asg0_iter (u : List Tm) (bv bu : Nat) (va : Option Addr) (vcap : Nat) (Zu Z0 : Nat → Prop) (w : World) (hbv : Z0 bv) (hlt : ∀ k, Z0 k → k < w.heap.size) (hcv : w.cell? ⟨bv, 0, none⟩ = some (.slice va 0 vcap)) :
    IterAt Try.prog 135 #[.pointer (some ⟨bv, 0, none⟩), .pointer (some ⟨bu, 0, none⟩)] (AsgG Zu) AsgK (asgL u []) Z0 w := by
  intro l J Jx Y W ho hZ hok hJ hJx hY h0
  refine (callsIn_wide (n := 5)).1 ?_
  refine callsIn_of_wp Try.func135 rfl trivial ?_ rfl
  simp only [List.append_toArray, List.cons_append, List.nil_append]
  simp only [Try.ntmps135, List.size_toArray, List.length_cons, List.length_nil, Nat.reduceAdd, Nat.reduceSub, Array.replicate_succ, Array.replicate_zero, List.push_toArray, List.append_toArray, List.nil_append, List.cons_append]
  have hcW : W.cell? ⟨bv, 0, none⟩ = some (.slice va 0 vcap) := (World.cell?_of_block (a := ⟨bv, 0, none⟩) (ho.block bv (hlt bv hbv) fun h => h hbv)).trans hcv
  have hbl : bv < W.heap.size := Nat.lt_of_lt_of_le (hlt bv hbv) ho.size
  have hb2 : Below W.heap.size W ((W.alloc (.cells #[.func (.yield l) #[] #[]] 153)).alloc (.map #[] 0)) := belowAlloc (belowAlloc (Below.refl _ _) _) _
  obtain ⟨j1, j2⟩ := hJ.fresh_p h0 hok hb2 (fun k => k = W.heap.size + 1) (fun k => k = W.heap.size) (fun k hk => by rw [hk]; simp) (fun k hk => by rw [hk]; simp; omega) (fun k hk hp => by omega)
  have hm : MapS Zu ((W.alloc (.cells #[.func (.yield l) #[] #[]] 153)).alloc (.map #[] 0)) (W.heap.size + 1) [] := by
    have := mapS_made Zu (W.alloc (.cells #[.func (.yield l) #[] #[]] 153))
    rwa [World.size_alloc] at this
  obtain ⟨fn, tmps, assign, body, hy, hR⟩ := (hY [] [] _ #[.map (some (W.heap.size + 1))] _ j1 j2 (by rw [asgL]; exact List.prefix_refl _) ⟨_, rfl, .inr rfl, hm⟩).at 4
  have HOK := Lib.hid j2
  clear hY hJ hJx hbv hcv ho hZ hok h0 hlt j1 hm hb2
  have hmm := @run_makeMap Try.prog
  gi_wp2
  refine hR.mono ?_
  rintro e W3 ⟨ho3, ⟨rfl, hJ3⟩ | ⟨rfl, hJ3⟩⟩
  · have HJ3 := Lib.hid hJ3
    have HS := Lib.hid ho3.size
    clear ho3 hJ3 hR hy
    gi_wp2
    refine bodyPost_ret (results_none rfl _ _ _) rfl ?_
    exact ⟨⟨_, rfl⟩, .inl ⟨_, HOK.out.up HS.out, HJ3.out⟩⟩
  · have HJ3 := Lib.hid hJ3
    have HS := Lib.hid ho3.size
    clear ho3 hJ3 hR hy
    gi_wp2
    refine bodyPost_ret (results_none rfl _ _ _) rfl ?_
    exact ⟨⟨_, rfl⟩, .inr ⟨_, _, HOK.out.up HS.out, HJ3.out⟩⟩

set_option maxRecDepth 100000 in
set_option maxHeartbeats 8000000 in
theorem asg1_iter (u : List Tm) (hL : u.length ≤ 8) (v : Int) (hv : wfI v) (vs : List Int) (hvl : vs.length ≤ 1048576) (bv bu vg vo vcap : Nat) (a : Option Addr) (cap : Nat) (Zu Z0 : Nat → Prop) (ih : AsgC u Zu vs) (w : World) (hbv : Z0 bv) (hbu : Z0 bu) (hvg : Z0 vg) (hzu : ∀ k, Zu k → Z0 k) (hlt : ∀ k, Z0 k → k < w.heap.size)
    (hcap : vs.length + 1 ≤ vcap ∧ vcap ≤ 9223372036854775807) (hcv : w.cell? ⟨bv, 0, none⟩ = some (.slice (some ⟨vg, vo, none⟩) (vs.length + 1) vcap)) (hcu : w.cell? ⟨bu, 0, none⟩ = some (.slice a u.length cap))
    (hv0 : w.cell? ⟨vg, vo, none⟩ = some (.int .i64 v)) (hvr : ∀ j y, vs[j]? = some y → w.cell? ⟨vg, vo + 1 + j, none⟩ = some (.int .i64 y)) (hU : ArgsS w Zu (.slice a u.length cap) u) :
    IterAt Try.prog 135 #[.pointer (some ⟨bv, 0, none⟩), .pointer (some ⟨bu, 0, none⟩)] (AsgG Zu) AsgK (asgL u (v :: vs)) Z0 w := by
  intro l J Jx Y W ho hZ hok hJ hJx hY h0
  refine (callsIn_wide (n := 5)).1 ?_
  refine callsIn_of_wp_marks Try.func135 rfl trivial ?_ rfl
  simp only [List.append_toArray, List.cons_append, List.nil_append]
  simp only [Try.ntmps135, List.size_toArray, List.length_cons, List.length_nil, Nat.reduceAdd, Nat.reduceSub, Array.replicate_succ, Array.replicate_zero, List.push_toArray, List.append_toArray, List.nil_append, List.cons_append]
  have HIH := Lib.hid ih
  have HY := Lib.hid hY
  have HJ := Lib.hid (And.intro hJ hJx)
  have HZU := Lib.hid hzu
  have HV := Lib.hid (And.intro hv hvl)
  have HCP := Lib.hid hcap
  have HZV := Lib.hid hvg
  -- the captured variables, in every world that keeps Z0
  have HCAP : Hid (∀ W', Only (fun k => ¬ Z0 k) W W' → W'.cell? ⟨bv, 0, none⟩ = some (.slice (some ⟨vg, vo, none⟩) (vs.length + 1) vcap) ∧ W'.cell? ⟨bu, 0, none⟩ = some (.slice a u.length cap) ∧ W'.cell? ⟨vg, vo, none⟩ = some (.int .i64 v) ∧ ArgsS W' Zu (.slice a u.length cap) u ∧ (∀ k, Z0 k → k < W'.heap.size) ∧ (∀ j y, vs[j]? = some y → W'.cell? ⟨vg, vo + 1 + j, none⟩ = some (.int .i64 y))) := Lib.hid fun W' hW => by
    have o := ho.trans hW
    have kp : ∀ {b q : Nat} {x : Value}, Z0 b → w.cell? ⟨b, q, none⟩ = some x → W'.cell? ⟨b, q, none⟩ = some x := fun {b q x} hb hx => (World.cell?_of_block (a := ⟨b, q, none⟩) (o.block b (hlt b hb) fun h => h hb)).trans hx
    exact ⟨kp hbv hcv, kp hbu hcu, kp hvg hv0, hU.frame o.size fun k hk hl => o.block k hl fun h => h (hzu k hk), fun k hk => Nat.lt_of_lt_of_le (hlt k hk) o.size, fun j y hj => kp hvg (hvr j y hj)⟩
  obtain ⟨B3, hB3⟩ : ∃ B3, W.heap.size = B3 := ⟨_, rfl⟩
  have hb1 : Below W.heap.size W (W.alloc (.cells #[.func (.yield l) #[] #[]] 153)) := belowAlloc (Below.refl _ _) _
  have HK0 : Hid (∃ B : Fp, B.ok (W.alloc (.cells #[.func (.yield l) #[] #[]] 153)).heap.size ∧ J (asgDone u v vs 0) B (W.alloc (.cells #[.func (.yield l) #[] #[]] 153)) ∧
      KS Z0 W W.heap.size l [] B (W.alloc (.cells #[.func (.yield l) #[] #[]] 153))) := Lib.hid (by
    obtain ⟨j1, j2⟩ := hJ.fresh h0 hok hb1 (fun k => k = W.heap.size) (fun k hk => by rw [hk]; simp)
    exact ⟨_, j2, j1, fun k hk => .inl (hZ k hk), Only.of_below hb1, ⟨.inr rfl, World.alloc_heap_new _ _⟩, by simp, by simp⟩)
  obtain ⟨cv, cu, cx, _, hz0, _⟩ := HCAP.out (W.alloc (.cells #[.func (.yield l) #[] #[]] 153)) (Only.of_below hb1)
  have zv := hz0 bv hbv
  have zu := hz0 bu hbu
  clear ih hY hJ hJx hzu hbv hbu hcv hcu hU ho hZ hok h0 hlt hb1 hv hvl hcap hvg hv0 hvr hz0
  rw [hB3] at HK0
  have hne0 : (((vs.length + 1 : Nat) : Int) == 0) = false := by rw [beq_eq_false_iff_ne]; omega
  have hne1 : (((vs.length : Int) + 1) == 0) = false := by rw [beq_eq_false_iff_ne]; omega
  gi_upto_region 1 with (fail)
  generalize hw1 : (W.alloc (.cells #[.func (.yield l) #[] #[]] 153)) = w1 at HK0 cv cu cx zv zu ⊢
  clear hw1 hB3
  gi_wp2
  clear cv cu cx zv zu hne0 hne1
  refine wpIn_loop (fun a' w' => ∃ (i : Nat) (Ds : List Nat) (u4 u5 u6 u7 u8 u9 u10 u11 u12 u16 u17 u18 u19 u20 u21 u22 u23 u24 u25 u26 u27 u28 u29 u30 u31 u32 u33 : Value), a' = { tmps := #[.func (.yield l) #[] #[], .pointer (some ⟨bv, 0, none⟩), .pointer (some ⟨bu, 0, none⟩), .pointer (some ⟨B3, 0, none⟩), u4, u5, u6, u7, u8, u9, u10, u11, u12, .slice a u.length cap, .int .i64 (u.length : Int), .int .i64 (i : Int), u16, u17, u18, u19, u20, u21, u22, u23, u24, u25, u26, u27, u28, u29, u30, u31, u32, u33], defers := Ds.map mk } ∧ Hid (i ≤ u.length ∧ ∃ B : Fp, B.ok w'.heap.size ∧ J (asgDone u v vs i) B w' ∧ KS Z0 W B3 l Ds B w')) (fun a' w' => u.length - (intOf (a'.tmps.getD 15 undef)).toNat) ?start ?round
  case start =>
    exact ⟨0, [], _, _, _, _, _, _, _, _, _, _, _, _, _, _, _, _, _, _, _, _, _, _, _, _, _, _, _, rfl, Lib.hid ⟨Nat.zero_le _, HK0.out⟩⟩
  case round =>
    rintro a' w' ⟨i, Ds, u4, u5, u6, u7, u8, u9, u10, u11, u12, u16, u17, u18, u19, u20, u21, u22, u23, u24, u25, u26, u27, u28, u29, u30, u31, u32, u33, rfl, HI⟩
    clear HK0 w1
    obtain ⟨hi, B, hBok, hJB, hKB⟩ := HI.out
    have HJB := Lib.hid (And.intro hBok hJB)
    have HKB := Lib.hid hKB
    obtain ⟨cv, cu, cx, hua, hzl, hvr⟩ := HCAP.out w' hKB.o
    clear hBok hJB HI
    by_cases hlti : i < u.length
    case neg =>
      have hni : ¬ ((i : Int) < (u.length : Int)) := by omega
      have he : i = u.length := by omega
      have HE := Lib.hid he
      clear hlti cv cu cx hua hzl hvr hKB he
      gi_wp2
      show LeavesInM Fence.wide 5 Try.prog _ _ _ (Ds.map mk) .returning w'
      refine leaves_marks Ds B w' HKB.out.d fun W' ho => ?_
      refine ⟨_, results_none rfl _ _ _, ⟨_, rfl⟩, .inl ⟨B, HJB.out.1.up ho.size, ?_⟩⟩
      have hj := HJB.out.2
      rw [HE.out, asgDone_all] at hj
      exact HJ.out.1 _ _ _ w' W' hj HJB.out.1 ho (Fp.to.refl _ _) (HJB.out.1.up ho.size)
    case pos =>
    have hli : ((i : Int) < (u.length : Int)) := by omega
    obtain ⟨x, hx⟩ : ∃ x, u[i]? = some x := ⟨_, List.getElem?_eq_getElem hlti⟩
    obtain ⟨g, off, xa, xc, rfl, hg, _, hcc, hxa⟩ := hua.elem hx
    have HX := Lib.hid hx
    have HLT := Lib.hid hlti
    have HUA := Lib.hid hua
    have HXA := Lib.hid hxa
    have HKO := Lib.hid hKB.o
    obtain ⟨d0, d1, d2, d3⟩ := hcc w' (Below.refl _ _)
    clear hx hlti hua hxa hcc hvr hKB hzl cv cu cx
    gi_upto_region 6 with (fail)
    have hal : Below w'.heap.size w' (w'.alloc (.cells #[.int .i64 x.kind, .int .i64 x.num, .string x.name, .slice xa x.args.length xc] 46)) := belowAlloc (Below.refl _ _) _
    have HAL := Lib.hid hal
    have HBX := Lib.hid (World.alloc_heap_new w' (.cells #[.int .i64 x.kind, .int .i64 x.num, .string x.name, .slice xa x.args.length xc] 46))
    have HSZ : Hid ((w'.alloc (.cells #[.int .i64 x.kind, .int .i64 x.num, .string x.name, .slice xa x.args.length xc] 46)).heap.size = w'.heap.size + 1) := Lib.hid (by simp)
    clear d0 d1 d2 d3 hal hg
    generalize hw2 : w'.alloc (.cells #[.int .i64 x.kind, .int .i64 x.num, .string x.name, .slice xa x.args.length xc] 46) = w2 at HAL HBX HSZ ⊢
    clear hw2
    obtain ⟨hb, hhb⟩ : ∃ hb, w'.heap.size = hb := ⟨_, rfl⟩
    rw [hhb]
    have HHB := Lib.hid hhb
    clear hhb
    obtain ⟨cv, cu, cx, hua, hzl, hvr⟩ := HCAP.out w2 (HKO.out.trans (Only.of_below HAL.out))
    -- assignments of the variables that are left
    have HC1 : Hid (∀ W' V, Below w2.heap.size w2 W' → ValsZ W' Z0 V vs → Calls Try.prog 84 #[V, .slice (some ⟨g, off, none⟩) u.length cap] W' (fun e w3 => AsgR u vs Zu Z0 W' e w3 ∧ Below w2.heap.size w2 w3)) := Lib.hid fun W' V hW hV => by
      obtain ⟨_, _, _, hua', hzl', _⟩ := HCAP.out W' (HKO.out.trans ((Only.of_below HAL.out).trans (Only.of_below hW)))
      refine (HIH.out V _ cap Z0 W' HZU.out hzl' hV hua').mono fun e w3 h => ⟨h, ?_⟩
      obtain ⟨_, _, _, _, hb', _⟩ := h
      exact belowOn hW (Nat.le_refl _) hb'.out
    have HVZ : Hid (∀ W', Below w2.heap.size w2 W' → ∀ q c : Nat, q = vo + 1 → vs.length ≤ c → c ≤ 9223372036854775807 → ValsZ W' Z0 (.slice (some ⟨vg, q, none⟩) vs.length c) vs) := Lib.hid fun W' hW q c hq h1 h2 => by
      obtain ⟨_, _, _, _, hzl', hvr'⟩ := HCAP.out W' (HKO.out.trans ((Only.of_below HAL.out).trans (Only.of_below hW)))
      exact ⟨_, _, rfl, h1, h2, .inr ⟨vg, q, rfl, HZV.out, hzl' vg HZV.out, fun j y hj => by rw [hq]; exact hvr' j y hj⟩⟩
    have hself : Below w2.heap.size w2 w2 := Below.refl _ _
    have hdrew : Below w2.heap.size w2 w2.drew := hself.drew
    have HVL : Hid (vs.length + 1 ≤ vcap ∧ vcap ≤ 9223372036854775807) := HCP
    have s1 : (1 : Int) ≤ ((vs.length + 1 : Nat) : Int) := by omega
    have s1' : (1 : Int) ≤ (vs.length : Int) + 1 := by omega
    have s2 : ((vs.length + 1 : Nat) : Int) ≤ (vcap : Int) := by have := HCP.out.1; omega
    have s2' : (vs.length : Int) + 1 ≤ (vcap : Int) := by have := HCP.out.1; omega
    have s3 : (1 : Int) ≤ (vcap : Int) := by have := HCP.out.1; omega
    clear hua hzl hvr cx
    refine Code.wpIn_mono (Q := fun e a' w3 => e = .normal ∧ ∃ (g1 : Nat) (lb1 : Array Value) (u4 u6 u7 u8 u9 u10 u11 u12 u16 u17 u18 u19 u20 u21 u23 u24 u25 u26 u27 u28 u29 u30 u31 u32 u33 : Value), a' = { tmps := #[.func (.yield l) #[] #[], .pointer (some ⟨bv, 0, none⟩), .pointer (some ⟨bu, 0, none⟩), .pointer (some ⟨B3, 0, none⟩), u4, .pointer (some ⟨hb, 0, none⟩), u6, u7, u8, u9, u10, u11, u12, .slice (some ⟨g, off, none⟩) u.length cap, .int .i64 (u.length : Int), .int .i64 (i : Int), u16, u17, u18, u19, u20, u21, .func (.func g1) #[] lb1, u23, u24, u25, u26, u27, u28, u29, u30, u31, u32, u33], defers := Ds.map mk } ∧ Hid (∀ args W, (callFunc g1 args).run Try.prog W = .ok (.enter g1 args) W) ∧ Hid (Below w2.heap.size w2 w3) ∧ Hid (IterAt Try.prog g1 lb1 (AsgG Zu) AsgK (asgL u vs) (fun k => Z0 k ∨ (w2.heap.size ≤ k ∧ k < w3.heap.size)) w3)) ?post ?reg
    case reg =>
      have HVQ : Hid (∀ p q c : Nat, q = vo + 1 → p = vs.length → vs.length ≤ c → c ≤ 9223372036854775807 → ValsZ w2.drew Z0 (.slice (some ⟨vg, q, none⟩) p c) vs) := Lib.hid fun p q c hq hp h1 h2 => by rw [hp]; exact HVZ.out _ hdrew q c hq h1 h2
      have HVN : Hid (∀ (p c : Nat) (d : Option Addr), vcap = 1 → p = vs.length → c ≤ 9223372036854775807 → ValsZ w2.drew Z0 (.slice d p c) vs) := Lib.hid fun p c d h hp hc => by
        have hn : vs = [] := List.eq_nil_of_length_eq_zero (by have := HCP.out.1; omega)
        exact ⟨d, c, by rw [hp], by rw [hn]; exact Nat.zero_le _, hc, .inl hn⟩
      have HSS : Hid (Below w2.heap.size w2 w2.drew ∧ w2.drew.cell? ⟨bv, 0, none⟩ = some (.slice (some ⟨vg, vo, none⟩) (vs.length + 1) vcap) ∧ w2.drew.cell? ⟨bu, 0, none⟩ = some (.slice (some ⟨g, off, none⟩) u.length cap)) := Lib.hid (by
        obtain ⟨cv', cu', _⟩ := HCAP.out w2.drew (HKO.out.trans ((Only.of_below HAL.out).trans (Only.of_below hdrew)))
        exact ⟨hdrew, cv', cu'⟩)
      have HCC : Hid (∀ W', Below w2.heap.size w2 W' → W'.cell? ⟨bv, 0, none⟩ = some (.slice (some ⟨vg, vo, none⟩) (vs.length + 1) vcap) ∧ W'.cell? ⟨bu, 0, none⟩ = some (.slice (some ⟨g, off, none⟩) u.length cap)) := Lib.hid fun W' hW => by
        obtain ⟨cv', cu', _⟩ := HCAP.out W' (HKO.out.trans ((Only.of_below HAL.out).trans (Only.of_below hW)))
        exact ⟨cv', cu'⟩
      by_cases hc1 : vcap = 1
      · have hn0 : vs.length = 0 := by have := HCP.out.1; omega
        have HC0 := Lib.hid hc1
        have s4 : ((vcap : Int) = 1) := by omega
        refine region_calm (S := fun w' => Below w2.heap.size w2 w' ∧ w'.cell? ⟨bv, 0, none⟩ = some (.slice (some ⟨vg, vo, none⟩) (vs.length + 1) vcap) ∧ w'.cell? ⟨bu, 0, none⟩ = some (.slice (some ⟨g, off, none⟩) u.length cap)) (by kernel_rfl) (by kernel_rfl) HSS.out (fun hHeld => ?_)
        (refine wpAnyH_take (i := 0) (oi := ⟨_, _, _, _, _, _⟩) (v := ?_) rfl (by kernel_rfl) (by kernel_rfl) (by kernel_rfl) (fun _ _ _ h => h) (Or.inl ⟨by rfl, ?_⟩) (by assumption) ?_; rotate_left; focus ((intro w' hSw; (try dsimp only at hSw); go_simp; (try with_reducible rfl)))); (try simp only [Act.put, List.setIfInBounds_toArray, List.set_cons_zero, List.set_cons_succ])
        (refine wpAnyH_take (i := 1) (oi := ⟨_, _, _, _, _, _⟩) (v := ?_) rfl (by kernel_rfl) (by kernel_rfl) (by kernel_rfl) (fun _ _ _ h => h) (Or.inl ⟨by rfl, ?_⟩) (by assumption) ?_; rotate_left; focus ((intro w' hSw; (try dsimp only at hSw); go_simp; (try with_reducible rfl)))); (try simp only [Act.put, List.setIfInBounds_toArray, List.set_cons_zero, List.set_cons_succ])
        (refine wpAnyH_take (i := 2) (oi := ⟨_, _, _, _, _, _⟩) (v := ?_) rfl (by kernel_rfl) (by kernel_rfl) (by kernel_rfl) (fun _ _ _ h => h) (Or.inl ⟨by rfl, ?_⟩) (by assumption) ?_; rotate_left; focus ((intro w' hSw; (try dsimp only at hSw); go_simp; (try with_reducible rfl)))); (try simp only [Act.put, List.setIfInBounds_toArray, List.set_cons_zero, List.set_cons_succ])
        refine wpAnyH_ready (rs := [3]) (by kernel_rfl) (by simp) ?_
        refine AllReadyH.cons (o := ⟨_, _, _, _, _, _⟩) rfl (fun K hK => ?_) AllReadyH.nil
        go_simp
        (go_at_call 84; refine Calls.mono (HC1.out _ _ hdrew (HVN.out _ _ _ HC0.out ?_ ?_)) ?_; (omega); (omega); rintro e w3 ⟨⟨g1, lb1, rfl, HE1, HB1, HIT1⟩, hb3⟩; obtain ⟨k0, k1⟩ := HCC.out _ hb3)
        (try go_wp2_with fail)
        refine hK.out _ _ (by (try dsimp only); (first | go_keep | (refine ⟨by assumption, ?_⟩; go_keep))) (fun hHeld => ?_)
        clear hK K
        (try simp only [Act.put, List.setIfInBounds_toArray, List.set_cons_zero, List.set_cons_succ])
        refine wpAnyH_done (by kernel_rfl) ?_ _
        exact ⟨rfl, _, _, _, _, _, _, _, _, _, _, _, _, _, _, _, _, _, _, _, _, _, _, _, _, _, _, _, rfl, HE1, Lib.hid (belowOn hdrew (Nat.le_refl _) HB1.out), HIT1⟩
      · have s4 : ¬ ((vcap : Int) = 1) := by omega
        refine region_calm (S := fun w' => Below w2.heap.size w2 w' ∧ w'.cell? ⟨bv, 0, none⟩ = some (.slice (some ⟨vg, vo, none⟩) (vs.length + 1) vcap) ∧ w'.cell? ⟨bu, 0, none⟩ = some (.slice (some ⟨g, off, none⟩) u.length cap)) (by kernel_rfl) (by kernel_rfl) HSS.out (fun hHeld => ?_)
        (refine wpAnyH_take (i := 0) (oi := ⟨_, _, _, _, _, _⟩) (v := ?_) rfl (by kernel_rfl) (by kernel_rfl) (by kernel_rfl) (fun _ _ _ h => h) (Or.inl ⟨by rfl, ?_⟩) (by assumption) ?_; rotate_left; focus ((intro w' hSw; (try dsimp only at hSw); go_simp; (try with_reducible rfl)))); (try simp only [Act.put, List.setIfInBounds_toArray, List.set_cons_zero, List.set_cons_succ])
        (refine wpAnyH_take (i := 1) (oi := ⟨_, _, _, _, _, _⟩) (v := ?_) rfl (by kernel_rfl) (by kernel_rfl) (by kernel_rfl) (fun _ _ _ h => h) (Or.inl ⟨by rfl, ?_⟩) (by assumption) ?_; rotate_left; focus ((intro w' hSw; (try dsimp only at hSw); go_simp; (try with_reducible rfl)))); (try simp only [Act.put, List.setIfInBounds_toArray, List.set_cons_zero, List.set_cons_succ])
        (refine wpAnyH_take (i := 2) (oi := ⟨_, _, _, _, _, _⟩) (v := ?_) rfl (by kernel_rfl) (by kernel_rfl) (by kernel_rfl) (fun _ _ _ h => h) (Or.inl ⟨by rfl, ?_⟩) (by assumption) ?_; rotate_left; focus ((intro w' hSw; (try dsimp only at hSw); go_simp; (try with_reducible rfl)))); (try simp only [Act.put, List.setIfInBounds_toArray, List.set_cons_zero, List.set_cons_succ])
        refine wpAnyH_ready (rs := [3]) (by kernel_rfl) (by simp) ?_
        refine AllReadyH.cons (o := ⟨_, _, _, _, _, _⟩) rfl (fun K hK => ?_) AllReadyH.nil
        go_simp
        (go_at_call 84; refine Calls.mono (HC1.out _ _ hdrew (HVQ.out _ _ _ ?_ ?_ ?_ ?_)) ?_; (omega); (omega); (have := HCP.out; omega); (have := HCP.out; omega); rintro e w3 ⟨⟨g1, lb1, rfl, HE1, HB1, HIT1⟩, hb3⟩; obtain ⟨k0, k1⟩ := HCC.out _ hb3)
        (try go_wp2_with fail)
        refine hK.out _ _ (by (try dsimp only); (first | go_keep | (refine ⟨by assumption, ?_⟩; go_keep))) (fun hHeld => ?_)
        clear hK K
        (try simp only [Act.put, List.setIfInBounds_toArray, List.set_cons_zero, List.set_cons_succ])
        refine wpAnyH_done (by kernel_rfl) ?_ _
        exact ⟨rfl, _, _, _, _, _, _, _, _, _, _, _, _, _, _, _, _, _, _, _, _, _, _, _, _, _, _, _, rfl, HE1, Lib.hid (belowOn hdrew (Nat.le_refl _) HB1.out), HIT1⟩
    case post =>
    rintro e a' w3 ⟨rfl, g1, lb1, u4, u6, u7, u8, u9, u10, u11, u12, u16, u17, u18, u19, u20, u21, u23, u24, u25, u26, u27, u28, u29, u30, u31, u32, u33, rfl, HE1, HB1, HIT1⟩
    have HT : Hid (∃ B : Fp, B.ok w3.heap.size ∧ J (asgDone u v vs i ++ ([] : List (List Bd)).map fun s => (⟨v, x⟩ : Bd) :: s) B w3 ∧ KB Z0 Zu W B3 l Ds x (.slice xa x.args.length xc) hb B w3 ∧ ∀ k, (Z0 k ∨ (w2.heap.size ≤ k ∧ k < w3.heap.size)) → B.z k) := Lib.hid (by
      have hb13 : Below w'.heap.size w' w3 := belowOn HAL.out (Nat.le_refl _) HB1.out
      have hs2 := HSZ.out
      have hs3 := HB1.out.size
      obtain ⟨j1, j2⟩ := HJ.out.1.fresh HJB.out.2 HJB.out.1 hb13 (fun k => w'.heap.size ≤ k ∧ k < w3.heap.size) (fun k hk => hk)
      refine ⟨_, j2, by rw [List.map_nil, List.append_nil]; exact j1, ⟨(HKB.out.only (Only.of_below hb13)).sets (fun k hk => .inl hk) (fun D hD => (HKB.out.d.2 D hD).1), ⟨.inr ⟨by have := HHB.out; omega, by have := HHB.out; omega⟩, ?_⟩, HXA.out.kept hb13, HZU.out⟩, fun k hk => hk.imp (fun h => HKB.out.zs k h) (fun h => ⟨by omega, h.2⟩)⟩
      have h2 : w2.heap[hb]? = some (.cells #[.int .i64 x.kind, .int .i64 x.num, .string x.name, .slice xa x.args.length xc] 46) := by rw [← HHB.out]; exact HBX.out
      exact (HB1.out.block hb (Array.getElem?_eq_some_iff.1 h2).1).trans h2)
    have HPV : Hid (∀ k, (Z0 k ∨ (w2.heap.size ≤ k ∧ k < w3.heap.size)) → k < w3.heap.size) := Lib.hid fun k hk => hk.elim (fun h => Nat.lt_of_lt_of_le ((HCAP.out w2 (HKO.out.trans (Only.of_below HAL.out))).2.2.2.2.1 k h) HB1.out.size) And.right
    clear HJB HKB cv cu hself hdrew HVL s1 s1' s2 s2' s3 HC1 HVZ HBX HSZ HAL
    gi_wp2_with fail
    refine range_iter (gf := g1) (lb := lb1) (w0 := w3) (Zc := fun k => Z0 k ∨ (w2.heap.size ≤ k ∧ k < w3.heap.size)) rfl HE1.out HIT1.out (Only.refl _ _) (fun _ h => h) HPV.out (fun s va Y W k hG hk => by
        obtain ⟨b, rfl, hp, _⟩ := hG
        have : (#[Value.map (some b)] : Array Value) = #[Value.map (some k)] := hk
        simp only [Array.mk.injEq, List.cons.injEq, Value.map.injEq, Option.some.injEq, and_true] at this
        rw [← this]
        exact hp) (fun s va Y W hG => by obtain ⟨b, rfl, _⟩ := hG; rfl)
      (fun pre Y W' => Lift J (KB Z0 Zu W B3 l Ds x (.slice xa x.args.length xc) hb) (asgDone u v vs i ++ pre.map fun s => (⟨v, x⟩ : Bd) :: s) Y W')
      (fun c _ Y W' => ∃ px, Lift Jx (KB Z0 Zu W B3 l Ds x (.slice xa x.args.length xc) hb) px Y W' ∧ c = .ret)
      (lift_aby HJ.out.1 (KB.stable Z0 Zu W B3 l Ds x _ hb) _) ?hix ?h0
      (fun pre s va a' Y W' => ∃ (b : Nat) (u4 u7 u8 u9 u10 u11 u12 u16 u17 u18 u19 u20 u21 u22 u23 u24 u25 u26 u27 u28 u29 u30 u31 u32 u33 : Value), va = #[.map (some b)] ∧ Lift J (KB Z0 Zu W B3 l Ds x (.slice xa x.args.length xc) hb) (asgDone u v vs i ++ pre.map fun s => (⟨v, x⟩ : Bd) :: s) Y W' ∧ Y.p b ∧ MapS Zu W' b s ∧ a' = { tmps := #[.func (.yield l) #[] #[], .pointer (some ⟨bv, 0, none⟩), .pointer (some ⟨bu, 0, none⟩), .pointer (some ⟨B3, 0, none⟩), u4, .pointer (some ⟨hb, 0, none⟩), .map (some b), u7, u8, u9, u10, u11, u12, .slice (some ⟨g, off, none⟩) u.length cap, .int .i64 (u.length : Int), .int .i64 (i : Int), u16, u17, u18, u19, u20, u21, u22, u23, u24, u25, u26, u27, u28, u29, u30, u31, u32, u33], defers := [] })
      ?hax ?assign ?body ?done ?stop
    case hix =>
      rintro c s' Y1 Y2 V1 V2 ⟨px, h, hc⟩ h1 h2 h3 h4
      exact ⟨px, lift_aby HJ.out.2 (KB.stable Z0 Zu W B3 l Ds x _ hb) (fun (_ : Unit) => px) () Y1 Y2 V1 V2 h h1 h2 h3 h4, hc⟩
    case h0 =>
      obtain ⟨B', b1, b2, b3, b4⟩ := HT.out
      refine lift_of HJ.out.1 b1 b2 (fun _ h => h.elim) b4 ⟨b3.k.sets (fun _ h => h) (fun D hD => ⟨(b3.k.d.2 D hD).1, id⟩), b3.h, b3.a, b3.u⟩
    case hax =>
      rintro pre s va a' Y1 V1 V2 ⟨b, u4, u7, u8, u9, u10, u11, u12, u16, u17, u18, u19, u20, u21, u22, u23, u24, u25, u26, u27, u28, u29, u30, u31, u32, u33, hva, hL, hp, hm, e⟩ hok ho hok'
      refine ⟨b, u4, u7, u8, u9, u10, u11, u12, u16, u17, u18, u19, u20, u21, u22, u23, u24, u25, u26, u27, u28, u29, u30, u31, u32, u33, hva, lift_aby HJ.out.1 (KB.stable Z0 Zu W B3 l Ds x _ hb) (fun (_ : Unit) => _) () Y1 Y1 V1 V2 hL hok (ho.sub fun _ hk => hk.1) (Fp.to.refl _ _) hok', hp, hm.only ho (fun h => h.2 hva) (fun k hk h => ?_), e⟩
      obtain ⟨A, a1, a2, a3, a4⟩ := hL
      exact a2.on k (.inr (a4.k.zs k (a4.u k hk))) h.1
    case assign =>
      intro lp pre s va p' Y1 W1 K hlp hI hokY hp' hpre hG hK
      obtain ⟨b, rfl, hbp, hm⟩ := hG
      have HK := Lib.hid hK
      have HI := Lib.hid (And.intro hI (And.intro (hp' b hbp) hm))
      clear hI hK hm hbp
      gi_wp2
      exact HK.out _ _ (Only.refl _ _) ⟨b, _, _, _, _, _, _, _, _, _, _, _, _, _, _, _, _, _, _, _, _, _, _, _, _, _, rfl, HI.out.1, HI.out.2.1, HI.out.2.2, rfl⟩
    case body =>
      intro lp pre s va a' Y1 W1 hlp hrr hlY hokY hpre hAx
      obtain ⟨b, u4, u7, u8, u9, u10, u11, u12, u16, u17, u18, u19, u20, u21, u22, u23, u24, u25, u26, u27, u28, u29, u30, u31, u32, u33, rfl, hL, hbp, hm, rfl⟩ := hAx
      obtain ⟨A, a1, a2, a3, a4⟩ := hL
      have HTOT : Hid ((A.join Y1).ok W1.heap.size ∧ A.ok W1.heap.size ∧ Apart A Y1 ∧ J (asgDone u v vs i ++ pre.map fun s => (⟨v, x⟩ : Bd) :: s) (A.join Y1) W1 ∧ KB Z0 Zu W B3 l Ds x (.slice xa x.args.length xc) hb A W1 ∧ Y1.p b) := Lib.hid ⟨join_ok a1 hokY a2, a1, a2, a3, a4, hbp⟩
      have HPRE := Lib.hid hpre
      have hbA : ¬ A.on b := fun h => a2.on b h hbp
      have hbZ : ¬ Zu b := fun h => hbA (.inr (a4.k.zs b (a4.u b h)))
      have hsl : s.length = vs.length := by
        have h1 : s ∈ asgL u vs := hpre.subset (by simp)
        rw [← (asg_mem.1 h1).1, List.length_map]
      have hmd : MapS Zu W1.drew b s := hm.only (only_drew (fun _ => False) W1) id (fun _ _ => id)
      obtain ⟨w5, hr5, hm5, ho5⟩ := hmd.update (by have := HV.out.2; unfold maxLen; omega) HV.out.1 x (.slice xa x.args.length xc) (a4.a.frame (only_drew (fun _ => False) W1).size fun k hk hl => rfl) hbZ
      have HM5 := Lib.hid hm5
      have HO5 : Hid (Only (fun k => k = b) W1 w5) := Lib.hid ((only_drew _ W1).trans ho5)
      have HBA := Lib.hid hbA
      obtain ⟨cv, cu, cx, _, hzl, _⟩ := HCAP.out W1 a4.k.o
      obtain ⟨q0, q1, q2, q3, _⟩ := box_cells a4.h.2
      have HSS : Hid (W1.drew.cell? ⟨bv, 0, none⟩ = some (.slice (some ⟨vg, vo, none⟩) (vs.length + 1) vcap) ∧ W1.drew.cell? ⟨vg, vo, none⟩ = some (.int .i64 v) ∧ W1.drew.cell? ⟨hb, 0, none⟩ = some (.int .i64 x.kind) ∧ W1.drew.cell? ⟨hb, 1, none⟩ = some (.int .i64 x.num) ∧ W1.drew.cell? ⟨hb, 2, none⟩ = some (.string x.name) ∧ W1.drew.cell? ⟨hb, 3, none⟩ = some (.slice xa x.args.length xc)) := Lib.hid ⟨cv, cx, q0, q1, q2, q3⟩
      have zb : hb < W1.heap.size := (Array.getElem?_eq_some_iff.1 a4.h.2).1
      have hbp5 := hbp
      have HSS5 : Hid (w5.cell? ⟨bv, 0, none⟩ = some (.slice (some ⟨vg, vo, none⟩) (vs.length + 1) vcap) ∧ w5.cell? ⟨vg, vo, none⟩ = some (.int .i64 v) ∧ w5.cell? ⟨hb, 0, none⟩ = some (.int .i64 x.kind) ∧ w5.cell? ⟨hb, 1, none⟩ = some (.int .i64 x.num) ∧ w5.cell? ⟨hb, 2, none⟩ = some (.string x.name) ∧ w5.cell? ⟨hb, 3, none⟩ = some (.slice xa x.args.length xc)) := Lib.hid (by
        obtain ⟨cv5, _, cx5, _⟩ := HCAP.out w5 (a4.k.o.trans (HO5.out.sub fun k hk hz => hbA (by rw [← hk]; exact .inr (a4.k.zs k hz))))
        have h5 := (HO5.out.block hb zb fun e => hbA (by rw [← e]; exact .inr a4.h.1)).trans a4.h.2
        obtain ⟨q0, q1, q2, q3, _⟩ := box_cells h5
        exact ⟨cv5, cx5, q0, q1, q2, q3⟩)
      have HYD := Lib.hid ((HY.out _ ((⟨v, x⟩ : Bd) :: s) (A.join Y1) #[.map (some b)] w5 (HJ.out.1 _ _ _ W1 w5 a3 (join_ok a1 hokY a2) (HO5.out.sub fun k hk => by rw [hk]; exact .inr hbp) (Fp.to.refl _ _) ((join_ok a1 hokY a2).up HO5.out.size)) ((join_ok a1 hokY a2).up HO5.out.size) (asg_pre HX.out HPRE.out) ⟨b, rfl, .inr hbp, HM5.out⟩).within lp 4)
      have HEND : Hid (∀ W3, Only (fun k => ¬ (A.join Y1).on k ∨ AsgK #[.map (some b)] k) w5 W3 → Only (fun k => ¬ Y1.on k ∨ AsgK #[.map (some b)] k) W1 W3 ∧
          (J ((asgDone u v vs i ++ pre.map fun s => (⟨v, x⟩ : Bd) :: s) ++ [(⟨v, x⟩ : Bd) :: s]) (A.join Y1) W3 → Lift J (KB Z0 Zu W B3 l Ds x (.slice xa x.args.length xc) hb) (asgDone u v vs i ++ (pre ++ [s]).map fun s => (⟨v, x⟩ : Bd) :: s) Y1 W3) ∧
          (∀ px, Jx px (A.join Y1) W3 → ∃ px, Lift Jx (KB Z0 Zu W B3 l Ds x (.slice xa x.args.length xc) hb) px Y1 W3)) := Lib.hid fun W3 ho => by
        have o1 : Only (fun k => ¬ A.on k) W1 W3 := (HO5.out.sub fun k hk (hn : A.on k) => hbA (by rw [← hk]; exact hn)).trans (ho.sub fun k hk (hn : A.on k) => hk.elim (fun h => h (hn.imp .inl .inl)) (fun h => hbA (by rw [← asgK_eq h]; exact hn)))
        refine ⟨(HO5.out.sub fun k hk => .inr (by rw [hk]; rfl)).trans (ho.sub fun k hk => hk.imp (fun h hn => h (hn.imp .inr .inr)) id), fun hj => ⟨A, a1.up o1.size, a2, ?_, a4.only o1⟩, fun px hj => ⟨px, A, a1.up o1.size, a2, hj, a4.only o1⟩⟩
        rw [List.map_append, ← List.append_assoc]
        exact hj
      clear a1 a2 a3 a4 hpre hokY hlY hlp hrr hm hmd hm5 ho5 hbA hbZ hsl hbp hbp5 cu cv cx q0 q1 q2 q3
      have i0 : (0 : Int) < ((vs.length + 1 : Nat) : Int) := by omega
      have i1 : (0 : Int) < (vs.length : Int) + 1 := by omega
      gi_upto_region 8 with (fail)
      refine region_in (S := fun w' => w'.cell? ⟨bv, 0, none⟩ = some (.slice (some ⟨vg, vo, none⟩) (vs.length + 1) vcap) ∧ w'.cell? ⟨vg, vo, none⟩ = some (.int .i64 v) ∧ w'.cell? ⟨hb, 0, none⟩ = some (.int .i64 x.kind) ∧ w'.cell? ⟨hb, 1, none⟩ = some (.int .i64 x.num) ∧ w'.cell? ⟨hb, 2, none⟩ = some (.string x.name) ∧ w'.cell? ⟨hb, 3, none⟩ = some (.slice xa x.args.length xc)) (by kernel_rfl) (by kernel_rfl) ?hq HSS.out (fun hHeld => ?_)
      case hq => exact fun _ _ h => h
      (refine wpAnyH_take (i := 0) (oi := ⟨_, _, _, _, _, _⟩) (v := ?_) rfl (by kernel_rfl) (by kernel_rfl) (by kernel_rfl) (fun _ _ _ h => h) (Or.inl ⟨by rfl, ?_⟩) (by assumption) ?_; rotate_left; focus ((intro w' hSw; (try dsimp only at hSw); go_simp; (try with_reducible rfl)))); (try simp only [Act.put, List.setIfInBounds_toArray, List.set_cons_zero, List.set_cons_succ])
      (refine wpAnyH_take (i := 1) (oi := ⟨_, _, _, _, _, _⟩) (v := ?_) rfl (by kernel_rfl) (by kernel_rfl) (by kernel_rfl) (fun _ _ _ h => h) (Or.inl ⟨by rfl, ?_⟩) (by assumption) ?_; rotate_left; focus ((intro w' hSw; (try dsimp only at hSw); go_simp; (try with_reducible rfl)))); (try simp only [Act.put, List.setIfInBounds_toArray, List.set_cons_zero, List.set_cons_succ])
      (refine wpAnyH_take (i := 2) (oi := ⟨_, _, _, _, _, _⟩) (v := ?_) rfl (by kernel_rfl) (by kernel_rfl) (by kernel_rfl) (fun _ _ _ h => h) (Or.inl ⟨by rfl, ?_⟩) (by assumption) ?_; rotate_left; focus ((intro w' hSw; (try dsimp only at hSw); go_simp; (try with_reducible rfl)))); (try simp only [Act.put, List.setIfInBounds_toArray, List.set_cons_zero, List.set_cons_succ])
      (refine wpAnyH_take (i := 3) (oi := ⟨_, _, _, _, _, _⟩) (v := ?_) rfl (by kernel_rfl) (by kernel_rfl) (by kernel_rfl) (fun _ _ _ h => h) (Or.inl ⟨by rfl, ?_⟩) (by assumption) ?_; rotate_left; focus ((intro w' hSw; (try dsimp only at hSw); go_simp; (try with_reducible rfl)))); (try simp only [Act.put, List.setIfInBounds_toArray, List.set_cons_zero, List.set_cons_succ])
      (refine wpAnyH_take (i := 4) (oi := ⟨_, _, _, _, _, _⟩) (v := ?_) rfl (by kernel_rfl) (by kernel_rfl) (by kernel_rfl) (fun _ _ _ h => h) (Or.inl ⟨by rfl, ?_⟩) (by assumption) ?_; rotate_left; focus ((intro w' hSw; (try dsimp only at hSw); go_simp; (try with_reducible rfl)))); (try simp only [Act.put, List.setIfInBounds_toArray, List.set_cons_zero, List.set_cons_succ])
      refine wpAnyH_ready (rs := [5]) (by kernel_rfl) (by simp) ?_
      refine AllReadyH.cons (o := ⟨_, _, _, _, _, _⟩) rfl (fun K hK => ?_) AllReadyH.nil
      go_simp
      refine hK.out _ _ HSS5.out (fun hHeld => ?_)
      clear hK K
      (try simp only [Act.put, List.setIfInBounds_toArray, List.set_cons_zero, List.set_cons_succ])
      refine wpAnyH_done (by kernel_rfl) ?_ _
      have hYE : w5.cell? ⟨B3, 0, none⟩ = some (.func (.yield l) #[] #[]) := by
        have h := HTOT.out.2.2.2.2.1.k.y
        refine cells1_of ((HO5.out.block B3 (Array.getElem?_eq_some_iff.1 h.2).1 fun e => ?_).trans h.2)
        exact HBA.out (by rw [← e]; exact .inr h.1)
      obtain ⟨fn, tmps, assign, body, hy, hR⟩ := HYD.out
      clear HSS HSS5 HM5 HTOT HO5 hHeld zb i0 i1
      gi_wp2
      refine hR.mono ?_
      rintro e W3 ⟨ho3, ⟨rfl, hJ3⟩ | ⟨rfl, hJ3⟩⟩
      · obtain ⟨e1, e2, _⟩ := HEND.out W3 ho3
        have HR3 := Lib.hid (And.intro e1 (e2 hJ3))
        clear e1 e2 ho3 hJ3 hR hy HYD HEND
        gi_wp2
        exact HR3.out
      · obtain ⟨e1, _, e3⟩ := HEND.out W3 ho3
        obtain ⟨px, e4⟩ := e3 _ hJ3
        have HR3 := Lib.hid (And.intro e1 e4)
        clear e1 e3 e4 ho3 hJ3 hR hy HYD HEND
        gi_wp2
        exact ⟨HR3.out.1, px, HR3.out.2, rfl⟩
    case done =>
      intro D Y1 W1 hD hYD hokY hI hdef
      have HDS : Hid (∀ D' ∈ Ds, D' < w3.heap.size) := Lib.hid (by
        obtain ⟨B', b1, b2, b3, b4⟩ := HT.out
        exact fun D' hD' => (Array.getElem?_eq_some_iff.1 (b3.k.d.2 D' hD').2).1)
      obtain ⟨A, a1, a2, a3, a4⟩ := hI
      have HTOT : Hid ((A.join Y1).ok W1.heap.size ∧ J (asgDone u v vs (i + 1)) (A.join Y1) W1 ∧ KB Z0 Zu W B3 l Ds x (.slice xa x.args.length xc) hb A W1 ∧ (A.join Y1).p D ∧ W1.heap[D]? = some (.deferred (some [])) ∧ w3.heap.size ≤ D) := Lib.hid ⟨join_ok a1 hokY a2, by rw [asgDone_succ HX.out]; exact a3, a4, .inr hYD, hdef, hD⟩
      clear a1 a2 a3 a4 hokY hdef hYD hD HT
      have w3e : IntKind.i64.wrap ((i : Int) + 1) = ((i + 1 : Nat) : Int) := by rw [IntWalk.i64_in _ (by have := HLT.out; omega)]; omega
      gi_wp2
      obtain ⟨t1, t2, t3, t4, t5, t6⟩ := HTOT.out
      refine ⟨⟨i + 1, D :: Ds, _, _, _, _, _, _, _, _, _, _, _, _, _, _, _, _, _, _, _, _, _, _, _, _, _, _, _, rfl, Lib.hid ⟨HLT.out, A.join Y1, t1, t2, ⟨fun k hk => .inl (t3.k.zs k hk), t3.k.o, ⟨.inl t3.k.y.1, t3.k.y.2⟩, List.nodup_cons.2 ⟨fun h => by have := HDS.out D h; omega, t3.k.d.1⟩, fun D' hD' => ?_⟩⟩⟩, ?_⟩
      · rcases List.mem_cons.1 hD' with h | h
        · rw [h]; exact ⟨t4, t5⟩
        · exact ⟨.inl (t3.k.d.2 D' h).1, (t3.k.d.2 D' h).2⟩
      · have := HLT.out
        simp [intOf]
        omega
    case stop =>
      rintro D c pre Y1 W1 hD hYD hokY ⟨px, hI, rfl⟩ hdef
      have HDS : Hid (∀ D' ∈ Ds, D' < w3.heap.size) := Lib.hid (by
        obtain ⟨B', b1, b2, b3, b4⟩ := HT.out
        exact fun D' hD' => (Array.getElem?_eq_some_iff.1 (b3.k.d.2 D' hD').2).1)
      have HI := Lib.hid (And.intro hI (And.intro hokY (And.intro hYD (And.intro hdef hD))))
      clear hI hokY hYD hdef hD
      gi_wp2
      show LeavesInM Fence.wide 5 Try.prog _ _ _ ((D :: Ds).map mk) .returning W1
      obtain ⟨⟨A, a1, a2, a3, a4⟩, hokY, hYD, hdef, hD⟩ := HI.out
      refine leaves_marks (D :: Ds) (A.join Y1) W1 ⟨List.nodup_cons.2 ⟨fun h => by have := HDS.out D h; omega, a4.k.d.1⟩, fun D' hD' => ?_⟩ fun W' ho => ?_
      · rcases List.mem_cons.1 hD' with h | h
        · rw [h]; exact ⟨.inr hYD, hdef⟩
        · exact ⟨.inl (a4.k.d.2 D' h).1, (a4.k.d.2 D' h).2⟩
      · exact ⟨_, results_none rfl _ _ _, ⟨_, rfl⟩, .inr ⟨px, A.join Y1, (join_ok a1 hokY a2).up ho.size, HJ.out.2 _ _ _ W1 W' a3 (join_ok a1 hokY a2) ho (Fp.to.refl _ _) ((join_ok a1 hokY a2).up ho.size)⟩⟩

set_option maxRecDepth 100000 in
set_option maxHeartbeats 2000000 in
theorem asg_any (u : List Tm) (hL : u.length ≤ 8) (Zu : Nat → Prop) : ∀ vs : List Int, vs.length ≤ 1048576 → (∀ v ∈ vs, wfI v) → AsgC u Zu vs := by
  intro vs
  induction vs with
  | nil =>
    intro _ _ V a cap Zin w hzu hz hV hU
    obtain ⟨p, c, rfl, h1, h2, h3⟩ := hV
    have hb : Below w.heap.size w ((w.alloc (.cells #[.slice p 0 c] 109)).alloc (.cells #[.slice a u.length cap] 35)) := belowAlloc (belowAlloc (Below.refl _ _) _) _
    have hlt : ∀ k, (Zin k ∨ (w.heap.size ≤ k ∧ k < ((w.alloc (.cells #[.slice p 0 c] 109)).alloc (.cells #[.slice a u.length cap] 35)).heap.size)) → k < ((w.alloc (.cells #[.slice p 0 c] 109)).alloc (.cells #[.slice a u.length cap] 35)).heap.size := fun k hk => hk.elim (fun h => Nat.lt_of_lt_of_le (hz k h) hb.size) And.right
    have HB := Lib.hid hb
    have HIT := Lib.hid (asg0_iter u w.heap.size (w.heap.size + 1) p c Zu _ _ (.inr ⟨Nat.le_refl _, by simp; omega⟩) hlt (cells1_of (heapE_0 w _ _)))
    clear hb hlt hU h1 h2 h3 hzu hz
    show Calls _ _ #[.slice p 0 c, _] _ _
    go_enter Try.func84, Try.ntmps84
    go_wp2
    go_ret
    exact ⟨_, _, rfl, Lib.hid (enters_of Try.func135 (by kernel_rfl) rfl), HB, HIT⟩
  | cons v vs ih =>
    intro hl hw V a cap Zin w hzu hz hV hU
    obtain ⟨p, c, rfl, h1, h2, h3⟩ := hV
    obtain ⟨g, off, rfl, hg, hgl, hc⟩ := h3.resolve_left (by simp)
    have hl' : vs.length + 1 ≤ 1048576 := by simpa using hl
    have hb : Below w.heap.size w ((w.alloc (.cells #[.slice (some ⟨g, off, none⟩) (vs.length + 1) c] 109)).alloc (.cells #[.slice a u.length cap] 35)) := belowAlloc (belowAlloc (Below.refl _ _) _) _
    have hlt : ∀ k, (Zin k ∨ (w.heap.size ≤ k ∧ k < ((w.alloc (.cells #[.slice (some ⟨g, off, none⟩) (vs.length + 1) c] 109)).alloc (.cells #[.slice a u.length cap] 35)).heap.size)) → k < ((w.alloc (.cells #[.slice (some ⟨g, off, none⟩) (vs.length + 1) c] 109)).alloc (.cells #[.slice a u.length cap] 35)).heap.size := fun k hk => hk.elim (fun h => Nat.lt_of_lt_of_le (hz k h) hb.size) And.right
    have kp : ∀ {q : Nat} {x : Value}, w.cell? ⟨g, q, none⟩ = some x → ((w.alloc (.cells #[.slice (some ⟨g, off, none⟩) (vs.length + 1) c] 109)).alloc (.cells #[.slice a u.length cap] 35)).cell? ⟨g, q, none⟩ = some x := fun {q x} h => (hb.cell (p := ⟨g, q, none⟩) hgl).trans h
    have HB := Lib.hid hb
    have HIT := Lib.hid (asg1_iter u hL v (hw v (by simp)) vs (by omega) w.heap.size (w.heap.size + 1) g off c a cap Zu (fun k => Zin k ∨ (w.heap.size ≤ k ∧ k < ((w.alloc (.cells #[.slice (some ⟨g, off, none⟩) (vs.length + 1) c] 109)).alloc (.cells #[.slice a u.length cap] 35)).heap.size)) (ih (by omega) fun y hy => hw y (by simp [hy])) _
      (.inr ⟨Nat.le_refl _, by simp; omega⟩) (.inr ⟨by omega, by simp⟩) (.inl hg) (fun k hk => .inl (hzu k hk)) hlt ⟨by simpa using h1, h2⟩ (cells1_of (heapE_0 w _ _)) (cells1_of (heapE_1 w _ _)) (kp (by simpa using hc 0 v rfl)) (fun j y hj => kp (by have := hc (j + 1) y (by simpa using hj); rwa [show off + 1 + j = off + (j + 1) by omega])) (hU.kept hb))
    clear hb hlt kp hU h1 h2 h3 hzu hz hc hg hgl ih
    show Calls _ _ #[.slice (some ⟨g, off, none⟩) (vs.length + 1) c, _] _ _
    go_enter Try.func84, Try.ntmps84
    go_wp2
    go_ret
    exact ⟨_, _, rfl, Lib.hid (enters_of Try.func135 (by kernel_rfl) rfl), HB, HIT⟩
end Go.Proofs.Ytjpkkhhcpcokaaa

