/-
  A range over a function whose iterator itself ranges over functions: footprints, the iterator's contract, the law of the statement.
-/
import Derived.RangeFuncBox
import Derived.RangeFuncLeaves
import Derived.RangeFuncNested
import Derived.RangeFuncBound
import Derived.RangeFuncCalls
import Derived.Test.YtjpkkhhcpcokaaaTrees
namespace Go.Proofs.Ytjpkkhhcpcokaaa
open Go.RowKit
set_option linter.unusedVariables false
set_option linter.unusedSimpArgs false

/-- An iterator's blocks: p: those that it may turn; z: those that nobody turns. -/
structure Fp where
  p : Nat → Prop
  z : Nat → Prop
def Fp.on (Y : Fp) (k : Nat) : Prop := Y.p k ∨ Y.z k
structure Fp.ok (Y : Fp) (n : Nat) : Prop where
  lt : ∀ k, Y.on k → k < n
  off : ∀ k, Y.z k → ¬ Y.p k
/-- Y' is Y, but for blocks from n on (and for blocks that are no longer turned). -/
structure Fp.to (Y Y' : Fp) (n : Nat) : Prop where
  p : ∀ k, Y'.p k → Y.p k ∨ n ≤ k
  z : ∀ k, Y.z k → Y'.z k
  z' : ∀ k, Y'.z k → Y.z k ∨ n ≤ k
theorem Fp.to.refl (Y : Fp) (n : Nat) : Y.to Y n := ⟨fun _ h => .inl h, fun _ h => h, fun _ h => .inl h⟩
/-- What abides the iterator's steps. -/
def AbY {β : Type} (J : β → Fp → World → Prop) : Prop :=
  ∀ s Y Y' W W', J s Y W → Y.ok W.heap.size → Only Y.p W W' → Y.to Y' W.heap.size → Y'.ok W'.heap.size → J s Y' W'
theorem AbY.and {β : Type} {J K : β → Fp → World → Prop} (hJ : AbY J) (hK : AbY K) : AbY fun s Y W => J s Y W ∧ K s Y W :=
  fun s Y Y' W W' h h1 h2 h3 h4 => ⟨hJ s Y Y' W W' h.1 h1 h2 h3 h4, hK s Y Y' W W' h.2 h1 h2 h3 h4⟩

/-- What abides the turns of blocks that are not given away. -/
def AbC {β : Type} (c : Nat → Prop) (J : β → Fp → World → Prop) : Prop :=
  ∀ s Y W W', J s Y W → Y.ok W.heap.size → Only (fun k => Y.p k ∧ ¬ c k) W W' → Y.ok W'.heap.size → J s Y W'
theorem AbY.c {β : Type} {J : β → Fp → World → Prop} (hJ : AbY J) (c : Nat → Prop) : AbC c J := fun s Y W W' h1 h2 h3 h4 => hJ s Y Y W W' h1 h2 (h3.sub fun _ hk => hk.1) (Fp.to.refl _ _) h4

/-- One call of yield, whatever the depth. -/
def YieldW (P : Program) (l : Nat) (args : Array Value) (W : World) (R : Ending → World → Prop) : Prop := YieldAt Fence.wide 0 P l args W R
theorem YieldW.at {P : Program} {l : Nat} {args : Array Value} {W : World} {R : Ending → World → Prop} (h : YieldW P l args W R) (m : Nat) : YieldAt Fence.wide m P l args W R := by
  obtain ⟨fn, tmps, assign, body, hy, hf, hR⟩ := h
  exact ⟨fn, tmps, assign, body, hy, hf, fun c cs _ => hR c cs (room_wide _)⟩
theorem YieldW.within {P : Program} {l : Nat} {args : Array Value} {W : World} {R : Ending → World → Prop} (h : YieldW P l args W R) (l₀ m : Nat) : YieldAt (Fence.wide.inRound l₀) m P l args W R := h.at m
theorem YieldW.mono {P : Program} {l : Nat} {args : Array Value} {W : World} {R R' : Ending → World → Prop} (h : YieldW P l args W R) (hr : ∀ e w, R e w → R' e w) : YieldW P l args W R' := by
  obtain ⟨fn, tmps, assign, body, hy, hR⟩ := h
  exact ⟨fn, tmps, assign, body, hy, hR.mono hr⟩

/-- **The contract of an iterator** that hands on the elements of L, in this order: G: what an element's values are where they are handed on; C: which of its own blocks it gives away with them; Z0: the blocks that it reads. -/
def IterAt {α : Type} (P : Program) (g : Nat) (lb : Array Value) (G : α → Array Value → Fp → World → Prop) (C : Array Value → Nat → Prop) (L : List α) (Z0 : Nat → Prop) (w : World) : Prop :=
  ∀ (l : Nat) (J Jx : List α → Fp → World → Prop) (Y : Fp) (W : World), Only (fun k => ¬ Z0 k) w W → (∀ k, Z0 k → Y.z k) → Y.ok W.heap.size → AbY J → AbY Jx →
    (∀ (pre : List α) (x : α) (Y1 : Fp) (v : Array Value) (W1 : World), J pre Y1 W1 → Y1.ok W1.heap.size → (pre ++ [x]) <+: L → G x v Y1 W1 →
      YieldW P l v W1 fun e W' => Only (fun k => ¬ Y1.on k ∨ C v k) W1 W' ∧ ((e = .returned (.bool true) ∧ J (pre ++ [x]) Y1 W') ∨ (e = .returned (.bool false) ∧ Jx (pre ++ [x]) Y1 W'))) →
    J [] Y W →
    Calls P g (#[.func (.yield l) #[] #[]] ++ lb) W fun e W' => (∃ v, e = .returned v) ∧ ((∃ Y', Y'.ok W'.heap.size ∧ J L Y' W') ∨ (∃ pre Y', Y'.ok W'.heap.size ∧ Jx pre Y' W'))

theorem only_putObj (W : World) (l : Nat) (o : Obj) : Only (fun k => k = l) W (W.putObj l o) :=
  ⟨rfl, rfl, rfl, by simp, fun k _ hk => World.putObj_heap_other hk⟩
theorem only_alloc (S : Nat → Prop) (W : World) (o : Obj) : Only S W (W.alloc o) := Only.of_below ((Below.refl _ _).alloc (Nat.le_refl _) o)
theorem only_drew (S : Nat → Prop) (W : World) : Only S W W.drew := ⟨rfl, rfl, rfl, Nat.le_refl _, fun _ _ _ => rfl⟩

/-- The loop's record, by its state and its pending jump. -/
def recOf (fn : FuncId) (tmps : Array Value) (ps : Array Tmp) (assign body : Code) (dd : Nat) (st : LoopState) (pe : Option Code) : Loop :=
  { state := st, pending := pe, fn, tmps, params := ps, assign, body, defers := dd }

/-- How the body of a round may be left. -/
def postY {α : Type} (Y : Fp) (C : Array Value → Nat → Prop) (v : Array Value) (I : List α → Fp → World → Prop) (Ix : Code → List α → Fp → World → Prop) (xs : List α) (W : World) : Exit → Act → World → Prop
  | .normal, _, W' => Only (fun k => ¬ Y.on k ∨ C v k) W W' ∧ I xs Y W'
  | .ret, _, W' => Only (fun k => ¬ Y.on k ∨ C v k) W W' ∧ Ix .ret xs Y W'
  | .exit id, _, W' => Only (fun k => ¬ Y.on k ∨ C v k) W W' ∧ Ix (.exit id) xs Y W'
  | .goto t, _, W' => Only (fun k => ¬ Y.on k ∨ C v k) W W' ∧ Ix (.goto t) xs Y W'
  | .panic _, _, _ => False
  | .outgrown, _, _ => False

/-- The iterator's call, the record laid. -/
theorem iter_core {α : Type} {P : Program} {fn : FuncId} {tmps : Array Value} {ps : Array Tmp} {assign body : Code} {dd l : Nat} {BK : Nat → Prop} {W0 w0 : World} {gf : Nat} {lb : Array Value}
    {G : α → Array Value → Fp → World → Prop} {C : Array Value → Nat → Prop} {L : List α} {Z0 Zc : Nat → Prop} (hseq : IterAt P gf lb G C L Z0 w0)
    (hl : W0.heap[l]? = some (.loop (recOf fn tmps ps assign body dd .ready none))) (hBl : BK l) (hBlt : ∀ k, BK k → k < W0.heap.size)
    (hb0 : Only (fun k => ¬ Z0 k) w0 W0) (hZ : ∀ k, Z0 k → Zc k) (hZlt : ∀ k, Zc k → k < W0.heap.size) (hZB : ∀ k, Zc k → ¬ BK k)
    (hC : ∀ x v Y W k, G x v Y W → C v k → Y.p k) (hps : ∀ x v Y W, G x v Y W → v.size = ps.size)
    (I : List α → Fp → World → Prop) (Ix : Code → List α → Fp → World → Prop) (hI : AbY I) (hIx : ∀ c, AbY (Ix c)) (h0 : I [] ⟨BK, Zc⟩ W0) (Ax : List α → α → Array Value → Act → Fp → World → Prop) (hAx : ∀ pre x v, AbC (C v) (Ax pre x v))
    (hassign : ∀ (pre : List α) (x : α) (v : Array Value) (p' : Nat → Prop) (Y : Fp) (W : World) (K : Act → World → Prop), I pre Y W → Y.ok W.heap.size → (∀ k, p' k → Y.p k) → (pre ++ [x]) <+: L → G x v ⟨p', Y.z⟩ W →
      (∀ a' W', Only (fun k => ¬ Y.on k ∨ C v k) W W' → Ax pre x v a' Y W' → K a' W') →
      assign.wpIn (Fence.wide.inRound l) 5 P (Exit.then K (fun _ _ _ => False)) { tmps := (ps.zip v).foldl (fun t (p, v) => t.setIfInBounds p v) tmps, defers := [] } W)
    (hbody : ∀ (pre : List α) (x : α) (v : Array Value) (a' : Act) (Y : Fp) (W : World), (∃ r, W.heap[l]? = some (.loop r)) → Y.p l → Y.ok W.heap.size → (pre ++ [x]) <+: L → Ax pre x v a' Y W →
      body.wpIn (Fence.wide.inRound l) 5 P (postY Y C v I Ix (pre ++ [x]) W) a' W) :
    Calls P gf (#[.func (.yield l) #[] #[]] ++ lb) W0 fun e W' => (∃ v, e = .returned v) ∧ (∀ k, BK k → k ≠ l → W'.heap[k]? = W0.heap[k]?) ∧
      ((W'.heap[l]? = some (.loop (recOf fn tmps ps assign body dd .ready none)) ∧ ∃ Y, Y.ok W'.heap.size ∧ (∀ k, BK k → Y.p k) ∧ I L Y W') ∨
       (∃ c pre, W'.heap[l]? = some (.loop (recOf fn tmps ps assign body dd .done (some c))) ∧ ∃ Y, Y.ok W'.heap.size ∧ (∀ k, BK k → Y.p k) ∧ Ix c pre Y W')) := by
  have okB : ∀ (Y : Fp) n, Y.ok n → (∀ k, BK k → ¬ Y.on k) → (∀ k, BK k → k < n) → Fp.ok ⟨fun k => Y.p k ∨ BK k, Y.z⟩ n := fun Y n h1 h2 h3 =>
    ⟨fun k hk => by
      rcases hk with (h | h) | h
      · exact h1.lt k (.inl h)
      · exact h3 k h
      · exact h1.lt k (.inr h), fun k hz hp => by
      rcases hp with h | h
      · exact h1.off k hz h
      · exact h2 k h (.inr hz)⟩
  have toB : ∀ (Y Y' : Fp) n, Y.to Y' n → Fp.to ⟨fun k => Y.p k ∨ BK k, Y.z⟩ ⟨fun k => Y'.p k ∨ BK k, Y'.z⟩ n := fun Y Y' n h =>
    ⟨fun k hk => by
      rcases hk with h1 | h1
      · rcases h.p k h1 with h2 | h2
        · exact .inl (.inl h2)
        · exact .inr h2
      · exact .inl (.inr h1), h.z, h.z'⟩
  -- the two invariants that the iterator is handed
  refine (hseq l
    (fun pre Y W => (∀ k, BK k → ¬ Y.on k) ∧ W0.heap.size ≤ W.heap.size ∧ I pre ⟨fun k => Y.p k ∨ BK k, Y.z⟩ W ∧ W.heap[l]? = some (.loop (recOf fn tmps ps assign body dd .ready none)) ∧ ∀ k, BK k → k ≠ l → W.heap[k]? = W0.heap[k]?)
    (fun pre Y W => (∀ k, BK k → ¬ Y.on k) ∧ W0.heap.size ≤ W.heap.size ∧ (∃ c, Ix c pre ⟨fun k => Y.p k ∨ BK k, Y.z⟩ W ∧ W.heap[l]? = some (.loop (recOf fn tmps ps assign body dd .done (some c)))) ∧ ∀ k, BK k → k ≠ l → W.heap[k]? = W0.heap[k]?)
    ⟨fun _ => False, Zc⟩ W0 hb0 hZ ⟨fun k hk => hZlt k (hk.resolve_left id), fun _ _ h => h⟩ ?_ ?_ ?_ ?_).mono ?_
  · rintro s Y Y' W W' ⟨h1, h2, h3, h4, h5⟩ hok ho ht hok'
    have h6 : ∀ k, BK k → ¬ Y'.on k := fun k hk hn => by
      have hlt := hBlt k hk
      rcases hn with h | h
      · rcases ht.p k h with h | h
        · exact h1 k hk (.inl h)
        · omega
      · rcases ht.z' k h with h | h
        · exact h1 k hk (.inr h)
        · omega
    have hkeep : ∀ k, BK k → W'.heap[k]? = W.heap[k]? := fun k hk => ho.block k (Nat.lt_of_lt_of_le (hBlt k hk) h2) fun h => h1 k hk (.inl h)
    exact ⟨h6, Nat.le_trans h2 ho.size, hI s _ _ W W' h3 (okB Y _ hok h1 fun k hk => Nat.lt_of_lt_of_le (hBlt k hk) h2) (ho.sub fun k h => .inl h) (toB Y Y' _ ht) (okB Y' _ hok' h6 fun k hk => Nat.lt_of_lt_of_le (hBlt k hk) (Nat.le_trans h2 ho.size)),
      (hkeep l hBl).trans h4, fun k hk hn => (hkeep k hk).trans (h5 k hk hn)⟩
  · rintro s Y Y' W W' ⟨h1, h2, ⟨c, h3, h4⟩, h5⟩ hok ho ht hok'
    have h6 : ∀ k, BK k → ¬ Y'.on k := fun k hk hn => by
      have hlt := hBlt k hk
      rcases hn with h | h
      · rcases ht.p k h with h | h
        · exact h1 k hk (.inl h)
        · omega
      · rcases ht.z' k h with h | h
        · exact h1 k hk (.inr h)
        · omega
    have hkeep : ∀ k, BK k → W'.heap[k]? = W.heap[k]? := fun k hk => ho.block k (Nat.lt_of_lt_of_le (hBlt k hk) h2) fun h => h1 k hk (.inl h)
    exact ⟨h6, Nat.le_trans h2 ho.size, ⟨c, hIx c s _ _ W W' h3 (okB Y _ hok h1 fun k hk => Nat.lt_of_lt_of_le (hBlt k hk) h2) (ho.sub fun k h => .inl h) (toB Y Y' _ ht) (okB Y' _ hok' h6 fun k hk => Nat.lt_of_lt_of_le (hBlt k hk) (Nat.le_trans h2 ho.size)),
      (hkeep l hBl).trans h4⟩, fun k hk hn => (hkeep k hk).trans (h5 k hk hn)⟩
  · -- one round
    rintro pre x Y v W ⟨h1, h2, h3, h4, h5⟩ hok hpre hG
    have hokB := okB Y _ hok h1 fun k hk => Nat.lt_of_lt_of_le (hBlt k hk) h2
    have hy := run_yield (P := P) (args := v) h4 (hps x v Y W hG)
    have hlb : ∀ k, BK k → ¬ C v k := fun k hk hc => h1 k hk (.inl (hC x v Y W k hG hc))
    refine YieldW.mono (R := fun e W' => ∃ a : Bool, e = .returned (.bool a) ∧ W.heap.size ≤ W'.heap.size ∧ Only (fun k => ¬ Y.on k ∨ C v k) W W' ∧ (∀ k, BK k → k ≠ l → W'.heap[k]? = W0.heap[k]?) ∧
      ((a = true ∧ I (pre ++ [x]) ⟨fun k => Y.p k ∨ BK k, Y.z⟩ W' ∧ W'.heap[l]? = some (.loop (recOf fn tmps ps assign body dd .ready none))) ∨
       (a = false ∧ ∃ c, Ix c (pre ++ [x]) ⟨fun k => Y.p k ∨ BK k, Y.z⟩ W' ∧ W'.heap[l]? = some (.loop (recOf fn tmps ps assign body dd .done (some c)))))) ?_ ?_
    · refine ⟨fn, _, assign, body, hy, ?_⟩
      refine ⟨trivial, fun c cs _ => (roundIn_of_wpIn (n := 5) (F := Fence.wide) trivial (hassign pre x v Y.p ⟨fun k => Y.p k ∨ BK k, Y.z⟩ W _ h3 hokB (fun k h => .inl h) hpre hG ?_)).2 c cs (room_wide _)⟩
      intro a' Wa hka hax
      have hkB : ∀ {A B : World}, Only (fun k => ¬ Fp.on ⟨fun k => Y.p k ∨ BK k, Y.z⟩ k ∨ C v k) A B → ∀ k, BK k → k < A.heap.size → B.heap[k]? = A.heap[k]? := fun h k hk hlt => h.block k hlt fun hn => by
        rcases hn with hn | hn
        · exact hn (.inl (.inr hk))
        · exact hlb k hk hn
      have hlt : l < W.heap.size := (Array.getElem?_eq_some_iff.1 h4).1
      have hla : Wa.heap[l]? = some (.loop (recOf fn tmps ps assign body dd .ready none)) := (hkB hka l hBl hlt).trans h4
      have hlta : l < Wa.heap.size := (Array.getElem?_eq_some_iff.1 hla).1
      refine ⟨_, run_beginRound hla rfl, ?_⟩
      have hl2 : (Wa.putObj l (.loop { recOf fn tmps ps assign body dd .ready none with state := .busy })).heap[l]? = some (.loop { recOf fn tmps ps assign body dd .ready none with state := .busy }) := World.putObj_heap_same hlta
      have okA : ∀ {A : World}, W.heap.size ≤ A.heap.size → Fp.ok ⟨fun k => Y.p k ∨ BK k, Y.z⟩ A.heap.size := fun h => ⟨fun k hk => Nat.lt_of_lt_of_le (hokB.lt k hk) h, hokB.off⟩
      have ax2 := hAx pre x v a' _ Wa _ hax (okA hka.size) ((only_putObj Wa l (.loop { recOf fn tmps ps assign body dd .ready none with state := .busy })).sub fun k hk => by rw [hk]; exact ⟨.inr hBl, hlb l hBl⟩) (okA (by simpa using hka.size))
      refine wpIn_mono (hbody pre x v a' ⟨fun k => Y.p k ∨ BK k, Y.z⟩ _ ⟨_, hl2⟩ (.inr hBl) (okA (by simpa using hka.size)) hpre ax2) ?_
      have weak : ∀ {A B : World}, Only (fun k => ¬ Fp.on ⟨fun k => Y.p k ∨ BK k, Y.z⟩ k ∨ C v k) A B → Only (fun k => ¬ Y.on k ∨ C v k) A B := fun h => h.sub fun k hk => hk.imp (fun hn hy => hn (hy.imp .inl id)) id
      have weakl : ∀ (A : World) (o : Obj), Only (fun k => ¬ Y.on k ∨ C v k) A (A.putObj l o) := fun A o => (only_putObj A l o).sub fun k hk => by rw [hk]; exact .inl (h1 l hBl)
      have fin : ∀ (jump : Option Code) (W3 : World), Only (fun k => ¬ Fp.on ⟨fun k => Y.p k ∨ BK k, Y.z⟩ k ∨ C v k) (Wa.putObj l (.loop { recOf fn tmps ps assign body dd .ready none with state := .busy })) W3 →
          ∃ W4, (Instr.endRound l jump).run P W3 = .ok (.bool jump.isNone) W4 ∧ Only (fun k => k = l) W3 W4 ∧ W.heap.size ≤ W3.heap.size ∧ W.heap.size ≤ W4.heap.size ∧ Only (fun k => ¬ Y.on k ∨ C v k) W W4 ∧ (∀ k, BK k → k ≠ l → W4.heap[k]? = W0.heap[k]?) ∧
            W4.heap[l]? = some (.loop (recOf fn tmps ps assign body dd (if jump.isNone then .ready else .done) jump)) := fun jump W3 hk3 => by
        have hl3 := (hkB hk3 l hBl (by simpa using hlta)).trans hl2
        have hr := run_endRound (P := P) jump hl3
        have hs3 : W.heap.size ≤ W3.heap.size := Nat.le_trans hka.size (by have := hk3.size; simpa using this)
        refine ⟨_, hr, only_putObj _ _ _, hs3, by simpa using hs3, ((weak hka).trans (weakl _ _)).trans ((weak hk3).trans (weakl _ _)), fun k hk hn => ?_, World.putObj_heap_same (Array.getElem?_eq_some_iff.1 hl3).1⟩
        have hkl : k < W.heap.size := Nat.lt_of_lt_of_le (hBlt k hk) h2
        rw [World.putObj_heap_other hn, hkB hk3 k hk (by have := hka.size; simp; omega), World.putObj_heap_other hn, hkB hka k hk hkl]
        exact h5 k hk hn
      rintro e a3 W3 hp
      cases e with
      | normal =>
        obtain ⟨hk3, hi3⟩ := hp
        obtain ⟨W4, hr, ho4, hs3, hs4, hoW, hE4, hl4⟩ := fin none W3 hk3
        exact ⟨_, _, hr, true, rfl, hs4, hoW, hE4, .inl ⟨rfl, hI _ _ _ W3 W4 hi3 (okA hs3) (ho4.sub fun k hk => by rw [hk]; exact .inr hBl) (Fp.to.refl _ _) (okA hs4), hl4⟩⟩
      | ret =>
        obtain ⟨hk3, hi3⟩ := hp
        obtain ⟨W4, hr, ho4, hs3, hs4, hoW, hE4, hl4⟩ := fin (some .ret) W3 hk3
        exact ⟨_, _, hr, false, rfl, hs4, hoW, hE4, .inr ⟨rfl, .ret, hIx _ _ _ _ W3 W4 hi3 (okA hs3) (ho4.sub fun k hk => by rw [hk]; exact .inr hBl) (Fp.to.refl _ _) (okA hs4), hl4⟩⟩
      | exit id =>
        obtain ⟨hk3, hi3⟩ := hp
        obtain ⟨W4, hr, ho4, hs3, hs4, hoW, hE4, hl4⟩ := fin (some (.exit id)) W3 hk3
        exact ⟨_, _, hr, false, rfl, hs4, hoW, hE4, .inr ⟨rfl, .exit id, hIx _ _ _ _ W3 W4 hi3 (okA hs3) (ho4.sub fun k hk => by rw [hk]; exact .inr hBl) (Fp.to.refl _ _) (okA hs4), hl4⟩⟩
      | goto t =>
        obtain ⟨hk3, hi3⟩ := hp
        obtain ⟨W4, hr, ho4, hs3, hs4, hoW, hE4, hl4⟩ := fin (some (.goto t)) W3 hk3
        exact ⟨_, _, hr, false, rfl, hs4, hoW, hE4, .inr ⟨rfl, .goto t, hIx _ _ _ _ W3 W4 hi3 (okA hs3) (ho4.sub fun k hk => by rw [hk]; exact .inr hBl) (Fp.to.refl _ _) (okA hs4), hl4⟩⟩
      | panic ch => exact hp.elim
      | outgrown => exact hp.elim
    · rintro e W' ⟨a, rfl, hs, hoW, hE, ⟨rfl, hi, hl'⟩ | ⟨rfl, hx⟩⟩
      · exact ⟨hoW, .inl ⟨rfl, h1, Nat.le_trans h2 hs, hi, hl', hE⟩⟩
      · exact ⟨hoW, .inr ⟨rfl, h1, Nat.le_trans h2 hs, hx, hE⟩⟩
  · refine ⟨fun k hk hn => ?_, Nat.le_refl _, ?_, hl, fun _ _ _ => rfl⟩
    · exact hZB k (hn.resolve_left id) hk
    · refine hI [] _ _ W0 W0 h0 ⟨fun k hk => ?_, fun k hz hb => hZB k hz hb⟩ (Only.refl _ _) ⟨fun k h => .inl (h.resolve_left id), fun _ h => h, fun _ h => .inl h⟩ ⟨fun k hk => ?_, fun k hz hb => ?_⟩
      · rcases hk with h | h
        · exact hBlt k h
        · exact hZlt k h
      · rcases hk with (h | h) | h
        · exact h.elim
        · exact hBlt k h
        · exact hZlt k h
      · rcases hb with h | h
        · exact h
        · exact hZB k hz h
  · -- behind the iterator
    rintro e W ⟨hv, ⟨Y, hok, h1, h2, h3, h4, h5⟩ | ⟨pre, Y, hok, h1, h2, ⟨c, h3, h4⟩, h5⟩⟩
    · exact ⟨hv, h5, .inl ⟨h4, _, okB Y _ hok h1 fun k hk => Nat.lt_of_lt_of_le (hBlt k hk) h2, fun k hk => .inr hk, h3⟩⟩
    · exact ⟨hv, h5, .inr ⟨c, pre, h4, _, okB Y _ hok h1 fun k hk => Nat.lt_of_lt_of_le (hBlt k hk) h2, fun k hk => .inr hk, h3⟩⟩

/-- **The statement, outside of every round.** -/
theorem range_iter {α : Type} {P : Program} {g : Operand} {ps : Array Tmp} {assign body : Code} {Q : Exit → Act → World → Prop} {a : Act} {w : World} {n gf : Nat} {lb : Array Value}
    (hg : a.eval g = .func (.func gf) #[] lb) (eg : ∀ args w, (callFunc gf args).run P w = .ok (.enter gf args) w)
    {G : α → Array Value → Fp → World → Prop} {C : Array Value → Nat → Prop} {L : List α} {Z0 Zc : Nat → Prop} {w0 : World} (hseq : IterAt P gf lb G C L Z0 w0)
    (hb0 : Only (fun k => ¬ Z0 k) w0 w) (hZ : ∀ k, Z0 k → Zc k) (hZlt : ∀ k, Zc k → k < w.heap.size)
    (hC : ∀ x v Y W k, G x v Y W → C v k → Y.p k) (hps : ∀ x v Y W, G x v Y W → v.size = ps.size)
    (I : List α → Fp → World → Prop) (Ix : Code → List α → Fp → World → Prop) (hI : AbY I) (hIx : ∀ c, AbY (Ix c)) (h0 : I [] ⟨fun _ => False, Zc⟩ w) (Ax : List α → α → Array Value → Act → Fp → World → Prop) (hAx : ∀ pre x v, AbC (C v) (Ax pre x v))
    (hassign : ∀ (l : Nat) (pre : List α) (x : α) (v : Array Value) (p' : Nat → Prop) (Y : Fp) (W : World) (K : Act → World → Prop), w.heap.size ≤ l → I pre Y W → Y.ok W.heap.size → (∀ k, p' k → Y.p k) → (pre ++ [x]) <+: L → G x v ⟨p', Y.z⟩ W →
      (∀ a' W', Only (fun k => ¬ Y.on k ∨ C v k) W W' → Ax pre x v a' Y W' → K a' W') →
      assign.wpIn (Fence.wide.inRound l) 5 P (Exit.then K (fun _ _ _ => False)) { tmps := (ps.zip v).foldl (fun t (p, v) => t.setIfInBounds p v) a.tmps, defers := [] } W)
    (hbody : ∀ (l : Nat) (pre : List α) (x : α) (v : Array Value) (a' : Act) (Y : Fp) (W : World), w.heap.size ≤ l → (∃ r, W.heap[l]? = some (.loop r)) → Y.p l → Y.ok W.heap.size → (pre ++ [x]) <+: L → Ax pre x v a' Y W →
      body.wpIn (Fence.wide.inRound l) 5 P (postY Y C v I Ix (pre ++ [x]) W) a' W)
    (hdone : ∀ (D : Nat) (Y : Fp) (W : World), w.heap.size ≤ D → Y.p D → Y.ok W.heap.size → I L Y W → W.heap[D]? = some (.deferred (some [])) → Q .normal { a with defers := { target := .collected D, args := #[] } :: a.defers } W)
    (hstop : ∀ (D : Nat) (c : Code) (pre : List α) (Y : Fp) (W : World), w.heap.size ≤ D → Y.p D → Y.ok W.heap.size → Ix c pre Y W → W.heap[D]? = some (.deferred (some [])) → c.wpIn Fence.wide n P Q { a with defers := { target := .collected D, args := #[] } :: a.defers } W) :
    (Code.rangeFunc g ps assign body).wpIn Fence.wide n P Q a w := by
  refine wpIn_rangeFunc ?_
  intro fn hfn
  obtain ⟨W1, hW1⟩ : ∃ W1, (w.alloc (.deferred (some []))).alloc (.loop (recOf fn a.tmps ps assign body w.heap.size .ready none)) = W1 := ⟨_, rfl⟩
  have hL1 : W1.heap[w.heap.size + 1]? = some (.loop (recOf fn a.tmps ps assign body w.heap.size .ready none)) := by
    rw [← hW1]; have := World.alloc_heap_new (w.alloc (.deferred (some []))) (.loop (recOf fn a.tmps ps assign body w.heap.size .ready none)); rwa [World.size_alloc] at this
  have hK1 : W1.heap[w.heap.size]? = some (.deferred (some [])) := by
    rw [← hW1]; exact (Below.heap_alloc _ _ _ (by simp)).trans (World.alloc_heap_new w _)
  have hs1 : W1.heap.size = w.heap.size + 2 := by rw [← hW1]; simp
  have ho1 : ∀ S, Only S w W1 := fun S => by rw [← hW1]; exact (only_alloc S _ _).trans (only_alloc S _ _)
  refine ⟨w.heap.size + 1, [{ target := .collected w.heap.size, args := #[] }], W1, { target := .fn (.func gf) lb, args := #[.func (.yield (w.heap.size + 1)) #[] #[]] }, W1, gf,
    #[.func (.yield (w.heap.size + 1)) #[] #[]] ++ lb, W1, ?_, ?_, ?_, ?_, fun h => (by cases h), ?_⟩
  · rw [← hW1]; exact run_enterLoop_outer _ _ _ _ _
  · simp only [resolve, hg]
    simp [go_sem]
  · intro f' _; trivial
  · simp [invoke, go_sem, eg]
  · refine callsIn_wide.2 ((iter_core (BK := fun k => k = w.heap.size ∨ k = w.heap.size + 1) hseq hL1 (.inr rfl) (fun k hk => by omega) (hb0.trans (ho1 _)) hZ (fun k hk => by have := hZlt k hk; omega) (fun k hk hb => by have := hZlt k hk; omega) hC hps I Ix hI hIx ?_ Ax hAx
      (fun pre x v p' Y W K => hassign (w.heap.size + 1) pre x v p' Y W K (by omega)) (fun pre x v a' Y W => hbody (w.heap.size + 1) pre x v a' Y W (by omega))).mono ?_)
    · refine hI [] _ _ w W1 h0 ⟨fun k hk => hZlt k (hk.resolve_left id), fun _ _ h => h⟩ (ho1 _) ⟨fun k hk => .inr (by omega), fun _ h => h, fun _ h => .inl h⟩ ⟨fun k hk => ?_, fun k hz hb => ?_⟩
      · rcases hk with h | h
        · omega
        · have := hZlt k h; omega
      · have := hZlt k hz; omega
    · rintro e W2 ⟨⟨v, rfl⟩, hE, ⟨hl, Y, hok, hB, hi⟩ | ⟨c, pre, hl, Y, hok, hB, hi⟩⟩
      · have hD : (W2.putObj (w.heap.size + 1) (.loop { recOf fn a.tmps ps assign body w.heap.size .ready none with state := .exhausted })).heap[w.heap.size]? = some (.deferred (some [])) := by
          rw [World.putObj_heap_other (by omega), hE w.heap.size (.inl rfl) (by omega)]; exact hK1
        exact ⟨none, _, run_endLoop (P := P) hl (by simp [recOf]), hdone w.heap.size Y _ (Nat.le_refl _) (hB _ (.inl rfl)) ⟨fun k hk => by simpa using hok.lt k hk, hok.off⟩
          (hI _ _ _ W2 _ hi hok ((only_putObj _ _ _).sub fun k hk => by rw [hk]; exact hB _ (.inr rfl)) (Fp.to.refl _ _) ⟨fun k hk => by simpa using hok.lt k hk, hok.off⟩) hD⟩
      · have hD : (W2.putObj (w.heap.size + 1) (.loop { recOf fn a.tmps ps assign body w.heap.size .done (some c) with state := .exhausted })).heap[w.heap.size]? = some (.deferred (some [])) := by
          rw [World.putObj_heap_other (by omega), hE w.heap.size (.inl rfl) (by omega)]; exact hK1
        exact ⟨some c, _, run_endLoop (P := P) hl (by simp [recOf]), hstop w.heap.size c pre Y _ (Nat.le_refl _) (hB _ (.inl rfl)) ⟨fun k hk => by simpa using hok.lt k hk, hok.off⟩
          (hIx c _ _ _ W2 _ hi hok ((only_putObj _ _ _).sub fun k hk => by rw [hk]; exact hB _ (.inr rfl)) (Fp.to.refl _ _) ⟨fun k hk => by simpa using hok.lt k hk, hok.off⟩) hD⟩

/-- **The statement within a round of another one.** -/
theorem range_iter_in {α : Type} {P : Program} {g : Operand} {ps : Array Tmp} {assign body : Code} {Q : Exit → Act → World → Prop} {a : Act} {w : World} {n gf l₀ : Nat} {lb : Array Value} {r₀ : Loop}
    (hl₀ : w.heap[l₀]? = some (.loop r₀)) (hg : a.eval g = .func (.func gf) #[] lb) (eg : ∀ args w, (callFunc gf args).run P w = .ok (.enter gf args) w)
    {G : α → Array Value → Fp → World → Prop} {C : Array Value → Nat → Prop} {L : List α} {Z0 Zc : Nat → Prop} {w0 : World} (hseq : IterAt P gf lb G C L Z0 w0)
    (hb0 : Only (fun k => ¬ Z0 k) w0 w) (hZ : ∀ k, Z0 k → Zc k) (hZlt : ∀ k, Zc k → k < w.heap.size)
    (hC : ∀ x v Y W k, G x v Y W → C v k → Y.p k) (hps : ∀ x v Y W, G x v Y W → v.size = ps.size)
    (I : List α → Fp → World → Prop) (Ix : Code → List α → Fp → World → Prop) (hI : AbY I) (hIx : ∀ c, AbY (Ix c)) (h0 : I [] ⟨fun _ => False, Zc⟩ w) (Ax : List α → α → Array Value → Act → Fp → World → Prop) (hAx : ∀ pre x v, AbC (C v) (Ax pre x v))
    (hassign : ∀ (l : Nat) (pre : List α) (x : α) (v : Array Value) (p' : Nat → Prop) (Y : Fp) (W : World) (K : Act → World → Prop), w.heap.size ≤ l → I pre Y W → Y.ok W.heap.size → (∀ k, p' k → Y.p k) → (pre ++ [x]) <+: L → G x v ⟨p', Y.z⟩ W →
      (∀ a' W', Only (fun k => ¬ Y.on k ∨ C v k) W W' → Ax pre x v a' Y W' → K a' W') →
      assign.wpIn (Fence.wide.inRound l) 5 P (Exit.then K (fun _ _ _ => False)) { tmps := (ps.zip v).foldl (fun t (p, v) => t.setIfInBounds p v) a.tmps, defers := [] } W)
    (hbody : ∀ (l : Nat) (pre : List α) (x : α) (v : Array Value) (a' : Act) (Y : Fp) (W : World), w.heap.size ≤ l → (∃ r, W.heap[l]? = some (.loop r)) → Y.p l → Y.ok W.heap.size → (pre ++ [x]) <+: L → Ax pre x v a' Y W →
      body.wpIn (Fence.wide.inRound l) 5 P (postY Y C v I Ix (pre ++ [x]) W) a' W)
    (hdone : ∀ (Y : Fp) (W : World), Y.ok W.heap.size → I L Y W → Q .normal a W)
    (hstop : ∀ (c : Code) (pre : List α) (Y : Fp) (W : World), Y.ok W.heap.size → Ix c pre Y W → c.wpIn (Fence.wide.inRound l₀) n P Q a W) :
    (Code.rangeFunc g ps assign body).wpIn (Fence.wide.inRound l₀) n P Q a w := by
  refine wpIn_rangeFunc ?_
  intro fn hfn
  obtain ⟨W1, hW1⟩ : ∃ W1, w.alloc (.loop (recOf fn a.tmps ps assign body r₀.defers .ready none)) = W1 := ⟨_, rfl⟩
  have hL1 : W1.heap[w.heap.size]? = some (.loop (recOf fn a.tmps ps assign body r₀.defers .ready none)) := by rw [← hW1]; exact World.alloc_heap_new w _
  have hs1 : W1.heap.size = w.heap.size + 1 := by rw [← hW1]; simp
  have ho1 : ∀ S, Only S w W1 := fun S => by rw [← hW1]; exact only_alloc S _ _
  refine ⟨w.heap.size, [], W1, { target := .fn (.func gf) lb, args := #[.func (.yield w.heap.size) #[] #[]] }, W1, gf,
    #[.func (.yield w.heap.size) #[] #[]] ++ lb, W1, ?_, ?_, ?_, ?_, fun h => (by cases h), ?_⟩
  · rw [← hW1]; exact run_enterLoop_inner hl₀ _ _ _ _ _
  · simp only [resolve, hg]
    simp [go_sem]
  · intro f' _; trivial
  · simp [invoke, go_sem, eg]
  · refine CallsIn.inRound l₀ (callsIn_wide.2 ((iter_core (BK := fun k => k = w.heap.size) hseq hL1 rfl (fun k hk => by omega) (hb0.trans (ho1 _)) hZ (fun k hk => by have := hZlt k hk; omega) (fun k hk hb => by have := hZlt k hk; omega) hC hps I Ix hI hIx ?_ Ax hAx
      (fun pre x v p' Y W K => hassign w.heap.size pre x v p' Y W K (by omega)) (fun pre x v a' Y W => hbody w.heap.size pre x v a' Y W (by omega))).mono ?_))
    · refine hI [] _ _ w W1 h0 ⟨fun k hk => hZlt k (hk.resolve_left id), fun _ _ h => h⟩ (ho1 _) ⟨fun k hk => .inr (by omega), fun _ h => h, fun _ h => .inl h⟩ ⟨fun k hk => ?_, fun k hz hb => ?_⟩
      · rcases hk with h | h
        · omega
        · have := hZlt k h; omega
      · have := hZlt k hz; omega
    · rintro e W2 ⟨⟨v, rfl⟩, hE, ⟨hl, Y, hok, hB, hi⟩ | ⟨c, pre, hl, Y, hok, hB, hi⟩⟩
      · exact ⟨none, _, run_endLoop (P := P) hl (by simp [recOf]), hdone Y _ ⟨fun k hk => by simpa using hok.lt k hk, hok.off⟩
          (hI _ _ _ W2 _ hi hok ((only_putObj _ _ _).sub fun k hk => by rw [hk]; exact hB _ rfl) (Fp.to.refl _ _) ⟨fun k hk => by simpa using hok.lt k hk, hok.off⟩)⟩
      · exact ⟨some c, _, run_endLoop (P := P) hl (by simp [recOf]), hstop c pre Y _ ⟨fun k hk => by simpa using hok.lt k hk, hok.off⟩
          (hIx c _ _ _ W2 _ hi hok ((only_putObj _ _ _).sub fun k hk => by rw [hk]; exact hB _ rfl) (Fp.to.refl _ _) ⟨fun k hk => by simpa using hok.lt k hk, hok.off⟩)⟩
end Go.Proofs.Ytjpkkhhcpcokaaa

