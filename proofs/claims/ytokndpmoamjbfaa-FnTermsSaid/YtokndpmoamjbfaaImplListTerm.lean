/-
  The program's ListTerm.
-/
import Derived.Test.YtokndpmoamjbfaaSpecListTerm
import Derived.Test.YtokndpmoamjbfaaBackward
import Derived.Test.YtokndpmoamjbfaaListOwn
namespace Go.Proofs.Ytokndpmoamjbfaa
open Go.RowKit Go.Shelf
set_option linter.unusedVariables false
set_option linter.unusedSimpArgs false

attribute [local go_sem] Oper.semAt_some

theorem bodyPostM_of {F : Fence} {n : Nat} {P : Program} {fn : Func} {R : Ending → World → Prop} {a : Act} {w : World} (h : bodyPost P fn R .ret a w) : bodyPostM F n P fn R .ret a w := by
  obtain ⟨hd, v, h1, h2⟩ := h
  show LeavesInM F n P fn a.tmps R a.defers .returning w
  rw [hd]
  first | exact ⟨v, h1, h2⟩ | exact ⟨by simp, v, h1, h2⟩
theorem fold_take {l : List Tm} {k : Nat} {x : Tm} (h : l[k]? = some x) : l.take (k + 1) = l.take k ++ [x] := take_snoc h
theorem listT_take {l : List Tm} {k : Nat} {x : Tm} (t : Tm) (h : l[k]? = some x) : (listT (l.take (k + 1)) t).nodes = (listT (l.take k) t).nodes + 1 + x.nodes := by
  rw [listT_nodes, listT_nodes, take_snoc h, List.length_append, nodesL_append]
  have h1 : nodesL [x] = x.nodes := by simp [nodesL]
  have h2 : [x].length = 1 := rfl
  omega
theorem listT_le (l : List Tm) (t : Tm) (k : Nat) : (listT (l.take k) t).nodes ≤ (listT l t).nodes := by
  have h : (listT (l.take k ++ l.drop k) t).nodes = (listT l t).nodes := by rw [List.take_append_drop]
  rw [listT_nodes, List.length_append, nodesL_append] at h
  rw [listT_nodes]
  omega

set_option maxRecDepth 100000 in
set_option maxHeartbeats 4000000 in
theorem implListTerm_any (l : List Tm) (V : Value) (t : Tm) (Vt : Value) (w : World) (hA : ArgsAt w V l) (hZ : szL l ≤ 1048576) (hB : ArgsAt w Vt t.args) (hZt : t.sz ≤ 1048576) :
    Calls Try.prog 12 #[V, .agg #[.int .i64 t.kind, .int .i64 t.num, .string t.name, Vt]] w (NewTm2 (ltT l t) (ltB l t) w) := by
  obtain ⟨aa, ca, rfl⟩ := hA.slice
  obtain ⟨ab, cb, rfl⟩ := hB.slice
  have HNO : Hid (¬ LtOk l t → ltT l t = zeroTm ∧ ltB l t = false) := Lib.hid lt_no
  have HYES : Hid (LtOk l t → ltT l t = listT l t ∧ ltB l t = true) := Lib.hid lt_yes
  generalize ltT l t = r at HNO HYES ⊢
  generalize ltB l t = c at HNO HYES ⊢
  have hLn : l.length ≤ 1048576 := by have := length_szL l; omega
  have HA := Lib.hid (at_args hA)
  have HB := Lib.hid (at_args hB)
  have HW : Hid (Below w.heap.size w w) := Lib.hid (Below.refl _ _)
  clear hA hB
  have hb : Below w.heap.size w (w.alloc (.cells #[.int .i64 t.kind, .int .i64 t.num, .string t.name, .slice ab t.args.length cb] 25)) := (Below.refl _ _).alloc (Nat.le_refl _) _
  replace HA := Lib.hid (HA.out.read hb)
  replace HB := Lib.hid (HB.out.read hb)
  replace HW := Lib.hid (belowOn HW.out (Nat.le_refl _) hb)
  clear hb
  have HX := Lib.hid (at_box_of w #[.int .i64 t.kind, .int .i64 t.num, .string t.name, .slice ab t.args.length cb] 25 (w.heap.size) (by simp))
  have hb : Below (w.alloc (.cells #[.int .i64 t.kind, .int .i64 t.num, .string t.name, .slice ab t.args.length cb] 25)).heap.size (w.alloc (.cells #[.int .i64 t.kind, .int .i64 t.num, .string t.name, .slice ab t.args.length cb] 25)) ((w.alloc (.cells #[.int .i64 t.kind, .int .i64 t.num, .string t.name, .slice ab t.args.length cb] 25)).alloc (.cells #[.int .i64 0, .int .i64 0, .string ⟨#[]⟩, .slice none 0 0] 25)) := (Below.refl _ _).alloc (Nat.le_refl _) _
  replace HA := Lib.hid (HA.out.read hb)
  replace HB := Lib.hid (HB.out.read hb)
  replace HX := Lib.hid (HX.out.read hb)
  replace HW := Lib.hid (belowOn HW.out (Nat.le_refl _) hb)
  clear hb
  have HR := Lib.hid (at_box_of (w.alloc (.cells #[.int .i64 t.kind, .int .i64 t.num, .string t.name, .slice ab t.args.length cb] 25)) #[.int .i64 0, .int .i64 0, .string ⟨#[]⟩, .slice none 0 0] 25 (w.heap.size + 1) (by simp))
  have HO := Lib.hid (fun W h => (callsIn_wide (n := 5)).2 (implTermSize_any t (.slice ab t.args.length cb) W h hZt))
  refine (callsIn_wide (n := 6)).1 ?_
  refine callsIn_of_wp_marks Try.func12 rfl trivial ?_ rfl
  simp only [Try.ntmps12, List.size_toArray, List.length_cons, List.length_nil, Nat.reduceAdd, Nat.reduceSub, Array.replicate_succ, Array.replicate_zero, List.push_toArray, List.append_toArray, List.nil_append, List.cons_append]
  obtain ⟨c0a, c0b, c0c, c0d⟩ := HX.out.cells
  have z0 := HX.out.le
  gi_wp2_with fail
  refine ⟨trivial, ?_⟩
  refine (HO.out _ HB.out.argsAt).mono ?_
  rintro e w1 ⟨rfl, hb⟩
  clear HO c0a c0b c0c c0d z0
  replace HA := Lib.hid (HA.out.read hb)
  replace HB := Lib.hid (HB.out.read hb)
  replace HX := Lib.hid (HX.out.read hb)
  replace HR := Lib.hid (HR.out.read hb)
  replace HW := Lib.hid (belowOn HW.out (Nat.le_refl _) hb)
  clear hb
  by_cases hot : Ok t
  · rw [size_ok hot]
    have HOT := Lib.hid hot
    have hn5 : t.nodes ≤ 5000 := hot.1
    clear hot
    gi_wp2
    gi_loopw [6, 20] (fun s i wr => ∃ k : Nat, k ≤ l.length ∧ i = .int .i64 k ∧ (∃ m : Nat, s = .int .i64 m ∧ m ≤ 5000 ∧ Hid (m = (listT (l.take k) t).nodes)) ∧ Hid (∀ x ∈ l.take k, Ok x) ∧ Hid (Below w.heap.size w wr) ∧ Hid (Below w1.heap.size w1 wr))
      (fun _ i _ => l.length - (intOf i).toNat)
    case atStart => exact ⟨0, Nat.zero_le _, rfl, ⟨t.nodes, rfl, hn5, Lib.hid (by rw [List.take_zero]; rfl)⟩, Lib.hid (by simp), HW, Lib.hid (Below.refl _ _)⟩
    case round =>
      obtain ⟨k, hk, rfl, ⟨m, rfl, hm5, HM⟩, HO, HBw, HB1⟩ := hrel
      by_cases hlt : k < l.length
      · obtain ⟨x, hx⟩ : ∃ x, l[k]? = some x := ⟨_, List.getElem?_eq_getElem hlt⟩
        have HS := Lib.hid (sz_in hx)
        have HNT := Lib.hid (listT_take t hx)
        have HTK := Lib.hid (fold_take hx)
        have HMEM : Hid (x ∈ l) := Lib.hid (List.mem_of_getElem? hx)
        have HLE := Lib.hid (listT_le l t (k + 1))
        have HA1 := Lib.hid (HA.out.read HB1.out).argsAt
        obtain ⟨g, off, u1', u2', rfl, hg, hq, hc, hch⟩ := HA1.out.elem hx
        clear hq
        obtain ⟨d0, d1, d2, d3⟩ := hc _ (Below.refl _ _)
        have hal : Below wr.heap.size wr (wr.alloc (.cells #[.int .i64 x.kind, .int .i64 x.num, .string x.name, .slice u1' x.args.length u2'] 25)) := (Below.refl _ _).alloc (Nat.le_refl _) _
        have HAL := Lib.hid hal
        have HCALL := Lib.hid ((callsIn_wide (n := 5)).2 (implTermSize_any x _ _ (hch.kept hal) (by have := HS.out; omega)))
        clear hc hch hx hal
        gi_wp2_with fail
        refine ⟨trivial, ?_⟩
        refine HCALL.out.mono ?_
        rintro e w3 ⟨rfl, hb3⟩
        have HB3 := Lib.hid (belowOn HAL.out (Nat.le_refl _) hb3)
        have HW3 := Lib.hid (belowOn HBw.out (Nat.le_refl _) HB3.out)
        have HB13 := Lib.hid (belowOn HB1.out (Nat.le_refl _) HB3.out)
        have HR3 := Lib.hid (HR.out.read HB13.out)
        clear hb3 HCALL d0 d1 d2 d3
        by_cases hox : Ok x
        · rw [size_ok hox]
          have hx5 : x.nodes ≤ 5000 := hox.1
          have HOX := Lib.hid hox
          clear hox
          by_cases hbig : 5000 < m + (1 + x.nodes)
          · obtain ⟨rfl, rfl⟩ := HNO.out fun h => by have h1 := h.2.2; have h2 := HLE.out; have h3 := HNT.out; have h4 := HM.out; omega
            have HRE := Lib.hid HR3.out.now
            obtain ⟨r0, r1, r2, r3, rf⟩ := box_cells HR3.out.now
            have zr := HR3.out.le
            have HRL : Hid (w.heap.size ≤ w.heap.size + 1 ∧ w.heap.size + 1 < w3.heap.size) := Lib.hid ⟨by omega, by omega⟩
            clear HNO HYES
            gi_wp2
            refine bodyPostM_of (newTm2_end (t := zeroTm) (p := 4) (q := 5) (b := w.heap.size + 1) rfl rfl rfl rfl rfl rfl rfl Try.underlying25 (by kernel_rfl) HRE.out HW3.out HRL.out.1 HRL.out.2 (zero_new (Below.refl _ _)))
          · gi_wp2
            go_roundw
            case rel => exact ⟨k + 1, by omega, by go_num, ⟨m + (1 + x.nodes), by go_num, by omega, Lib.hid (by rw [HNT.out, ← HM.out]; omega)⟩, Lib.hid (by rw [HTK.out]; intro y hy; rcases List.mem_append.1 hy with h | h; exact HO.out y h; simp at h; subst h; exact HOX.out), HW3, HB13⟩
            case measure => simp [intOf]; omega
        · rw [size_not hox]
          obtain ⟨rfl, rfl⟩ := HNO.out fun h => hox (h.1 x HMEM.out)
          have HRE := Lib.hid HR3.out.now
          obtain ⟨r0, r1, r2, r3, rf⟩ := box_cells HR3.out.now
          have zr := HR3.out.le
          have HRL : Hid (w.heap.size ≤ w.heap.size + 1 ∧ w.heap.size + 1 < w3.heap.size) := Lib.hid ⟨by omega, by omega⟩
          clear hox HNO HYES
          gi_wp2
          refine bodyPostM_of (newTm2_end (t := zeroTm) (p := 4) (q := 5) (b := w.heap.size + 1) rfl rfl rfl rfl rfl rfl rfl Try.underlying25 (by kernel_rfl) HRE.out HW3.out HRL.out.1 HRL.out.2 (zero_new (Below.refl _ _)))
      · obtain rfl : k = l.length := by omega
        have HLT : Hid (LtOk l t) := Lib.hid ⟨by have := HO.out; rwa [List.take_length] at this, HOT.out, by have := HM.out; rw [List.take_length] at this; omega⟩
        obtain ⟨hr1, rfl⟩ := HYES.out HLT.out
        have HR1 := Lib.hid hr1
        have HX2 := Lib.hid (HX.out.read HB1.out)
        have HR2 := Lib.hid (HR.out.read HB1.out)
        have HA2 := Lib.hid (HA.out.read HB1.out)
        have HB2 := Lib.hid (HB.out.read HB1.out)
        clear hr1 HNO HYES HM HO HX HR HA HB HW
        obtain ⟨c0a, c0b, c0c, c0d⟩ := HX2.out.cells
        have z0 := HX2.out.le
        have HC := Lib.hid ((callsIn_wide (n := 5)).2 (copied_any (t.nodes + 1) t _ wr (by omega) HB2.out.argsAt hZt HOT.out.2))
        gi_wp2_with fail
        refine ⟨trivial, ?_⟩
        refine HC.out.mono ?_
        rintro e w4 ⟨u, rfl, hn⟩
        obtain ⟨ua, uc, rfl⟩ := hn.1.argsAt.slice
        have HN := Lib.hid hn
        have HB4 := Lib.hid hn.2
        clear hn HC c0a c0b c0c c0d z0
        have HK := Lib.hid (fun W => backward_in Fence.wide 5 trivial rfl aa l.length ca W)
        gi_wp2_with fail
        refine ⟨trivial, ?_⟩
        refine (HK.out _).mono ?_
        rintro e w5 ⟨rfl, rfl⟩
        gi_wp2_with fail
        obtain ⟨W0, hW0⟩ : ∃ W0, ((w4.alloc (.cells #[.int .i64 t.kind, .int .i64 t.num, .string t.name, .slice ua t.args.length uc] 25)).alloc (.cells #[.slice aa l.length ca] 23)) = W0 := ⟨_, rfl⟩
        have hb46 : Below w4.heap.size w4 W0 := by rw [← hW0]; exact belowAlloc (belowAlloc (Below.refl _ _) _) _
        have hsz : W0.heap.size = w4.heap.size + 2 := by rw [← hW0]; simp
        have hL0 : BoxP w4.heap.size #[.int .i64 t.kind, .int .i64 t.num, .string t.name, .slice ua t.args.length uc] 25 W0 := by
          rw [← hW0]
          exact (Below.heap_alloc _ _ _ (by simp)).trans (heap_new w4 _)
        have hS0 : W0.cell? ⟨w4.heap.size + 1, 0, none⟩ = some (.slice aa l.length ca) := by
          have h := (Boxed.new (w4.alloc (.cells #[.int .i64 t.kind, .int .i64 t.num, .string t.name, .slice ua t.args.length uc] 25)) 23 (.slice aa l.length ca)).cell
          rw [World.size_alloc, hW0] at h
          exact h
        rw [hW0]
        clear hW0
        have HW4 := Lib.hid (belowOn HBw.out (Nat.le_refl _) HB4.out)
        have HW0 := Lib.hid (belowOn HW4.out (Nat.le_refl _) hb46)
        have h4s := HB4.out.size
        have hws := HBw.out.size
        have hR0 : BoxP (w.heap.size + 1) #[.int .i64 0, .int .i64 0, .string ⟨#[]⟩, .slice none 0 0] 25 W0 := ((HR2.out.read HB4.out).read hb46).now
        have hR4 : w.heap.size + 1 < w4.heap.size := by have := HR2.out.le; omega
        have hO0 : Own W0 25 (fun k => w.heap.size + 1 + 1 ≤ k ∧ k ≠ w4.heap.size) (.slice ua t.args.length uc) t.args := (HN.out.1.kept hb46).sub fun k hk => ⟨Nat.le_trans HR2.out.le hk.1, by have := hk.2; omega⟩
        obtain ⟨b, off, U1, U2, hbw, hab, htab⟩ := argsAt_table ((HA2.out.read HB4.out).argsAt) (by omega)
        have HIL := Lib.hid (show IL w w4 l t [] W0 from ⟨t, ua, uc, rfl, hL0, hO0, hR0, hb46, by omega⟩)
        have HTAB := Lib.hid htab
        have HLT2 := Lib.hid HLT.out
        clear htab
        refine wpIn_rangeFunc_ownH rfl (by decide) (gf := 37) (lb := #[.pointer (some ⟨w4.heap.size + 1, 0, none⟩)]) rfl trivial (enters_of Try.func37 (by kernel_rfl) rfl)
          (backward_stops Fence.wide 5 trivial rfl (by decide) (w4.heap.size + 1) w4.heap.size b off l.length ca aa (fun j => l.getD j zeroTm) U1 U2 hLn hbw hab W0 (by omega) (by omega) hS0 (fun j hj => (HTAB.out j hj).1 W0 hb46)) kpB_t (kpB_b (by omega) (by omega)) (Below.refl _ _) (fun _ => rfl)
          (IL w w4 l t) (fun _ _ _ => False) (IL_own w w4 l t W0.heap.size (by omega)) (fun _ _ _ _ _ hs _ _ => hs) HIL.out
          (fun x a' W => ∃ Bx, W0.heap.size ≤ Bx ∧ BoxP Bx #[.int .i64 (l.getD x.1 zeroTm).kind, .int .i64 (l.getD x.1 zeroTm).num, .string (l.getD x.1 zeroTm).name, .slice (U1 x.1) (l.getD x.1 zeroTm).args.length (U2 x.1)] 25 W ∧ a' = { tmps := #[.slice aa l.length ca, .agg #[.int .i64 t.kind, .int .i64 t.num, .string t.name, .slice ab t.args.length cb], undef, .pointer (some ⟨w.heap.size, 0, none⟩), .pointer (some ⟨w.heap.size + 1, 0, none⟩), u5, .int .i64 m, undef, u8, u9, .pointer (some ⟨w4.heap.size, 0, none⟩), undef, .pointer (some ⟨Bx, 0, none⟩), .agg #[.int .i64 t.kind, .int .i64 t.num, .string t.name, .slice ab t.args.length cb], .int .i64 t.nodes, .int .i64 t.nodes, .bool (decide ((t.nodes : Int) < 0)), undef, .slice aa l.length ca, .int .i64 l.length, .int .i64 l.length, .bool false, u22, u23, u24, u25, u26, u27, u28, u29, u30, u31, u32, u33, u34, u35, u36, u37, .agg #[.int .i64 t.kind, .int .i64 t.num, .string t.name, .slice ab t.args.length cb], .agg #[.int .i64 t.kind, .int .i64 t.num, .string t.name, .slice ua t.args.length uc], .slice aa l.length ca, .func (.func 37) #[] #[.pointer (some ⟨w4.heap.size + 1, 0, none⟩)], .int .i64 ((x.1 : Nat) : Int), .agg #[.int .i64 (l.getD x.1 zeroTm).kind, .int .i64 (l.getD x.1 zeroTm).num, .string (l.getD x.1 zeroTm).name, .slice (U1 x.1) (l.getD x.1 zeroTm).args.length (U2 x.1)], undef, undef, undef, undef, undef], defers := [] })
          (fun x a' s A B row hs hg hr => by obtain ⟨Bx, h1, h2, h3⟩ := hs; exact ⟨Bx, h1, box_turn h2 hg (fun r e => (hr r e).2), h3⟩) ?assign ?body ?done ?stop
        case assign =>
          rintro lp pre x W K hi hK
          have hWs : W0.heap.size ≤ W.heap.size := by obtain ⟨_, _, _, _, _, _, _, _, h6⟩ := hi; omega
          gi_wp2
          exact hK _ _ ((KeepsOthers.alloc _ _).from _) ⟨(belowAlloc (Below.refl W.heap.size W) _).mono (by omega), Below.heap_alloc _ _ _ (by omega)⟩ (IL_below hi (belowAlloc (Below.refl _ _) _)) ⟨W.heap.size, hWs, heap_new W _, rfl⟩
        case body =>
          rintro lp pre x a' W hl ⟨rr, hrr⟩ hi ⟨Bx, hBx, hbx, rfl⟩ hlen
          obtain ⟨c, ad, cp, h1, h2, h3, h4, h5, h6⟩ := hi
          have hmem : l[x.1]? = some (l.getD x.1 zeroTm) := by simp [List.getD, x.2]
          have hokx := HLT2.out.1 _ (List.mem_of_getElem? hmem)
          have hszx := sz_in hmem
          have HT5 := Lib.hid ((HTAB.out x.1 x.2).2.kept h5)
          have HST := Lib.hid (fun (WA WB WC : World) (g : Nat) (u : Value) => IL_step (WA := WA) (WB := WB) (WC := WC) (g := g) (u := u) (B := W0.heap.size) x h1 h2 h3 h4 h5 h6 hR4)
          generalize l.getD x.1 zeroTm = y at *
          generalize U1 x.1 = v1 at *
          generalize U2 x.1 = v2 at *
          have HCP := Lib.hid (fun (W' : World) (hW : Below W.heap.size W W') => copied_any (y.nodes + 1) y _ W' (by omega) (HT5.out.kept hW) (by omega) hokx.2)
          have HPP := Lib.hid (fun (ua : Option Addr) (uc : Nat) (W' : World) => pairOf_any y.kind y.num y.name ua y.args.length uc c.kind c.num c.name ad c.args.length cp W')
          have HCE : Hid (∀ W', Below W.heap.size W W' → W'.heap[Bx]? = some (.cells #[.int .i64 y.kind, .int .i64 y.num, .string y.name, .slice v1 y.args.length v2] 25) ∧ W'.heap[w4.heap.size]? = some (.cells #[.int .i64 c.kind, .int .i64 c.num, .string c.name, .slice ad c.args.length cp] 25)) := Lib.hid fun W' hW => ⟨(hW.block _ (Array.getElem?_eq_some_iff.1 (show W.heap[Bx]? = _ from hbx)).1).trans hbx, (hW.block _ (by omega)).trans h2⟩
          have nbx : ¬ Bx = w4.heap.size := by omega
          have nbx2 : ¬ w4.heap.size = Bx := by omega
          clear hmem hokx hszx h1 h2 h3 h4 h5 hbx hrr
          have hself : Below W.heap.size W W := Below.refl _ _
          have hdrew : Below W.heap.size W W.drew := hself.drew
          obtain ⟨hx0, hb0⟩ := HCE.out _ hself
          obtain ⟨hx1, hb1⟩ := HCE.out _ hdrew
          obtain ⟨x0, x1, x2, x3, _⟩ := box_cells hx0
          obtain ⟨b0, b1, b2, b3, bf⟩ := box_cells hb0
          obtain ⟨y0, y1, y2, y3, _⟩ := box_cells hx1
          obtain ⟨d0, d1, d2, d3, df⟩ := box_cells hb1
          clear hx0 hx1 hb0 hb1
          have hmx : Try.prog.follows .mixedOrders = true := by kernel_rfl
          gi_wp2_with fail
          gi_region_with_o (first
            | (refine ⟨trivial, ?_⟩; gi_at_call 26; refine (CallsIn.inRound lp (callsIn_wide.2 (HCP.out _ ?_))).mono ?_; (first | exact hself | exact hdrew); rintro e wA ⟨uA, rfl, hnA⟩; obtain ⟨ua, uc, rfl⟩ := hnA.1.argsAt.slice; have hbA : Below W.heap.size W wA := (by first | exact belowOn hself (Nat.le_refl _) hnA.2 | exact belowOn hdrew (Nat.le_refl _) hnA.2); obtain ⟨_, hbb⟩ := HCE.out _ hbA; obtain ⟨k0, k1, k2, k3, kf⟩ := box_cells hbb; have HNA := Lib.hid hnA; clear hbb hnA)
            | (refine ⟨trivial, ?_⟩; gi_at_call 28; refine (CallsIn.inRound lp (callsIn_wide.2 (HPP.out _ _ _))).mono ?_; rintro e wP ⟨gg, rfl, hg1, hg2, hgP, hbP⟩; obtain ⟨_, hbb⟩ := HCE.out _ (belowOn hbA (Nat.le_refl _) hbP); obtain ⟨p0, p1, p2, p3, pf⟩ := box_cells hbb; have zP : w4.heap.size < wP.heap.size := World.block_lt_of_cell? wP _ p0; have HGP := Lib.hid hgP; have HBP := Lib.hid hbP; clear hbb hgP hbP))
          all_goals gi_wp2
          all_goals
            refine HST.out _ _ _ gg _ ?_ HNA.out HBP.out hg1 HGP.out
            first | exact hself | exact hdrew
        case done =>
          rintro D ys W hD hys hi hK
          obtain ⟨c, ad, cp, h1, h2, h3, h4, h5, h6⟩ := hi
          have hc : c = r := by rw [h1, hys, foldB_all, HR1.out]
          subst hc
          have H3 := Lib.hid h3
          have H4 := Lib.hid h4
          have H5 := Lib.hid (belowOn HW4.out (Nat.le_refl _) h5)
          have HKK := Lib.hid hK
          have HDD : Hid (w.heap.size + 1 < D) := Lib.hid (by omega)
          obtain ⟨b0, b1, b2, b3, bf⟩ := box_cells (show W.heap[w4.heap.size]? = _ from h2)
          obtain ⟨r0, r1, r2, r3, rf⟩ := box_cells (show W.heap[w.heap.size + 1]? = _ from h4)
          have zr : w.heap.size + 1 < W.heap.size := by omega
          have zb : w4.heap.size < W.heap.size := by omega
          clear h1 h2 h3 h4 h5 hys hK
          gi_wp2
          exact list_end (w4 := w4) (p := 4) (q := 5) rfl rfl rfl rfl Try.underlying25 (by kernel_rfl) H3.out H4.out H5.out HKK.out HDD.out
        case stop =>
          rintro D c pre W _ _ h _
          exact h.elim
  · rw [size_not hot]
    obtain ⟨rfl, rfl⟩ := HNO.out fun h => hot h.2.1
    clear hot HNO HYES
    have HRE := Lib.hid HR.out.now
    obtain ⟨r0, r1, r2, r3, rf⟩ := box_cells HR.out.now
    have zr := HR.out.le
    have HRL : Hid (w.heap.size ≤ w.heap.size + 1 ∧ w.heap.size + 1 < w1.heap.size) := Lib.hid ⟨by omega, by omega⟩
    gi_wp2
    refine bodyPostM_of (newTm2_end (t := zeroTm) (p := 4) (q := 5) (b := w.heap.size + 1) rfl rfl rfl rfl rfl rfl rfl Try.underlying25 (by kernel_rfl) HRE.out HW.out HRL.out.1 HRL.out.2 (zero_new (Below.refl _ _)))
end Go.Proofs.Ytokndpmoamjbfaa

