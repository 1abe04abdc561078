/-
  What the rows' listed sentinels give: strconv's two errors hold interface values; and a world that holds all the listed variables.
-/
import Derived.Test.YtnbnepeikdieaaaGreatDoorNums
import Derived.LaidLaws
namespace Go.Proofs.YtnbnepeikdieaaaGreatDoor
open Go.RowKit

theorem err_at {P : Program} {W : World} {name nm : String} {d : DataW Unit} {rest : List (String × DataW Unit)} {g : Nat} {t : TypeId} {ms : Array (String × TypeId)}
    (hg : P.globalNamed name = some g) (hty : (P.globals[g]?).map (·.type) = some t) (hi : P.underlying t = some (.interface ms)) (h : laidMet P ((name, .iface nm d) :: rest) W) :
    ∃ u v, W.cell? ⟨g, 0, none⟩ = some (.iface u v) := by
  obtain ⟨ps, ⟨g', t', cs, fuel, p, q, hg', ht', hvar, hd, _, _⟩, _⟩ := h
  obtain rfl := Option.some.inj (hg.symm.trans hg')
  obtain rfl := Option.some.inj (hty.symm.trans ht')
  obtain ⟨_, u, v, hcs, _, _⟩ := iface_of_trod hi hd
  have := World.var?_cell hg hvar 0
  refine ⟨u, v, this.trans ?_⟩
  have e : cs = #[.iface u v] := by apply Array.ext'; exact hcs
  rw [e]
  rfl
theorem gSyn : Tryz.prog.globalNamed "strconv.ErrSyntax" = some 0 := by kernel_rfl
theorem gRng : Tryz.prog.globalNamed "strconv.ErrRange" = some 1 := by kernel_rfl
theorem tSyn : (Tryz.prog.globals[0]?).map (·.type) = some 89 := by kernel_rfl
theorem tRng : (Tryz.prog.globals[1]?).map (·.type) = some 89 := by kernel_rfl
theorem TabErrs_of (l : List (String × DataW Unit)) (hl : l.filter (fun x => x.1 == "internal/strconv.uint64pow10") = [("internal/strconv.uint64pow10", Lib.tabData .u64 Lib.pow10Tab)] ∧
      l.filter (fun x => x.1 == "strconv.ErrSyntax") = [("strconv.ErrSyntax", Rows.laid_strconv_ErrSyntax)] ∧ l.filter (fun x => x.1 == "strconv.ErrRange") = [("strconv.ErrRange", Rows.laid_strconv_ErrRange)])
    {W : World} (h : laidMetH Tryz.prog l W) : TabErrs W := by
  refine ⟨Tab_of l hl.1 h, ?_, ?_⟩
  · have h1 := laidMetH.filter (fun x => x.1 == "strconv.ErrSyntax") h
    rw [hl.2.1] at h1
    obtain ⟨u, v, hc⟩ := err_at gSyn tSyn Tryz.underlying89 h1
    exact ⟨_, hc, .inr ⟨u, v, rfl⟩⟩
  · have h1 := laidMetH.filter (fun x => x.1 == "strconv.ErrRange") h
    rw [hl.2.2] at h1
    obtain ⟨u, v, hc⟩ := err_at gRng tRng Tryz.underlying89 h1
    exact ⟨_, hc, .inr ⟨u, v, rfl⟩⟩

def synText : ByteArray := ⟨#[105, 110, 118, 97, 108, 105, 100, 32, 115, 121, 110, 116, 97, 120]⟩
def rngText : ByteArray := ⟨#[118, 97, 108, 117, 101, 32, 111, 117, 116, 32, 111, 102, 32, 114, 97, 110, 103, 101]⟩
/-- So many blocks has the settled world. -/
noncomputable def lowBlock : Nat := (World.holding Tryz.prog default ⟨#[], #[], []⟩).heap.size
/-- The same, for a row that lists those of strconv alone. -/
noncomputable def laidWorldFive (os : Os) : World :=
  { World.holding Tryz.prog os ⟨#[.cells #[.string synText] 157, .cells #[.string rngText] 157], #[], []⟩ with
    heap := (((((World.holding Tryz.prog os ⟨#[.cells #[.string synText] 157, .cells #[.string rngText] 157], #[], []⟩).heap.modify 2 (relay (nums Rows.laid_internal_strconv_uint64pow10))).modify 3 (relay (nums Rows.laid_math_bits_deBruijn32tab))).modify 4 (relay (nums Rows.laid_math_bits_deBruijn64tab))).modify
      0 (relay [.iface 155 (.pointer (some ⟨lowBlock, 0, none⟩))])).modify 1 (relay [.iface 155 (.pointer (some ⟨lowBlock + 1, 0, none⟩))]) }
end Go.Proofs.YtnbnepeikdieaaaGreatDoor

