/- A memory that holds the listed variables, for the rows' witnesses; the variables as the library's calls want them. -/
import Derived.Test.YteigdghbipcpgaaDoorCards
import Derived.Test.YteigdghbipcpgaaDoorTie
import Derived.Test.YteigdghbipcpgaaDoorLx10
import Derived.Test.YteigdghbipcpgaaDoorMem
import Derived.WalkKit
import Derived.ProofKit
import Derived.OpenShut
import Derived.Deep.DeepHandedRow
import Derived.Deep.DeepWitnessRowRef
import Derived.Lib.LaidTab
import Derived.LaidSub
import Derived.ChangeMaps5
import Derived.Stop.LaidErr
namespace Go.Proofs.YteigdghbipcpgaaDoor.wit
open Go.ChangeShapes Go.WideShapes Go.ChangeAt Go.RowKit Go.Lx Go.Ev
set_option maxRecDepth 100000

theorem own : ownKnob Tryd.prog.godebug = none := by kernel_rfl
theorem laidOut : laidOutB Tryd.prog = true := by kernel_rfl

/-- The settled memory with two blocks more (the two errors' structs), the five variables holding what their initialisers lay. -/
noncomputable def laidWorld (os : Os) : World :=
  let N := (World.settled Tryd.prog os).heap.size
  let w0 := World.holding Tryd.prog os ⟨#[
    .cells #[.string ⟨#[105, 110, 118, 97, 108, 105, 100, 32, 115, 121, 110, 116, 97, 120]⟩] 110,
    .cells #[.string ⟨#[118, 97, 108, 117, 101, 32, 111, 117, 116, 32, 111, 102, 32, 114, 97, 110, 103, 101]⟩] 110], #[], []⟩
  let put (h : Array Obj) (g : Nat) (cs : Array Value) : Array Obj := h.modify g fun
    | .cells _ t frozen => .cells cs t frozen
    | o => o
  let h1 := put w0.heap 3 (#[1, 10, 100, 1000, 10000, 100000, 1000000, 10000000, 100000000, 1000000000, 10000000000, 100000000000, 1000000000000, 10000000000000, 100000000000000, 1000000000000000, 10000000000000000, 100000000000000000, 1000000000000000000, 10000000000000000000].map fun z => Value.int .u64 z)
  let h2 := put h1 4 (#[0, 1, 28, 2, 29, 14, 24, 3, 30, 22, 20, 15, 25, 17, 4, 8, 31, 27, 13, 23, 21, 19, 16, 7, 26, 12, 18, 6, 11, 5, 10, 9].map fun z => Value.int .u8 z)
  let h3 := put h2 5 (#[0, 1, 56, 2, 57, 49, 28, 3, 61, 58, 42, 50, 38, 29, 17, 4, 62, 47, 59, 36, 45, 43, 51, 22, 53, 39, 33, 30, 24, 18, 12, 5, 63, 55, 48, 27, 60, 41, 37, 16, 46, 35, 44, 21, 52, 32, 23, 11, 54, 26, 40, 15, 34, 20, 31, 10, 25, 14, 19, 9, 13, 8, 7, 6].map fun z => Value.int .u8 z)
  let h4 := put h3 1 #[.iface 108 (.pointer (some ⟨N, 0, none⟩))]
  let h5 := put h4 2 #[.iface 108 (.pointer (some ⟨N + 1, 0, none⟩))]
  { w0 with heap := h5 }

theorem laid_met (os : Os) (args : Array Value) : laidMet Tryd.prog Rows.lexScansRow.laid ((laidWorld os).forCall (fun _ _ => 0) ⟨#[], args, []⟩).memory :=
  laidMet_of_run' 8 (by kernel_rfl) (by kernel_rfl)

theorem gES : Tryd.prog.globalNamed "strconv.ErrSyntax" = some 1 := by kernel_rfl
theorem gER : Tryd.prog.globalNamed "strconv.ErrRange" = some 2 := by kernel_rfl
theorem gESType : (Tryd.prog.globals[1]?).map (·.type) = some 66 := by kernel_rfl
theorem gERType : (Tryd.prog.globals[2]?).map (·.type) = some 66 := by kernel_rfl
theorem cells110 : Tryd.prog.cellsOf 110 = 1 := by kernel_rfl
theorem cells9 : Tryd.prog.cellsOf 9 = 1 := by kernel_rfl
theorem star : "*" ++ "errors.errorString" = "*errors.errorString" := by decide
theorem row108 (u : TypeId) (h : Tryd.prog.typeName? 3 u = some "*errors.errorString") : u = 108 :=
  typeName_ptr_named (nm := "errors.errorString") (by rw [star]; kernel_rfl) (by kernel_rfl) (by decide) u (by rw [star]; exact h)

theorem keep1 (n : String) (d : DataW Unit) (h : (Rows.lexScansRow.laid.filter fun x => x.1 == n) = [(n, d)]) {W : World} (hL : laidMetH Tryd.prog Rows.lexScansRow.laid W) : laidMet Tryd.prog [(n, d)] W := by
  have hL' : laidMet Tryd.prog Rows.lexScansRow.laid W := by
    have e : (Rows.lexScansRow.laid.filter fun x => x.2.handleName?.isSome) = [] := by kernel_rfl
    unfold laidMetH at hL
    rw [e] at hL
    exact hL
  rw [← h]
  exact hL'.filter _

theorem glb {W : World} (hL : laidMetH Tryd.prog Rows.lexScansRow.laid W) (hsh : W.ShapedOpen Tryd.prog) : Glb W := by
  refine ⟨Tryd.laysM145.s1_3 W hsh, ?_, ?_, ?_⟩
  · obtain ⟨a, s, hv, _⟩ := laid_sentinel (keep1 "strconv.ErrSyntax" Rows.laid_strconv_ErrSyntax (by kernel_rfl) hL) gES gESType Tryd.underlying66 row108 Tryd.underlying108 Tryd.underlying110 rfl rfl Tryd.underlying9 cells110 cells9
    exact ⟨_, _, hv⟩
  · obtain ⟨a, s, hv, _⟩ := laid_sentinel (keep1 "strconv.ErrRange" Rows.laid_strconv_ErrRange (by kernel_rfl) hL) gER gERType Tryd.underlying66 row108 Tryd.underlying108 Tryd.underlying110 rfl rfl Tryd.underlying9 cells110 cells9
    exact ⟨_, _, hv⟩
  · exact Lib.tabIs_of_head (g := 3) (t := 112) (e := 92) (n := 20) (by kernel_rfl) (by kernel_rfl) Tryd.underlying112 Tryd.underlying92 (by kernel_rfl) (by kernel_rfl) (keep1 "internal/strconv.uint64pow10" _ (by kernel_rfl) hL)
end Go.Proofs.YteigdghbipcpgaaDoor.wit
