/-
  make of a slice of int, and of slices of int, at whatever length that fits.
-/
import Derived.Test.YtgboboojjboocaaChecked
import Derived.WalkKit
import Derived.Deep.OwnRows
namespace Go.Proofs.Ytgboboojjboocaa
open Go.RowKit Go.Deep
theorem infoInt : (Try.prog.info? 3).map (fun i => (i.zero, i.size, i.bytes)) = some (some (.int .i64 0), 1, 8) := by kernel_rfl
theorem infoInts : (Try.prog.info? 31).map (fun i => (i.zero, i.size, i.bytes)) = some (some (.slice none 0 0), 1, 24) := by kernel_rfl
theorem make_ints (n : Nat) (hb : n ≤ 1073741824) (w : World) : (Instr.makeSlice 31 (.int .i64 (n : Int)) (.int .i64 (n : Int))).run Try.prog w = .ok (.slice (some ⟨w.heap.size, 0, none⟩) n n) (w.alloc (.cells (madeCells #[.int .i64 0] n) 3)) :=
  run_make_row' (P := Try.prog) 31 3 (.int .i64 0) 8 Try.underlying31 infoInt rfl .i64 .i64 n (by omega) (by omega) w
end Go.Proofs.Ytgboboojjboocaa
/-
  make of a slice of bytes, and of slices of these, at whatever length that fits.
-/
namespace Go.Proofs.Ytgboboojjboocaa
open Go.RowKit Go.Deep
theorem infoByte : (Try.prog.info? 5).map (fun i => (i.zero, i.size, i.bytes)) = some (some (.int .u8 0), 1, 1) := by kernel_rfl
theorem infoBytes : (Try.prog.info? 32).map (fun i => (i.zero, i.size, i.bytes)) = some (some (.slice none 0 0), 1, 24) := by kernel_rfl
theorem make_bytes (n : Nat) (hb : n ≤ 1073741824) (w : World) : (Instr.makeSlice 32 (.int .i64 (n : Int)) (.int .i64 (n : Int))).run Try.prog w = .ok (.slice (some ⟨w.heap.size, 0, none⟩) n n) (w.alloc (.cells (madeCells #[.int .u8 0] n) 5)) :=
  run_make_row' (P := Try.prog) 32 5 (.int .u8 0) 1 Try.underlying32 infoByte rfl .i64 .i64 n (by omega) (by omega) w
theorem make_cols (n : Nat) (hb : n ≤ 1073741824) (w : World) : (Instr.makeSlice 35 (.int .i64 (n : Int)) (.int .i64 (n : Int))).run Try.prog w = .ok (.slice (some ⟨w.heap.size, 0, none⟩) n n) (w.alloc (.cells (madeCells #[.slice none 0 0] n) 32)) :=
  run_make_row' (P := Try.prog) 35 32 (.slice none 0 0) 24 Try.underlying35 infoBytes rfl .i64 .i64 n (by omega) (by omega) w
end Go.Proofs.Ytgboboojjboocaa
