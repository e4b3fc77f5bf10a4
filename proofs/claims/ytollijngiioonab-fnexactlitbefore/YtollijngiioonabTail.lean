/- The rest of a slice of terms behind its first. Conditions: none. -/
import Derived.Test.YtollijngiioonabProg
import Derived.Test.YtollijngiioonabStk
namespace Go.Proofs.Ytollijngiioonab
set_option maxRecDepth 100000
open Go.RowKit

theorem slice_tail (b off n c : Nat) (w : World) : (Instr.slice 29 (.slice (some ⟨b, off, none⟩) (n + 1) c) (some (.int .i64 1)) none none).run Try.prog w = .ok (.slice (tailA b off c) n (c - 1)) w := by
  have h0 : (sizeOf 31).run Try.prog w = .ok 3 w := by simp [go_sem]
  simp only [Instr.slice, Sem.run_bind, run_underlying Try.underlying29, Result.andThen]
  have hb : (Instr.sliceBounds true (n + 1) c (some (.int .i64 1)) none none).run Try.prog w = .ok (1, n + 1, c) w := by
    simp [Instr.sliceBounds, Instr.sliceBound, asIntOf, go_sem]
    omega
  simp only [hb, h0, Sem.run_pure]
  unfold tailA
  split <;> simp [Addr.add]
theorem sliceAt_tail (b off n c : Nat) (w : World) : (Instr.sliceAt 29 (.slice (some ⟨b, off, none⟩) (n + 1) c) (some (.int .i64 1)) none none).run Try.prog w = .ok (.slice (tailA b off c) n (c - 1)) w := by
  simp only [Instr.sliceAt, Sem.run_bind, run_underlying Try.underlying29, Result.andThen, slice_tail b off n c w]

end Go.Proofs.Ytollijngiioonab
