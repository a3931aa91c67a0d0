/- How the methods of a queue's row are reached through an interface that holds its address. No condition but that the address holds a row. -/
import Derived.Test.YtgimpolgagkffaaRow2
namespace Go.Proofs.Ytgimpolgagkffaa
open Go.RowKit

theorem m_push (g : Nat) (w : World) : Sem.run Try.prog (method 223 55 (.pointer (some ⟨g, 0, none⟩)) "Push") w = .ok (71, .pointer (some ⟨g, 0, none⟩)) w := by kernel_rfl
theorem m_pop (g : Nat) (w : World) : Sem.run Try.prog (method 223 55 (.pointer (some ⟨g, 0, none⟩)) "Pop") w = .ok (70, .pointer (some ⟨g, 0, none⟩)) w := by kernel_rfl
theorem m_first (g : Nat) (w : World) : Sem.run Try.prog (method 223 55 (.pointer (some ⟨g, 0, none⟩)) "touchstone/queue.first") w = .ok (72, .pointer (some ⟨g, 0, none⟩)) w := by kernel_rfl

theorem m_load (g : Nat) (w : World) (v : Value) (hc : w.cell? ⟨g, 0, none⟩ = some v) (f : FuncId) : Sem.run Try.prog (Sem.load .plain ⟨g, 0, none⟩ fun v => Sem.pure (f, v)) w = .ok (f, v) w := by
  rw [Sem.run, hc]; rfl

theorem m_less (g : Nat) (w : World) (v : Value) (hc : w.cell? ⟨g, 0, none⟩ = some v) : Sem.run Try.prog (method 223 55 (.pointer (some ⟨g, 0, none⟩)) "Less") w = .ok (67, v) w :=
  Eq.trans (show _ = Sem.run Try.prog (Sem.load .plain ⟨g, 0, none⟩ fun v => Sem.pure (67, v)) w by kernel_rfl) (m_load g w v hc 67)
theorem m_swap (g : Nat) (w : World) (v : Value) (hc : w.cell? ⟨g, 0, none⟩ = some v) : Sem.run Try.prog (method 223 55 (.pointer (some ⟨g, 0, none⟩)) "Swap") w = .ok (68, v) w :=
  Eq.trans (show _ = Sem.run Try.prog (Sem.load .plain ⟨g, 0, none⟩ fun v => Sem.pure (68, v)) w by kernel_rfl) (m_load g w v hc 68)
theorem m_len (g : Nat) (w : World) (v : Value) (hc : w.cell? ⟨g, 0, none⟩ = some v) : Sem.run Try.prog (method 223 55 (.pointer (some ⟨g, 0, none⟩)) "Len") w = .ok (66, v) w :=
  Eq.trans (show _ = Sem.run Try.prog (Sem.load .plain ⟨g, 0, none⟩ fun v => Sem.pure (66, v)) w by kernel_rfl) (m_load g w v hc 66)
end Go.Proofs.Ytgimpolgagkffaa
