/- A posting's value, opened. (For a seat without layer 15's Put.) -/
import Derived.Test.YtfihnmdhclnhgaaPoChk
namespace Go.Proofs.Ytfihnmdhclnhgaa
set_option maxRecDepth 20000
open Go.RowKit
theorem PoV.open {w : World} {v : Value} {p : Po} (h : PoV w v p) : ∃ ao cap, v = .agg #[.int .u32 (p.doc : Int), .slice ao p.pos.length cap] ∧ Is w (.slice ao p.pos.length cap) p.pos ∧ p.doc < 4294967296 := by
  obtain ⟨h1, u, rfl, h2⟩ := h
  obtain ⟨ao, cap, rfl, _, _⟩ := h2.shape
  exact ⟨ao, cap, rfl, h2, h1⟩
end Go.Proofs.Ytfihnmdhclnhgaa
