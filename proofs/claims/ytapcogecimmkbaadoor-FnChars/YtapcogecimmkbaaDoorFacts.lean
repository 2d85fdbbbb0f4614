/- The seventeen characters: each one's text is one token of it. -/
import Derived.Test.YtapcogecimmkbaaDoorCharOf
namespace Go.Proofs.YtapcogecimmkbaaDoor
open Go.RowKit Go.PlainAid
set_option maxRecDepth 100000 in
theorem drawn_char : ∀ c ∈ drawn, charB c = true := by decide +kernel
set_option maxRecDepth 100000 in
theorem drawn_size : ∀ c ∈ drawn, (charText c).size ≤ 4000 := by decide +kernel
set_option maxRecDepth 100000 in
theorem drawn_scan : ∀ c ∈ drawn, scan (charText c) 0 [] = ([(4, c, ⟨#[]⟩, 0)], 0, 0) := by decide +kernel
end Go.Proofs.YtapcogecimmkbaaDoor
