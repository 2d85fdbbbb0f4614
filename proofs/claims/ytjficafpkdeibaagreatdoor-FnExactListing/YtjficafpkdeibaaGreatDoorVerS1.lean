/- The model's look at one instruction. No condition. -/
import Derived.Test.YtjficafpkdeibaaGreatDoorVerC
import Derived.Test.YtjficafpkdeibaaGreatDoorVerG
namespace Go.Proofs.YtjficafpkdeibaaGreatDoor
open Go.RowKit

theorem l04Ins_any (op a b : Int) (mod name cn : ByteArray) (params cells result : Int) (pa : Option Addr) (n c : Nat) (w : World) (hm : mod.size ≤ maxLen) (hn : name.size ≤ maxLen) (hl : n ≤ 1099511627776) :
    Calls Tryz.prog 77 #[.agg #[.int .i64 op, .int .i64 a, .int .i64 b, .string mod, .string name], .agg #[.string cn, .int .i64 params, .int .i64 cells, .int .i64 result, .slice pa n c]] w fun e w' => (e = .returned (.bool (insB ⟨op, a, b, mod, name⟩ cells n result)) ∧ Gw w w') := by
  by_cases h3 : op = 3
  · subst h3
    exact l04Ins_global a b mod name cn params cells result pa n c w hm hn
  · by_cases h13 : op = 13
    · subst h13
      exact l04Ins_call a b mod name cn params cells result pa n c w hm hn
    · exact l04Ins_no op a b mod name cn params cells result pa n c w hl h3 h13
end Go.Proofs.YtjficafpkdeibaaGreatDoor
