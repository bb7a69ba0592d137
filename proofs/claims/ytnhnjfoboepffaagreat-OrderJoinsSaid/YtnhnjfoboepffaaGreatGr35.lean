/- Texts of one's own, joined: OrdAf. -/
import Derived.Test.YtnhnjfoboepffaaGreatGr34
import Derived.Test.YtnhnjfoboepffaaGreatGr33
namespace Go.Proofs.YtnhnjfoboepffaaGreat
open Go.RowKit

theorem proved_any (t : M.Tb) (p : Tp) (w : World) (hal : ∀ l, l ∈ t.above → l.length ≤ 1000000) (ht : TbIn w t p) : Calls Tryz.prog 22 #[tbV t p] w (ProvedPost t p w) := by
  by_cases hf : M.form t
  · by_cases hk : (M.brk t).1 = 0
    · exact proved_c3 t p w hf hk hal ht
    · exact proved_c2 t p w hf hk hal ht
  · exact proved_c1 t p w hf hal ht
end Go.Proofs.YtnhnjfoboepffaaGreat
