/-
  The program's Tick, off an older box: its contract.
-/
import Derived.Test.YtfmfphfckaiejaaJcd
import Derived.Test.YtfmfphfckaiejaaJce
import Derived.Test.YtfmfphfckaiejaaJcf
import Derived.Test.YtfmfphfckaiejaaJcg
namespace Go.Proofs.Ytfmfphfckaiejaa
open Go.RowKit
set_option linter.unusedVariables false
set_option linter.unusedSimpArgs false


theorem TickP_any {w : World} {s : Ad} {m : Mb} {p : Nat} (hp : p < w.heap.size) (hm : MbV w (fun g => g ≠ p) s m) {K : Int} (hk : WfK K m) (hz : WfZ m) (wf : WfM m) (draw : Int) (hd : InR draw) (hel : m.es.length ≤ 800) : Calls Try.prog 22 #[mbA s m, .int .i64 draw] w (TkQ p (tickM m draw) w) := by
  by_cases hr : m.role = 3
  · by_cases hc : m.clock + 1 < 2
    · exact TickP_lead0 hp hm hk hz wf draw hd hel hr hc
    · exact TickP_lead1 hp hm hk hz wf draw hd hel hr hc
  · by_cases hc : m.clock + 1 < m.wait
    · exact TickP_not0 hp hm hk hz wf draw hd hel hr hc
    · exact TickP_not1 hp hm hk hz wf draw hd hel hr hc
end Go.Proofs.Ytfmfphfckaiejaa
