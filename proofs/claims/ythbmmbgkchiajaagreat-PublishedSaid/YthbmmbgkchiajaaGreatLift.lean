
/- A call that starts no goroutine on its way: its contract over one goroutine gives the run that a row which says 'leaving' asks for. -/
import Derived.Test.YthbmmbgkchiajaaGreatBase
import Derived.Conc.LeavingOf
import Derived.LoneHanded
import Derived.CallAlone
import Derived.Test.YthbmmbgkchiajaaGreatRows
import Derived.JoinedOf
import Derived.KernelRfl

namespace Go.Proofs.YthbmmbgkchiajaaGreat
set_option linter.unusedSimpArgs false
set_option linter.unusedVariables false
open Go.Conc

theorem good_of_calls {P : Program} {f : FuncId} {args : Array Value} {W : World} {Post : Value → World → Prop} (hi : P.inits.idxOf? f = none)
    (h : Calls P f args W fun | .returned v, w' => Post v w' | _, _ => False) :
    ∃ M last o w' t', runNT P (M + 1) (solo (G (Frame.enter P f args .normal) []) W) #[] = (.ended o w', t') ∧ runN P M (solo (G (Frame.enter P f args .normal) []) W) = .next last ∧
      step P last = .ended o w' ∧ Conc.Good P Post last o w' t' := by
  obtain ⟨n, v, w', fr, hn, hend, hp⟩ := h.done_lone hi
  have e : runNT P (n + 1) (lone (Frame.enter P f args .normal) [] W) #[] = (.ended (.done v) w', (runNT P (n + 1) (lone (Frame.enter P f args .normal) [] W) #[]).2) := Prod.ext (by rw [runNT_fst, hend]) rfl
  have ha : (runNT P (n + 1) (lone (Frame.enter P f args .normal) [] W) #[]).2.allBy 0 := allBy_of_lone P n _ _ hn (by simp [lone]) rfl
  refine ⟨n, _, _, _, _, e, hn, step_of_runs hn hend, v, rfl, hp, fun _ => not_race_of_allBy ha, handedOver_of_allBy ha, ⟨fun g hg => ?_, rfl⟩, fun i g hg hne => ?_⟩
  · simp [lone] at hg
  · cases i with
    | zero => exact absurd rfl hne
    | succ i => simp [lone] at hg

end Go.Proofs.YthbmmbgkchiajaaGreat

/- The closed facts that the rows ask: each reckoned by itself. -/
namespace Go.Proofs.YthbmmbgkchiajaaGreat
set_option linter.unusedSimpArgs false
set_option linter.unusedVariables false

theorem and_tt {a b : Bool} (h : a = true) (k : b = true) : (a && b) = true := by rw [h, k]; rfl

end Go.Proofs.YthbmmbgkchiajaaGreat
