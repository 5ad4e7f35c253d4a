
/- Write, of the document. -/
import Derived.Test.YthbmmbgkchiajaaNew
namespace Go.Proofs.Ythbmmbgkchiajaa
open Go.RowKit

def DM.put (m : DM) (i : Nat) (s : ByteArray) : DM := ⟨m.dur, m.puts ++ [(i, s)], m.syncs⟩
theorem DM.put_ok {m : DM} (h : m.ok) {i : Nat} {s : ByteArray} (hi : i < m.dur.length) (hs : s.size = 64) : (m.put i s).ok := by
  refine ⟨h.len, h.dur, ?_⟩
  intro x hx
  simp only [DM.put, List.mem_append, List.mem_singleton] at hx
  rcases hx with hx | rfl
  · exact h.puts x hx
  · exact ⟨hi, hs⟩

theorem Own.len {S : Nat → Prop} {w : World} {e size n : Nat} {v : Value} {xs : List Value} (h : Own S w e size v n xs) : ∃ ao cap, v = .slice ao n cap ∧ n ≤ cap := by
  rcases h.1.2 with ⟨rfl, rfl⟩ | ⟨g, cap, cur, rfl, _, _, hc, _⟩
  · exact ⟨none, 0, rfl, Nat.le_refl _⟩
  · exact ⟨_, cap, rfl, hc⟩

end Go.Proofs.Ythbmmbgkchiajaa
