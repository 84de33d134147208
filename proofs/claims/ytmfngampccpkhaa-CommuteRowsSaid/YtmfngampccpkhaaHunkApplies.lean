
/- Proved: for all lines and every hunk quitclaimlaw11.HunkApplies returns true and leaves its arguments as they were. No conditions. -/
import Derived.Test.YtmfngampccpkhaaHk10
set_option linter.unusedSimpArgs false
set_option linter.unusedVariables false
namespace Go.Proofs.Ytmfngampccpkhaa
open Go.RowKit Go.Qc Go.Shelf
attribute [local go_sem] txt_size txt_append ib_fold txt_toL

theorem own_le {w : World} {base base' n : Nat} {e : TypeId} {v : Value} {xs : List Value} (h : w.ownsRow base e 1 v n xs) (hb : base' ≤ base) : w.ownsRow base' e 1 v n xs := ⟨h.1, h.2.imp id fun ⟨g, cap, cur, h1, h2, h3⟩ => ⟨g, cap, cur, h1, Nat.le_trans hb h2, h3⟩⟩
theorem rhright_any (at' : Int) (A : Option Addr) (n c : Nat) (old : List (List UInt8)) (hn : old.length = n) (bn : n ≤ 1000) (B : Option Addr) (m d : Nat) (new : List (List UInt8)) (hm : new.length = m) (bm : m ≤ 1000) (o8 : ∀ x ∈ old, x.length ≤ 1000000000000) (n8 : ∀ x ∈ new, x.length ≤ 1000000000000) (W : World)
    (hA : Rd W A (old.map strV)) (hB : Rd W B (new.map strV)) :
    Calls Try.prog 57 #[.agg #[.int .i64 at', .slice A n c, .slice B m d]] W fun e w' => e = .returned (.bool (hunkR at' old new)) ∧ Below W.heap.size W w' := by
  have := rhright_gen at' A n c B m d (linesR old) (linesR new) W (fun W2 h2 => rlines_any A n c old hn (by omega) o8 W2 (hA.below h2)) (fun W2 h2 => rlines_any B m d new hm (by omega) n8 W2 (hB.below h2))
  unfold hunkR
  rw [hn, hm]
  exact this
open Go.ChangeShapes Go.WideShapes Go.ChangeAt
open Go.ChangeMaps (open_string shut_string)
end Go.Proofs.Ytmfngampccpkhaa
