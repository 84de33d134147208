
/- The contract of the document's Sum. -/
import Derived.Test.YthpdkdalfjahcaaSha9
namespace Go.Proofs.Ythpdkdalfjahcaa
open Go.RowKit Go.Qc
attribute [local go_sem] txt_size txt_append

theorem cut64 (P : List UInt8) (n q : Nat) (hq : q = 64 * n) (hn : 64 * (n + 1) ≤ P.length) : (txt P).extract q (q + 64) = txt (wordsB (unW 16 ((P.drop (64 * n)).take 64))) := by
  subst hq
  rw [wordsB_unW 16 _ (by rw [List.length_take, List.length_drop]; omega), txt_extract]
  congr 2
  omega

theorem feedN_succ (s : S8) (l : List UInt8) (n : Nat) : feedN s l (n + 1) = blk (feedN s l n) (unW 16 ((l.drop (64 * n)).take 64)) := rfl
theorem meas64 (N n q : Nat) (h : n < N) (hq : q = 64 * n) : 64 * N - (q + 64) < 64 * N - q := by omega
theorem intOf_i64 (n : Int) : intOf (.int .i64 n) = n := rfl
theorem list_length (s : S8) : s.list.length = 8 := rfl

end Go.Proofs.Ythpdkdalfjahcaa
