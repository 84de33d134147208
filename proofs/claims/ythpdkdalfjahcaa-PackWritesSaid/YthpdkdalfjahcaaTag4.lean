
/- The document's All of a row of ids; the program's Chain. -/
import Derived.Test.YthpdkdalfjahcaaId10
import Derived.Test.YthpdkdalfjahcaaTag3
namespace Go.Proofs.Ythpdkdalfjahcaa
open Go.RowKit Go.Qc
attribute [local go_sem] txt_size txt_append

theorem flatten_snoc {l : List (List UInt8)} {k : Nat} {x : List UInt8} (hx : l[k]? = some x) : (l.take (k + 1)).flatten = (l.take k).flatten ++ x := by
  rw [List.take_add_one, hx]
  simp
theorem flatten_len : ∀ (l : List (List UInt8)), (∀ a ∈ l, a.length = 32) → l.flatten.length = 32 * l.length
  | [], _ => rfl
  | a :: l, h => by
    rw [List.flatten_cons, List.length_append, h a (by simp), flatten_len l (fun x hx => h x (by simp [hx])), List.length_cons]
    omega
set_option maxRecDepth 100000 in
set_option maxHeartbeats 4000000 in
theorem rall_any (A : Option Addr) (n c : Nat) (l : List (List UInt8)) (w : World) (hA : RowR w A n l) :
    Calls Try.prog 68 #[.slice A n c] w fun e w' => e = .returned (.string (txt l.flatten)) ∧ Below w.heap.size w w' := by
  obtain ⟨hn, bn, hr⟩ := hA
  have hu := Try.underlying24
  go_enter Try.func68, Try.ntmps68
  go_wp2
  go_loopw [3, 4] (fun v i wr => ∃ k : Nat, k ≤ n ∧ i = .int .i64 k ∧ v = .string (txt (l.take k).flatten) ∧ Below w.heap.size w wr) (fun _ i _ => n - (intOf i).toNat)
  case atStart => exact ⟨0, by omega, rfl, rfl, Below.refl _ _⟩
  case round =>
    obtain ⟨k, hk, rfl, rfl, hb⟩ := hrel
    by_cases hlt : k < n
    · obtain ⟨x, hx⟩ : ∃ x, l[k]? = some x := ⟨_, List.getElem?_eq_getElem (by omega)⟩
      obtain ⟨g, q, hg, lx, hix⟩ := hr.pick c hn hx
      have b1 : (k : Int) < n := by omega
      have r1 := hg.below hb
      have hzx : (Try.prog.info? 24).map (·.size) = some (x.map u8v).length := by rw [List.length_map, lx]; exact sizeId
      have cX : ∀ W : World, Calls Try.prog 28 #[.agg (List.map u8v x).toArray] W fun e w' => e = .returned (.string (txt x)) ∧ Below W.heap.size W w' := fun W => rid_any x lx W
      have HS := hid (flatten_snoc hx)
      have HN := hid hn
      have hql := flatten_len (l.take k) (fun a ha => hr.1 a (List.mem_of_mem_take ha))
      rw [List.length_take] at hql
      generalize hQ : (l.take k).flatten = Q at *
      have z3 : ¬ (9223372036854775807 : Int) < Q.length + x.length := by omega
      have HQ := hid hQ
      clear hn hx hQ hql lx
      go_wp2_with (first
        | (with_reducible refine wpList_load_if (by with_unfolding_all rfl) 24 _ rfl _ _ rfl (x.map u8v) _ r1 hu (by with_unfolding_all rfl) hzx ?_)
        | (go_at_call 28; (with_reducible refine (cX _).mono ?_); rintro e1 w1 ⟨rfl, hb1⟩))
      go_roundw
      case rel => exact ⟨k + 1, by omega, by go_num, by rw [HS.out], hb.trans (hb1.mono hb.size)⟩
      case measure => simp [intOf]; omega
    · obtain rfl : k = n := by omega
      rw [List.take_of_length_le (by omega)]
      have b1 : ¬ (k : Int) < k := by omega
      have HN := hid hn
      clear hn
      go_wp2
      go_ret
      exact ⟨rfl, hb⟩
theorem range_add {w : World} {g : Nat} {xs : List Value} (h : w.rangeAt g 0 xs) : ∀ j u, xs[j]? = some u → w.cell? ((⟨g, 0, none⟩ : Addr).add j) = some u := fun j u hj => by
  rw [Addr.add_lit]
  exact h j u hj
end Go.Proofs.Ythpdkdalfjahcaa
