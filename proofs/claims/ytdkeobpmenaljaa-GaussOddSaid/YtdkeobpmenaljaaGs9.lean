
/- gauss: sums, differences, products, turns of numbers of which one is no residue. -/
import Derived.Test.YtdkeobpmenaljaaGs8
set_option linter.unusedSimpArgs false
set_option linter.unusedVariables false
namespace Go.Proofs.Ytdkeobpmenaljaa
open Go.RowKit Go.Qc

theorem choose_any (q : Question) (w : World) : ∃ r n, (choose q).run Try.prog w = .ok r (w.drewN n) := by
  rw [run_choose_drew]
  split
  · exact ⟨0, 0, rfl⟩
  · exact ⟨_, 1, rfl⟩
theorem arith_any (op : BinOp) (ho : op = .add ∨ op = .sub ∨ op = .mul) (x y : Nat) (w : World) : ∃ r n, (Op.Complex.arith op .f64 x y).run Try.prog w = .ok r (w.drewN n) := by
  cases h : floatBits op .f64 x y with
  | some r => exact ⟨r, 0, run_carith w h⟩
  | none =>
    obtain ⟨r, n, hr⟩ := choose_any (.nanBits .f64 x y) w
    refine ⟨r, n, ?_⟩
    rcases ho with rfl | rfl | rfl
    · have h2 : FloatKind.f64.format.add x y = none := h
      simp only [Op.Complex.arith, Op.floatArith, Sem.run_bind, Sem.run_pure, Result.andThen_ok, h2, hr]
    · have h2 : FloatKind.f64.format.sub x y = none := h
      simp only [Op.Complex.arith, Op.floatArith, Sem.run_bind, Sem.run_pure, Result.andThen_ok, h2, hr]
    · have h2 : FloatKind.f64.format.mul x y = none := h
      simp only [Op.Complex.arith, Op.floatArith, Sem.run_bind, Sem.run_pure, Result.andThen_ok, h2, hr]
theorem drewN_add (w : World) (m n : Nat) : (w.drewN m).drewN n = w.drewN (m + n) := by
  unfold World.drewN
  simp [Nat.add_assoc]
theorem csum_any (op : BinOp) (ho : op = .add ∨ op = .sub) (t : TypeId) (a b c d : Nat) (w : World) : ∃ p q n, (binOp op t (.complex .f64 a b) (.complex .f64 c d)).run Try.prog w = .ok (.complex .f64 p q) (w.drewN n) := by
  obtain ⟨p, m, h1⟩ := arith_any op (ho.elim .inl (fun h => .inr (.inl h))) a c w
  obtain ⟨q, n, h2⟩ := arith_any op (ho.elim .inl (fun h => .inr (.inl h))) b d (w.drewN m)
  refine ⟨p, q, m + n, ?_⟩
  rcases ho with rfl | rfl <;> simp [binOp, Op.complexOp, h1, h2, drewN_add]
theorem cmul_any (t : TypeId) (a b c d : Nat) (w : World) : ∃ p q n, (binOp .mul t (.complex .f64 a b) (.complex .f64 c d)).run Try.prog w = .ok (.complex .f64 p q) (w.drewN n) := by
  obtain ⟨r1, n1, h1⟩ := arith_any .mul (.inr (.inr rfl)) a c w
  obtain ⟨r2, n2, h2⟩ := arith_any .mul (.inr (.inr rfl)) b d (w.drewN n1)
  rw [drewN_add] at h2
  obtain ⟨r3, n3, h3⟩ := arith_any .sub (.inr (.inl rfl)) r1 r2 (w.drewN (n1 + n2))
  rw [drewN_add] at h3
  obtain ⟨r4, n4, h4⟩ := arith_any .mul (.inr (.inr rfl)) a d (w.drewN (n1 + n2 + n3))
  rw [drewN_add] at h4
  obtain ⟨r5, n5, h5⟩ := arith_any .mul (.inr (.inr rfl)) b c (w.drewN (n1 + n2 + n3 + n4))
  rw [drewN_add] at h5
  obtain ⟨r6, n6, h6⟩ := arith_any .add (.inl rfl) r4 r5 (w.drewN (n1 + n2 + n3 + n4 + n5))
  rw [drewN_add] at h6
  refine ⟨r3, r6, n1 + n2 + n3 + n4 + n5 + n6, ?_⟩
  simp [binOp, Op.complexOp, Op.Complex.conv, Op.Complex.product, Op.Complex.mul, Op.Complex.sub, Op.Complex.add, h1, h2, h3, h4, h5, h6]
set_option maxRecDepth 100000 in
theorem gadd_no (a b c d : Nat) (ha : a < 2 ^ 64) (hb : b < 2 ^ 64) (hc : c < 2 ^ 64) (hd : d < 2 ^ 64) (h : ((partF a && partF b) && (partF c && partF d)) = false) (w : World) :
    Calls Try.prog 43 #[.complex .f64 a b, .complex .f64 c d] w fun e w' => e = .returned (.complex .f64 0 0) ∧ Below w.heap.size w w' := by
  obtain ⟨p, q, n, hr⟩ := csum_any .add (.inl rfl) 80 a b c d w
  have hk := greck_no p q a b c d ha hb hc hd h
  rw [← cz_zero] at hk
  clear ha hb hc hd h
  go_enter Try.func43, Try.ntmps43
  go_wp2_with (go_at_call 96; (with_reducible refine (hk _).mono ?_); rintro e w' ⟨rfl, rfl⟩)
  go_ret
  exact ⟨rfl, below_drewN (Below.refl _ _) n⟩
set_option maxRecDepth 100000 in
theorem gsub_no (a b c d : Nat) (ha : a < 2 ^ 64) (hb : b < 2 ^ 64) (hc : c < 2 ^ 64) (hd : d < 2 ^ 64) (h : ((partF a && partF b) && (partF c && partF d)) = false) (w : World) :
    Calls Try.prog 45 #[.complex .f64 a b, .complex .f64 c d] w fun e w' => e = .returned (.complex .f64 0 0) ∧ Below w.heap.size w w' := by
  obtain ⟨p, q, n, hr⟩ := csum_any .sub (.inr rfl) 80 a b c d w
  have hk := greck_no p q a b c d ha hb hc hd h
  rw [← cz_zero] at hk
  clear ha hb hc hd h
  go_enter Try.func45, Try.ntmps45
  go_wp2_with (go_at_call 96; (with_reducible refine (hk _).mono ?_); rintro e w' ⟨rfl, rfl⟩)
  go_ret
  exact ⟨rfl, below_drewN (Below.refl _ _) n⟩
set_option maxRecDepth 100000 in
theorem gmul_no (a b c d : Nat) (ha : a < 2 ^ 64) (hb : b < 2 ^ 64) (hc : c < 2 ^ 64) (hd : d < 2 ^ 64) (h : ((partF a && partF b) && (partF c && partF d)) = false) (w : World) :
    Calls Try.prog 47 #[.complex .f64 a b, .complex .f64 c d] w fun e w' => e = .returned (.complex .f64 0 0) ∧ Below w.heap.size w w' := by
  obtain ⟨p, q, n, hr⟩ := cmul_any 80 a b c d w
  have hk := greck_no p q a b c d ha hb hc hd h
  rw [← cz_zero] at hk
  clear ha hb hc hd h
  go_enter Try.func47, Try.ntmps47
  go_wp2_with (go_at_call 96; (with_reducible refine (hk _).mono ?_); rintro e w' ⟨rfl, rfl⟩)
  go_ret
  exact ⟨rfl, below_drewN (Below.refl _ _) n⟩
set_option maxRecDepth 100000 in
theorem gturn_no (a b : Nat) (ha : a < 2 ^ 64) (hb : b < 2 ^ 64) (h : (partF a && partF b) = false) (n : Int) (w : World) :
    Calls Try.prog 51 #[.complex .f64 a b, .int .i64 n] w fun e w' => e = .returned (.complex .f64 0 0) ∧ Below w.heap.size w w' := by
  obtain ⟨k, hk⟩ : ∃ k : Nat, n % 4 = k := ⟨(n % 4).toNat, by omega⟩
  have hk4 : k < 4 := by omega
  have h3 := i64_and3 n
  rw [hk] at h3
  have hp := gpower_any (0, 1) iZ_res k (by omega)
  rw [← cz_i] at hp
  obtain ⟨i1, i2, I1, I2, li⟩ := LetZ.mk_ (gpowZ (0, 1) k)
  rw [li.cz] at hp
  have hI1 : I1 < 2 ^ 64 := by rw [← li.ua]; exact fl_wf _
  have hI2 : I2 < 2 ^ 64 := by rw [← li.vb]; exact fl_wf _
  have hm := gmul_no a b I1 I2 ha hb hI1 hI2 (by rw [h, Bool.false_and])
  clear hk ha hb h li hI1 hI2
  go_enter Try.func51, Try.ntmps51
  go_wp2_with (first
    | (go_at_call 49; (with_reducible refine (hp _).mono ?_); rintro e w' ⟨rfl, rfl⟩)
    | (go_at_call 47; (with_reducible refine (hm _).mono ?_); rintro e w' ⟨rfl, hb⟩))
  go_ret
  exact ⟨rfl, hb⟩
end Go.Proofs.Ytdkeobpmenaljaa
