
/- journal: frames that may be, of a row; what is scanned of frames' bytes with more behind; the law's state. -/
import Derived.Test.YtemdmdgigmhlbaaGreatLg3
import Derived.Test.YtemdmdgigmhlbaaGreatJs4
set_option linter.unusedSimpArgs false
set_option linter.unusedVariables false
namespace Go.Proofs.YtemdmdgigmhlbaaGreat
open Go.RowKit Go.Qc Go.Shelf
/-- The frames that may be. -/
def flJ (Xs : List FmD) : List FmD := Xs.filter (fun X => decide X.okF)
theorem flJ_yes {Xs : List FmD} {k : Nat} {X : FmD} (hX : Xs[k]? = some X) (hx : X.okF) : flJ (Xs.take (k + 1)) = flJ (Xs.take k) ++ [X] := by
  unfold flJ
  rw [List.take_add_one, hX, List.filter_append]
  simp [hx]
theorem flJ_no {Xs : List FmD} {k : Nat} {X : FmD} (hX : Xs[k]? = some X) (hx : ¬ X.okF) : flJ (Xs.take (k + 1)) = flJ (Xs.take k) := by
  unfold flJ
  rw [List.take_add_one, hX, List.filter_append]
  simp [hx]
theorem flJ_ok (Xs : List FmD) : okJ (flJ Xs) := fun X hX => by simpa using (List.mem_filter.1 hX).2
theorem flJ_mem {Xs : List FmD} {X : FmD} (h : X ∈ flJ Xs) : X ∈ Xs := (List.mem_filter.1 h).1
theorem flJ_len (Xs : List FmD) : (flJ Xs).length ≤ Xs.length := List.length_filter_le _ _
theorem okJ_app {A B : List FmD} (h : okJ A) (k : okJ B) : okJ (A ++ B) := fun X hX => (List.mem_append.1 hX).elim (h X) (k X)
theorem stJ_lenA (A : List FmD) : ∀ (n : Nat) (B : List FmD), B.length = n → (∀ X ∈ B, X.p.length ≤ 300) → (stJ (A ++ B)).1.length ≤ (stJ A).1.length + n * 319 := by
  intro n
  induction n with
  | zero => intro B h _; rw [List.eq_nil_of_length_eq_zero h]; simp
  | succ n ih =>
    intro B h hp
    have hne : B ≠ [] := by intro e; rw [e] at h; simp at h
    rw [← List.dropLast_concat_getLast hne, ← List.append_assoc, stJ_snoc]
    have h1 := ih B.dropLast (by rw [List.length_dropLast]; omega) (fun X hX => hp X ((List.dropLast_sublist B).subset hX))
    have h2 := frB_lenS (stJ (A ++ B.dropLast)).2 (B.getLast hne) (hp _ (List.getLast_mem hne))
    rw [List.length_append]
    omega
theorem scF_more {s r : List UInt8} : ∀ (Xs : List FmD) (C : List UInt8) (a f : Nat), okJ Xs → (∀ X ∈ Xs, X.p.length ≤ 5000) → s.drop a = rsB C Xs ++ r → (scF s (f + Xs.length) a C).1 = Xs ++ (scF s f (a + (rsB C Xs).length) (chB C Xs)).1
  | [], C, a, f, _, _, _ => rfl
  | X :: Xs, C, a, f, hok, hp, h => by
    have h1 : s.drop a = frB C X ++ (rsB (nxtB C X) Xs ++ r) := by rw [h, rsB, List.append_assoc]
    have hf := frR_back (hok X (by simp)) (hp X (by simp)) h1
    have e1 : f + (X :: Xs).length = (f + Xs.length) + 1 := by simp only [List.length_cons]; omega
    rw [e1, scF_some hf]
    have ih := scF_more Xs (nxtB C X) (a + (frB C X).length) f (fun Y hY => hok Y (by simp [hY])) (fun Y hY => hp Y (by simp [hY])) (drop_more (frB C X) h1)
    simp only [List.cons_append, rsB, chB, List.length_append]
    rw [ih, Nat.add_assoc]
theorem scF_pay {s : List UInt8} : ∀ (f a : Nat) (C : List UInt8), a ≤ s.length → ∀ X ∈ (scF s f a C).1, X.p.length ≤ s.length - a
  | 0, a, C, _, X, hX => by simp [scF] at hX
  | f + 1, a, C, h, X, hX => by
    cases hf : frR s C a with
    | none => rw [scF_none hf] at hX; simp at hX
    | some p =>
      obtain ⟨Y, b⟩ := p
      rw [scF_some hf] at hX
      obtain ⟨g1, g2, _, _⟩ := frR_some hf h
      rcases List.mem_cons.1 hX with rfl | hX
      · have hl := congrArg List.length (frR_bytes hf)
        have hp : X.p.length ≤ (frB C X).length := by simp [frB, textE]; omega
        rw [List.length_append, List.length_drop, List.length_drop] at hl
        omega
      · have := scF_pay f b (nxtB C Y) g2 X hX
        omega
/-- Frames' bytes with little behind: what is scanned has small payloads. -/
theorem scJ_junk (Zs : List FmD) (J : List UInt8) (hok : okJ Zs) (hp : ∀ X ∈ Zs, X.p.length ≤ 300) (hJ : J.length ≤ 100) : ∀ X ∈ (scJ ((stJ Zs).1 ++ J)).1, X.p.length ≤ 300 := by
  have e : stJ Zs = (rsB begB Zs, chB begB Zs) := stJ_rsB Zs
  rw [e]
  simp only
  have hl := rsB_len Zs begB
  have h1 := scF_more (s := rsB begB Zs ++ J) (r := J) Zs begB 0 ((rsB begB Zs ++ J).length + 1 - Zs.length) hok (fun X hX => Nat.le_trans (hp X hX) (by decide)) rfl
  rw [show (rsB begB Zs ++ J).length + 1 - Zs.length + Zs.length = (rsB begB Zs ++ J).length + 1 by rw [List.length_append]; omega] at h1
  intro X hX
  have hX2 : X ∈ (scF (rsB begB Zs ++ J) ((rsB begB Zs ++ J).length + 1) 0 begB).1 := hX
  rw [h1] at hX2
  rcases List.mem_append.1 hX2 with hX2 | hX2
  · exact hp X hX2
  · have := scF_pay _ _ _ (by rw [List.length_append]; omega) X hX2
    rw [List.length_append] at this
    omega
/-- A disk beside a row of the document's frames. -/
theorem DJ.apart {base D : Nat} {s : List UInt8} {nw : Nat} {W W' : World} {b n size : Nat} {v : Value} {xs : List Value} (h : DJ base D s nw W) (hr : W.ownsRow b 36 size v n xs) (hg : W.grownBy W' v.ownBlock) : DJ base D s nw W' := by
  obtain ⟨kv, sv, wv, k, ws, h1, h2⟩ := h
  exact ⟨kv, sv, wv, k, ws, ⟨blk_apart h1.x hr (by decide) hg, ⟨World.ownsRow.kept h1.r.k hg (own_apart2 h1.r.k hr (by decide)), World.ownsRow.kept h1.r.s hg (own_apart2 h1.r.s hr (by decide)), World.ownsRow.kept h1.r.q hg (own_apart2 h1.r.q hr (by decide)), h1.r.ap, Nat.le_trans h1.r.bs hg.size⟩, h1.bd⟩, h2⟩
/-- The law's state: a log, its disk, the frames so far. -/
structure LwS (base D gL : Nat) (Zs : List FmD) (v : Value) (nw : Nat) (W1 W : World) : Prop where
  lg : Blk W gL 63 (lgC D (stJ Zs).1.length (stJ Zs).2)
  dj : DJ base D (stJ Zs).1 nw W
  row : FrOw W base v Zs.length Zs
  gl : base ≤ gL
  bl : Below base W1 W
theorem LwS.below {base D gL : Nat} {Zs : List FmD} {v : Value} {nw : Nat} {W1 W W' : World} (h : LwS base D gL Zs v nw W1 W) (g : Below W.heap.size W W') : LwS base D gL Zs v nw W1 W' :=
  ⟨h.lg.below g, h.dj.below g, h.row.below g, h.gl, h.bl.trans (g.mono h.dj.bs)⟩
/-- A row of the law, kept apart by its type. -/
theorem KpT.fr {ts : List TypeId} {a b : World} (h : KpT ts a b) {base n : Nat} {v : Value} {l : List FmD} (ho : FrOw a base v n l) (h1 : 36 ∉ ts) : FrOw b base v n l := KpT.own h ho h1
set_option maxRecDepth 100000 in
theorem run_neq_diskp (D : Nat) (W : World) : (binOp .neq 27 (.pointer (some ⟨D, 0, none⟩)) (.pointer (some ⟨D, 0, none⟩))).run Tryz.prog W = .ok (.bool false) W := by
  have hi := infoDisk
  cases hq : Tryz.prog.info? 60 with
  | none => rw [hq] at hi; cases hi
  | some j =>
    have hs : j.size = 5 := by simpa [hq] using hi
    have h9 : ∀ d9 : Nat, (Op.equalIn (d9 + 1) 27 (.pointer (some ⟨D, 0, none⟩)) (.pointer (some ⟨D, 0, none⟩))).run Tryz.prog W = .ok true W := by
      intro d9
      simp [Op.equalIn, run_underlying Tryz.underlying27, sizeOf, typeInfo, hq, hs, sameAddr]
    have h8 : (Op.equal 27 (.pointer (some ⟨D, 0, none⟩)) (.pointer (some ⟨D, 0, none⟩))).run Tryz.prog W = .ok true W := h9 9999
    simp only [binOp]
    simp [h8]
end Go.Proofs.YtemdmdgigmhlbaaGreat
