
/- id.Sort: the document's row; THE LAW IdRows. -/
import Derived.Test.YtbdlpdajdlpncaaId13
import Derived.Test.YtbdlpdajdlpncaaId16
import Derived.Shelf.SlLaysF0
import Derived.Shelf.SlSortCmp.WholeK
set_option linter.unusedVariables false
set_option linter.unusedSimpArgs false
namespace Go.Proofs.Ytbdlpdajdlpncaa
open Go.RowKit Go.Qc Go.Sort Go.Lib Go.Shelf
attribute [local go_sem] txt_size
def srt_ren : Go.Shelf.Ren := ⟨fun | 6 => 35 | 15 => 77 | 14 => 76 | 28 => 134 | 29 => 135 | 20 => 126 | 21 => 127 | 22 => 128 | 23 => 129 | 24 => 130 | 25 => 131 | 26 => 132 | 27 => 133 | 46 => 168 | 47 => 169 | 48 => 170 | 49 => 171 | 50 => 172 | 57 => 200 | n => n, fun | 22 => 22 | 24 => 24 | 25 => 65 | 3 => 3 | 39 => 116 | 0 => 0 | 53 => 172 | 55 => 134 | 4 => 4 | 46 => 166 | 45 => 165 | 50 => 67 | 5 => 5 | 9 => 9 | 66 => 204 | 70 => 208 | 76 => 233 | 77 => 234 | n => n, fun | n => n⟩
theorem srt : Go.Proofs.SlLaysF0.n6 Try.prog srt_ren := {
  mixed := by kernel_rfl
  f6 := ⟨Try.f35.name, by decide, Try.func35.trans (congrArg some (by kernel_rfl))⟩
  f14 := ⟨Try.f76.name, by decide, Try.func76.trans (congrArg some (by kernel_rfl))⟩
  f15 := Try.func77.trans (congrArg some (by kernel_rfl))
  f20 := ⟨Try.f126.name, by decide, Try.func126.trans (congrArg some (by kernel_rfl))⟩
  f21 := ⟨Try.f127.name, by decide, Try.func127.trans (congrArg some (by kernel_rfl))⟩
  f22 := ⟨Try.f128.name, by decide, Try.func128.trans (congrArg some (by kernel_rfl))⟩
  f23 := ⟨Try.f129.name, by decide, Try.func129.trans (congrArg some (by kernel_rfl))⟩
  f24 := ⟨Try.f130.name, by decide, Try.func130.trans (congrArg some (by kernel_rfl))⟩
  f25 := ⟨Try.f131.name, by decide, Try.func131.trans (congrArg some (by kernel_rfl))⟩
  f26 := ⟨Try.f132.name, by decide, Try.func132.trans (congrArg some (by kernel_rfl))⟩
  f27 := ⟨Try.f133.name, by decide, Try.func133.trans (congrArg some (by kernel_rfl))⟩
  f28 := Try.func134.trans (congrArg some (by kernel_rfl))
  f29 := Try.func135.trans (congrArg some (by kernel_rfl))
  f46 := ⟨Try.f168.name, by decide, Try.func168.trans (congrArg some (by kernel_rfl))⟩
  f47 := Try.func169.trans (congrArg some (by kernel_rfl))
  f48 := Try.func170.trans (congrArg some (by kernel_rfl))
  f49 := ⟨Try.f171.name, by decide, Try.func171.trans (congrArg some (by kernel_rfl))⟩
  f50 := ⟨Try.f172.name, by decide, Try.func172.trans (congrArg some (by kernel_rfl))⟩
  f57 := ⟨Try.f200.name, by decide, Try.func200.trans (congrArg some (by kernel_rfl))⟩
  t0 := Try.underlying0
  a0 := Try.isAgg0
  z0 := Try.sizeOf0
  v0 := Try.zeroValue0
  t3 := Try.underlying3
  a3 := Try.isAgg3
  z3 := Try.sizeOf3
  v3 := Try.zeroValue3
  t4 := Try.underlying4
  a4 := Try.isAgg4
  z4 := Try.sizeOf4
  v4 := Try.zeroValue4
  t5 := Try.underlying5
  a5 := Try.isAgg5
  z5 := Try.sizeOf5
  v5 := Try.zeroValue5
  t9 := Try.underlying9
  a9 := Try.isAgg9
  z9 := Try.sizeOf9
  v9 := Try.zeroValue9
  t22 := Try.underlying22
  a22 := Try.isAgg22
  z22 := Try.sizeOf22
  v22 := Try.zeroValue22
  t25 := Try.underlying65
  a25 := Try.isAgg65
  z25 := Try.sizeOf65
  v25 := Try.zeroValue65
  t39 := Try.underlying116
  a39 := Try.isAgg116
  z39 := Try.sizeOf116
  v39 := Try.zeroValue116
  t45 := Try.underlying165
  a45 := Try.isAgg165
  z45 := Try.sizeOf165
  v45 := Try.zeroValue165
  t46 := Try.underlying166
  a46 := Try.isAgg166
  z46 := Try.sizeOf166
  v46 := Try.zeroValue166
  t50 := Try.underlying67
  a50 := Try.isAgg67
  z50 := Try.sizeOf67
  v50 := Try.zeroValue67
  t53 := Try.underlying172
  a53 := Try.isAgg172
  z53 := Try.sizeOf172
  v53 := Try.zeroValue172
  t55 := Try.underlying134
  a55 := Try.isAgg134
  z55 := Try.sizeOf134
  v55 := Try.zeroValue134
  t66 := Try.underlying204
  a66 := Try.isAgg204
  z66 := Try.sizeOf204
  v66 := Try.zeroValue204
  t70 := Try.underlying208
  a70 := Try.isAgg208
  z70 := Try.sizeOf208
  v70 := Try.zeroValue208
  t76 := Try.underlying233
  a76 := Try.isAgg233
  z76 := Try.sizeOf233
  v76 := Try.zeroValue233
  t77 := Try.underlying234
  a77 := Try.isAgg234
  z77 := Try.sizeOf234
  v77 := Try.zeroValue234 }
theorem cmpT (g c size : Nat) (w : World) : CmpLays Try.prog 36 #[] encT 32 cfT g 0 size w :=
  fun _ _ _ _ x y => order_grow x.1 y.1 x.2 y.2 _
set_option maxHeartbeats 4000000 in
theorem sort_row (g c : Nat) (d : Array IdT) (w : World) (hR : RowG g c d w) (hn9 : d.size ≤ 1000000) :
    Calls Try.prog 35 #[.slice (some ⟨g, 0, none⟩) d.size c, .func (.func 36) #[] #[]] w fun e w' =>
      e = .returned (.tuple #[]) ∧ ∃ d' : Array IdT, d'.size = d.size ∧ SortedIn (ltOf cfT) 0 d'.size d' ∧ (∀ x, x ∈ valsT d' ↔ x ∈ valsT d) ∧ RowG g c d' w' ∧ w.grownBy w' (some g) := by
  have eg : ∀ args w, (callFunc 36 args).run Try.prog w = .ok (.enter 36 args) w := enters_of Try.func36 (by kernel_rfl) rfl
  have h := AnyQ.slices_SortFunc srt 32 Try.isAgg24 Try.sizeOf24 encT encT_len encT_one cfT swoT 36 #[] g 0 c d w eg (cmpT g c d.size w) hR.holds hR.lt (by omega)
  change Calls Try.prog 35 _ _ _ at h
  refine h.mono ?_
  rintro e w' ⟨rfl, d', n, os, hp, hs, rfl⟩
  obtain ⟨h1, h2⟩ := hR.sorted hp.1 n os
  exact ⟨rfl, d', hp.1, by rw [hp.1]; exact hs, perm_mem hp, h1, h2⟩
set_option maxHeartbeats 2000000 in
theorem ins_none (w : World) (fv : Value) : Calls Try.prog 126 #[.slice none 0 0, .int .i64 0, .int .i64 0, fv] w fun e w' => e = .returned (.tuple #[]) ∧ w' = w := by
  go_enter Try.func126, Try.ntmps126
  go_wp2
  refine wp_loop_rounds 1 ?_
  rw [rounds_succ]
  go_wp2
  go_end0
  exact ⟨rfl, rfl⟩
set_option maxHeartbeats 2000000 in
theorem pdq_none (w : World) (lim : Int) (fv : Value) : Calls Try.prog 76 #[.slice none 0 0, .int .i64 0, .int .i64 0, .int .i64 lim, fv] w fun e w' => e = .returned (.tuple #[]) ∧ w' = w := by
  have hi := fun W => ins_none W fv
  go_enter Try.func76, Try.ntmps76
  go_wp2
  refine wp_loop_rounds 1 ?_
  rw [rounds_succ]
  go_wp2_with (go_at_call 126; refine (hi _).mono ?_; rintro e w' ⟨rfl, rfl⟩)
  (try simp only [Exit.inBlock, Exit.then]); refine bodyPost_ret (results_none rfl _ _ _) rfl ?_
  exact ⟨rfl, rfl⟩
set_option maxHeartbeats 2000000 in
theorem sort_none (w : World) (fv : Value) : Calls Try.prog 35 #[.slice none 0 0, fv] w fun e w' => e = .returned (.tuple #[]) ∧ w' = w := by
  have hp := fun lim W => pdq_none W lim fv
  have hl : ∀ W, Calls Try.prog 77 #[.int .u64 0] W fun e w' => e = .returned (.int .i64 (Lib.bitLen 0 : Nat)) ∧ w' = W := fun W =>
    Any.bits_Len (SlLaysF0.n15.bits (P := Try.prog) (ρ := srt_ren) { srt with }) 0 W (by omega) (by omega)
  go_enter Try.func35, Try.ntmps35
  go_wp2_with (first | (go_at_call 77; refine (hl _).mono ?_; rintro e w' ⟨rfl, rfl⟩) | (go_at_call 76; refine (hp _ _).mono ?_; rintro e w' ⟨rfl, rfl⟩))
  go_end0
  exact ⟨rfl, rfl⟩
theorem compact_none (w : World) : Calls Try.prog 37 #[.slice none 0 0] w fun e w' => e = .returned (.slice none 0 0) ∧ w' = w := by
  go_enter Try.func37, Try.ntmps37
  go_wp2
  go_ret
  exact ⟨rfl, rfl⟩
set_option maxRecDepth 100000 in
set_option maxHeartbeats 4000000 in
theorem sort_any (A : Option Addr) (n c : Nat) (l : List (List UInt8)) (w : World) (hA : RowR w A n l) :
    Calls Try.prog 9 #[.slice A n c] w fun e w' => ∃ A2 n2 c2, e = .returned (.slice A2 n2 c2) ∧ RowR w' A2 n2 (sortL l) ∧ Below w.heap.size w w' := by
  have hC := clone_any A n c l w hA
  have h32 := hA.2.2.1
  have hn9 := hA.2.1
  clear hA
  go_enter Try.func9, Try.ntmps9
  go_upto_region 2 with (go_at_call 34; (with_reducible refine hC.mono ?_); rintro e1 w1 ⟨v, rfl, hown, hb1⟩)
  obtain ⟨A1, c1, rfl, hl1, hrd1⟩ := IdRd.own hown h32
  rcases RowG.own hown h32 with ⟨rfl, rfl, rfl, rfl⟩ | ⟨g, d, rfl, hg, hds, hv, hR⟩
  · clear hown hrd1 hC
    go_wp2_with (first
      | (go_at_call 35; (with_reducible refine (sort_none _ _).mono ?_); rintro e2 w2 ⟨rfl, rfl⟩)
      | (go_at_call 37; (with_reducible refine (compact_none _).mono ?_); rintro e3 w3 ⟨rfl, rfl⟩))
    go_ret
    exact ⟨none, 0, 0, rfl, ⟨rfl, by decide, IdRd.nil_ _ _⟩, hb1⟩
  · subst hds
    have hS := sort_row g c1 d w1 hR hn9
    have hK : ∀ (d' : Array IdT) (W : World), d'.size = d.size → RowG g c1 d' W → Calls Try.prog 37 #[.slice (some ⟨g, 0, none⟩) d.size c1] W fun e w' => ∃ m, e = .returned (.slice (some ⟨g, 0, none⟩) m c1) ∧ RowR w' (some ⟨g, 0, none⟩) m (keptT d' d'.size) ∧ W.grownBy w' (some g) := fun d' W h1 h2 => by
      have := compact_any g c1 d' (by rw [h1]; exact hn9) W h2
      rw [h1] at this ⊢
      exact this
    clear hown hrd1 hC hR
    go_wp2_with (first
      | (go_at_call 35; (with_reducible refine hS.mono ?_); rintro e2 w2 ⟨rfl, d2, hs2, hso, hmem, hR2, hg2⟩)
      | (go_at_call 37; (with_reducible refine (hK d2 _ hs2 hR2).mono ?_); rintro e3 w3 ⟨m, rfl, hrow, hg3⟩))
    go_ret
    rw [compact_sort hso (fun x => (hmem x).trans (by rw [hv]))] at hrow
    exact ⟨_, _, _, rfl, hrow, hb1.grown (gb_trans hg2 hg3) hb1.size (by intro i e; cases e; exact hg)⟩
theorem idRows_any (A : Option Addr) (n c : Nat) (l : List (List UInt8)) (a : List UInt8) (ha : a.length = 32) (hn40 : n ≤ 40) (w : World) (hA : RowR w A n l) :
    Calls Try.prog 3 #[.slice A n c, .agg (idVals a)] w fun e w' => e = .returned (.bool true) ∧ Below w.heap.size w w' :=
  idRows_gen A n c l a ha hn40 w hA (fun W hb => sort_any A n c l W (hA.below hb))
end Go.Proofs.Ytbdlpdajdlpncaa
