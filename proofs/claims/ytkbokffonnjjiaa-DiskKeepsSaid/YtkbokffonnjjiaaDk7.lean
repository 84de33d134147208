
/- disk: Write. -/
import Derived.Test.YtkbokffonnjjiaaDk6
set_option linter.unusedSimpArgs false
set_option linter.unusedVariables false
namespace Go.Proofs.Ytkbokffonnjjiaa
open Go.RowKit Go.Qc Go.Shelf
attribute [local go_sem] txt_size txt_append ib_fold
/-- What waits behind a write. -/
def addW (s t : List UInt8) (ws : List WrD) : List WrD := if t = [] then ws else ws ++ [⟨s.length, t⟩]
/-- What Write answers. -/
def WriteQ (base D : Nat) (kv : Value) (k s t : List UInt8) (ws : List WrD) (W : World) (e : Ending) (w' : World) : Prop :=
  e = .returned (.int .i64 0) ∧ ∃ sv' wv', DkS base D kv sv' wv' k (s ++ t) (addW s t ws) false w' ∧ Below base W w'
theorem dwrite_any (base D : Nat) (kv sv wv : Value) (k s : List UInt8) (ws : List WrD) (hs : s.length ≤ 2000000) (hws : ws.length + 1 ≤ 1000) (t : List UInt8) (htl : t.length ≤ 1000) (W : World) (h : DkS base D kv sv wv k s ws false W) :
    Calls Try.prog 73 #[.pointer (some ⟨D, 0, none⟩), .agg #[.int .i64 (s.length : Int), .string (txt t)]] W (WriteQ base D kv k s t ws W) := by
  by_cases ht : t = []
  · subst ht
    refine (dwrite_nil base D kv sv wv k s ws hs W h).mono ?_
    rintro e w' ⟨rfl, hb⟩
    exact ⟨rfl, sv, wv, by rw [List.append_nil]; unfold addW; rw [if_pos rfl]; exact h.below hb, hb.mono h.r.bs⟩
  · refine (dwrite_some base D kv sv wv k s ws hs hws t ht htl W h).mono ?_
    rintro e w' ⟨rfl, sv', wv', h1, h2⟩
    exact ⟨rfl, sv', wv', by unfold addW; rw [if_neg ht]; exact h1, h2⟩
set_option maxRecDepth 100000 in
set_option maxHeartbeats 8000000 in
theorem dpowW_any (base D : Nat) (kv sv wv : Value) (k s : List UInt8) (ws : List WrD) (hs : s.length ≤ 2000000) (hws : ws.length + 1 ≤ 1000) (t : List UInt8) (htl : t.length ≤ 1000) (W : World) (h : DkS base D kv sv wv k s ws false W) :
    Calls Try.prog 72 #[.pointer (some ⟨D, 0, none⟩), .func (.func 73) #[.pointer (some ⟨D, 0, none⟩)] #[], .agg #[.int .i64 (s.length : Int), .string (txt t)]] W (WriteQ base D kv k s t ws W) := by
  have hb1 := (Below.refl W.heap.size W).alloc (Nat.le_refl _) (.cells #[.int .i64 (s.length : Int), .string (txt t)] 114)
  have h1 := h.below hb1
  have hx1 := Blk.new W 114 #[.int .i64 (s.length : Int), .string (txt t)]
  have cW := dwrite_any base D kv sv wv k s ws hs hws t htl _ h1
  have HB := hid (hb1.mono h.r.bs)
  have f0 := hx1.cell_ (i := 0) rfl
  have f1 := hx1.cell_ (i := 1) rfl
  have f4 := h1.x.cell_ (i := 4) rfl
  clear h h1 hx1 hs hws htl hb1
  go_enter Try.func72, Try.ntmps72
  go_wp2_with (go_at_call 73; (with_reducible refine cW.mono ?_); rintro e3 w3 ⟨rfl, sv', wv', hs3, hb3⟩)
  go_ret
  exact ⟨rfl, sv', wv', hs3, HB.out.trans hb3⟩
set_option maxRecDepth 100000 in
set_option maxHeartbeats 8000000 in
theorem dWrite_any (base D : Nat) (kv sv wv : Value) (k s : List UInt8) (ws : List WrD) (hs : s.length ≤ 2000000) (hws : ws.length + 1 ≤ 1000) (t : List UInt8) (htl : t.length ≤ 1000) (W : World) (h : DkS base D kv sv wv k s ws false W) :
    Calls Try.prog 26 #[.pointer (some ⟨D, 0, none⟩), .int .i64 (s.length : Int), .string (txt t)] W (WriteQ base D kv k s t ws W) := by
  have cW := dpowW_any base D kv sv wv k s ws hs hws t htl W h
  clear h hs hws htl
  go_enter Try.func26, Try.ntmps26
  go_wp2_with (go_at_call 72; (with_reducible refine cW.mono ?_); rintro e3 w3 ⟨rfl, sv', wv', hs3, hb3⟩)
  go_ret
  exact ⟨rfl, sv', wv', hs3, hb3⟩
/-- All that waits, put in. -/
def applyW (k : List UInt8) (ws : List WrD) : List UInt8 := ws.foldl (fun k x => putL k x.p x.t) k
theorem applyW_step {k : List UInt8} {ws : List WrD} {i : Nat} {x : WrD} (h : ws[i]? = some x) : applyW k (ws.take (i + 1)) = putL (applyW k (ws.take i)) x.p x.t := by
  unfold applyW
  rw [List.take_add_one, h, List.foldl_append]
  rfl
theorem applyW_all (k : List UInt8) (ws : List WrD) : applyW k (ws.take ws.length) = applyW k ws := by rw [List.take_length]
theorem applyW_len {k : List UInt8} {ws : List WrD} (hk : k.length ≤ 10000000) (hw : ∀ x ∈ ws, x.p + x.t.length ≤ 10000000) : ∀ i, (applyW k (ws.take i)).length ≤ 10000000
  | 0 => by rw [List.take_zero]; exact hk
  | i + 1 => by
    have h0 := applyW_len hk hw i
    cases hx : ws[i]? with
    | none =>
      have : ws.length ≤ i := List.getElem?_eq_none_iff.1 hx
      rw [List.take_of_length_le (by omega)] at h0 ⊢
      exact h0
    | some x =>
      rw [applyW_step hx, putL_length]
      have := hw x (List.mem_of_getElem? hx)
      split
      · exact h0
      · omega
end Go.Proofs.Ytkbokffonnjjiaa
