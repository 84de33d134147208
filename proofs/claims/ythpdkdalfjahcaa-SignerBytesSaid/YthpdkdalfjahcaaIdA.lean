
/- id: order, digits, hexadecimal digits, parsing. -/
import Derived.Test.YthpdkdalfjahcaaTag3
import Derived.Lib.Bytealg
import Derived.Laws.Externs
import Derived.Laws.IdiomStrings
set_option linter.unusedSimpArgs false
set_option linter.unusedVariables false
namespace Go.Proofs.Ythpdkdalfjahcaa
open Go.RowKit Go.Qc
attribute [local go_sem] txt_size txt_append ib_fold

theorem push_arr (acc : Array UInt8) (b : UInt8) (l : List UInt8) : (acc.push b) ++ l.toArray = acc ++ (b :: l).toArray := by
  apply Array.ext'
  simp
theorem run_loadBytes {P : Program} (w : World) (g : Nat) : ∀ (l : List UInt8) (o : Nat) (acc : ByteArray), w.rangeAt g o (l.map u8v) →
    (Extern.Bytes.loadBytes ⟨g, o, none⟩ l.length acc).run P w = .ok ⟨acc.data ++ l.toArray⟩ w
  | [], o, acc, _ => by simp [Extern.Bytes.loadBytes]
  | b :: l, o, acc, h => by
    have h0 : w.cell? ⟨g, o, none⟩ = some (.int .u8 (ib b)) := by
      have := h 0 (u8v b) (by simp)
      rwa [Nat.add_zero] at this
    have hr : w.rangeAt g (o + 1) (l.map u8v) := fun j v hj => by
      rw [show o + 1 + j = o + (j + 1) by omega]
      exact h (j + 1) v (by simpa using hj)
    have ih := run_loadBytes (P := P) w g l (o + 1) (acc.push b) hr
    have hb : (ib b).toNat.toUInt8 = b := by
      unfold ib
      rw [Int.toNat_natCast]
      exact UInt8.ofNat_toNat
    unfold Extern.Bytes.loadBytes
    have hl : (load ⟨g, o, none⟩).run P w = .ok (.int .u8 (ib b)) w := by simp [h0]
    rw [List.length_cons, Sem.run_bind, hl]
    simp only [Result.andThen_ok, hb, Addr.add_lit]
    rw [ih]
    congr 2
    exact push_arr acc.data b l
theorem run_bytealg {P : Program} (w : World) (g h o p n m c d : Nat) (a b : List UInt8) (ha : a.length = n) (hb : b.length = m) (hA : w.rangeAt g o (a.map u8v)) (hB : w.rangeAt h p (b.map u8v)) :
    (Extern.BytealgCompare.compare #[.slice (some ⟨g, o, none⟩) n c, .slice (some ⟨h, p, none⟩) m d]).run P w = .ok (.int .i64 (Lib.compareBytes a b)) w := by
  subst ha hb
  change Sem.run P (do pure (goInt (Extern.BytealgCompare.cmp (← Extern.Bytes.bytesOf (.slice (some ⟨g, o, none⟩) a.length c)) (← Extern.Bytes.bytesOf (.slice (some ⟨h, p, none⟩) b.length d))))) w = _
  simp only [Extern.Bytes.bytesOf, Sem.run_bind, Sem.run_pure, run_loadBytes w g a o _ hA, run_loadBytes w h b p _ hB, Result.andThen_ok]
  rw [Lib.cmp_eq]
  simp
  rfl

/-- The world behind two boxed ids. -/
def two (w : World) (a b : List UInt8) : World := (w.alloc (.cells (idVals a) 24)).alloc (.cells (idVals b) 24)
theorem two_below (w : World) (a b : List UInt8) : Below w.heap.size w (two w a b) := ((Below.refl _ _).alloc (Nat.le_refl _) _).alloc (by simp) _
set_option maxRecDepth 100000 in
theorem bytesCompare_any (w : World) (g h o p n m c d : Nat) (a b : List UInt8) (ha : a.length = n) (hb : b.length = m) (hA : w.rangeAt g o (a.map u8v)) (hB : w.rangeAt h p (b.map u8v)) :
    Calls Try.prog 112 #[.slice (some ⟨g, o, none⟩) n c, .slice (some ⟨h, p, none⟩) m d] w fun e w' => e = .returned (.int .i64 (Lib.compareBytes a b)) ∧ w = w' := by
  have hrun := run_bytealg (P := Try.prog) w g h o p n m c d a b ha hb hA hB
  go_enter Try.func112, Try.ntmps112
  go_wp2
  rw [run_callFunc_extern Try.func140 (by kernel_rfl) (by kernel_rfl) (by kernel_rfl) (e := Extern.BytealgCompare.compare) (by kernel_rfl), hrun]
  simp only [Result.andThen]
  rw [Oper.upon_value]
  go_wp2
  go_ret
  exact ⟨rfl, rfl⟩
set_option maxRecDepth 100000 in
theorem order_any (a b : List UInt8) (ha : a.length = 32) (hb : b.length = 32) (w : World) :
    Calls Try.prog 62 #[.agg (idVals a), .agg (idVals b)] w fun e w' => e = .returned (.int .i64 (Lib.compareBytes a b)) ∧ ∃ q, w' = (two w a b).drewN q := by
  obtain ⟨i0, hi, hz0, hz1, hz2⟩ := info_parts infoByte
  have hA := (Blk.new w 24 (idVals a)).alloc (.cells (idVals b) 24)
  have hB := Blk.new (w.alloc (.cells (idVals a) 24)) 24 (idVals b)
  have hk : (w.alloc (.cells (idVals a) 24)).heap.size = w.heap.size + 1 := by simp
  rw [hk] at hB
  have hs := fun W g => run_slice_whole (P := Try.prog) W 24 5 g 0 32 i0 Try.underlying24 hi hz1 (by decide)
  have HA := hid ha
  have HB := hid hb
  have HRA := hid (range_blk hA)
  have HRB := hid (range_blk hB)
  clear ha hb hA hB hk
  go_enter Try.func62, Try.ntmps62
  go_wp2
  generalize hW : (w.alloc (.cells (idVals a) 24)).alloc (.cells (idVals b) 24) = W at *
  have HW := hid hW
  clear hW
  go_quiet ((go_at_call 112; exact quiet_same_l (bytesCompare_any _ _ _ 0 0 32 32 32 32 a b HA.out HB.out (by exact HRA.out) (by exact HRB.out))))
  go_wp2
  go_ret
  exact ⟨rfl, nq, by unfold two; rw [HW.out]⟩
end Go.Proofs.Ythpdkdalfjahcaa

namespace Go.Proofs.Ythpdkdalfjahcaa
open Go.RowKit Go.Qc
attribute [local go_sem] txt_size txt_append ib_fold ib_inj

def ltB (a b : List UInt8) : Bool := decide (Lib.compareBytes a b < 0)
theorem cmp_refl : ∀ (a : List UInt8), Lib.compareBytes a a = 0
  | [] => rfl
  | x :: a => by rw [Lib.compareBytes, if_neg (UInt8.lt_irrefl x), if_neg (UInt8.lt_irrefl x)]; exact cmp_refl a
theorem cmp_at : ∀ (a b : List UInt8) (k : Nat) (x y : UInt8), a.take k = b.take k → a[k]? = some x → b[k]? = some y → x ≠ y → Lib.compareBytes a b = if x < y then -1 else 1
  | [], _, k, x, y, _, h, _, _ => by simp at h
  | _ :: _, [], k, x, y, _, _, h, _ => by simp at h
  | u :: a, v :: b, 0, x, y, _, hx, hy, hne => by
    simp at hx hy
    subst hx hy
    rw [Lib.compareBytes]
    by_cases h : u < v
    · rw [if_pos h, if_pos h]
    · have h2 : v < u := by
        rcases UInt8.lt_or_lt_of_ne hne with h3 | h3
        · exact absurd h3 h
        · exact h3
      rw [if_neg h, if_neg h, if_pos h2]
  | u :: a, v :: b, k + 1, x, y, ht, hx, hy, hne => by
    simp only [List.take_succ_cons, List.cons.injEq] at ht
    obtain ⟨rfl, ht⟩ := ht
    rw [Lib.compareBytes, if_neg (UInt8.lt_irrefl u), if_neg (UInt8.lt_irrefl u)]
    exact cmp_at a b k x y ht (by simpa using hx) (by simpa using hy) hne
theorem ltB_at (a b : List UInt8) (k : Nat) (x y : UInt8) (ht : a.take k = b.take k) (hx : a[k]? = some x) (hy : b[k]? = some y) (hne : x ≠ y) : ltB a b = decide (ib x < ib y) := by
  rw [ltB, cmp_at a b k x y ht hx hy hne]
  have e : (x < y) ↔ ib x < ib y := by unfold ib; rw [UInt8.lt_iff_toNat_lt]; omega
  by_cases h : x < y
  · rw [if_pos h, decide_eq_true (e.1 h)]; rfl
  · rw [if_neg h, decide_eq_false (fun h2 => h (e.2 h2))]; rfl
theorem ltB_refl (a : List UInt8) : ltB a a = false := by rw [ltB, cmp_refl]; rfl

set_option maxRecDepth 100000 in
theorem rless_any (a b : List UInt8) (ha : a.length = 32) (hb : b.length = 32) (w : World) :
    Calls Try.prog 16 #[.agg (idVals a), .agg (idVals b)] w fun e w' => e = .returned (.bool (ltB a b)) ∧ Below w.heap.size w w' := by
  have hA := (Blk.new w 24 (idVals a)).alloc (.cells (idVals b) 24)
  have hB := Blk.new (w.alloc (.cells (idVals a) 24)) 24 (idVals b)
  have hk : (w.alloc (.cells (idVals a) 24)).heap.size = w.heap.size + 1 := by simp
  rw [hk] at hB
  have hT : Below w.heap.size w ((w.alloc (.cells (idVals a) 24)).alloc (.cells (idVals b) 24)) := two_below w a b
  have HA := hid ha
  have HB := hid hb
  clear ha hb hk
  go_enter Try.func16, Try.ntmps16
  go_wp2
  generalize (w.alloc (.cells (idVals a) 24)).alloc (.cells (idVals b) 24) = W at *
  go_loopw [5] (fun i wr => ∃ k q : Nat, k ≤ 32 ∧ i = .int .i64 k ∧ a.take k = b.take k ∧ wr = W.drewN q) (fun i _ => 32 - (intOf i).toNat)
  case atStart => exact ⟨0, 0, by omega, rfl, rfl, rfl⟩
  case round =>
    obtain ⟨k, q, hk, rfl, ht, rfl⟩ := hrel
    by_cases hlt : k < 32
    · obtain ⟨x, hx⟩ : ∃ x, a[k]? = some x := ⟨_, List.getElem?_eq_getElem (by rw [HA.out]; exact hlt)⟩
      obtain ⟨y, hy⟩ : ∃ y, b[k]? = some y := ⟨_, List.getElem?_eq_getElem (by rw [HB.out]; exact hlt)⟩
      have hca : (W.drewN q).cell? ⟨w.heap.size, k, none⟩ = some (.int .u8 (ib x)) := hA.cell_ (i := k) (u := .int .u8 (ib x)) (by unfold idVals; rw [List.getElem?_toArray, List.getElem?_map, hx]; rfl)
      have hcb : (W.drewN q).cell? ⟨w.heap.size + 1, k, none⟩ = some (.int .u8 (ib y)) := hB.cell_ (i := k) (u := .int .u8 (ib y)) (by unfold idVals; rw [List.getElem?_toArray, List.getElem?_map, hy]; rfl)
      have b0 : (0 : Int) ≤ k := by omega
      have b1 : (k : Int) < 32 := by omega
      have HX := hid hx
      have HY := hid hy
      have HT := hid ht
      clear hx hy ht hA hB
      generalize hV : W.drewN q = V at *
      have HV := hid hV
      clear hV
      by_cases hne : x = y
      · subst hne
        go_wp2
        go_quiet (fail)
        go_wp2
        go_roundw
        case rel => exact ⟨k + 1, q + nq, hlt, by go_num, by rw [take_snoc HX.out, take_snoc HY.out, HT.out], by rw [← HV.out, World.drewN_drewN]⟩
        case measure => simp [intOf]; omega
      · have hbne : (ib x != ib y) = true := by simp only [bne_iff_ne, ne_eq, ib_inj]; exact hne
        go_wp2
        go_quiet (fail)
        go_wp2
        go_quiet (fail)
        go_wp2
        go_ret
        refine ⟨?_, ?_⟩
        · rw [ltB_at a b k x y HT.out HX.out HY.out hne]; rfl
        · rw [← HV.out]; exact below_drewN (below_drewN (below_drewN hT _) _) _
    · obtain rfl : k = 32 := by omega
      rw [List.take_of_length_le (by rw [HA.out]; exact Nat.le_refl _), List.take_of_length_le (by rw [HB.out]; exact Nat.le_refl _)] at ht
      subst ht
      clear hA hB
      generalize hV : W.drewN q = V at *
      have HV := hid hV
      clear hV
      go_wp2
      go_ret
      refine ⟨by rw [ltB_refl]; rfl, ?_⟩
      rw [← HV.out]; exact below_drewN hT _

/-! ### digits -/
def digV (c : UInt8) : Int := if 48 ≤ ib c ∧ ib c ≤ 57 then ib c - 48 else if 97 ≤ ib c ∧ ib c ≤ 102 then ib c - 87 else -1
/-! ### an id's text -/
def hexT : List UInt8 := [48, 49, 50, 51, 52, 53, 54, 55, 56, 57, 97, 98, 99, 100, 101, 102]
def hexD (n : Nat) : UInt8 := hexT.getD n 0
def hexB (a : List UInt8) : List UInt8 := a.flatMap fun x => [hexD (x.toNat / 16), hexD (x.toNat % 16)]
theorem hexB_snoc (a : List UInt8) (x : UInt8) : hexB (a ++ [x]) = hexB a ++ [hexD (x.toNat / 16), hexD (x.toNat % 16)] := by simp [hexB]
theorem hexB_length (a : List UInt8) : (hexB a).length = 2 * a.length := by
  induction a with
  | nil => rfl
  | cons x a ih => rw [hexB, List.flatMap_cons, List.length_append]; simp only [hexB] at ih; rw [ih]; simp; omega
theorem run_index_hex (n : Nat) (h : n < 16) (w : World) : (Instr.index 9 (.string ⟨#[48, 49, 50, 51, 52, 53, 54, 55, 56, 57, 97, 98, 99, 100, 101, 102]⟩) (.int .u8 (n : Int))).run Try.prog w = .ok (.int .u8 (ib (hexD n))) w := by
  have h1 : (0 : Int) ≤ (n : Int) ∧ (n : Int) < 16 := by omega
  have hg : (⟨#[48, 49, 50, 51, 52, 53, 54, 55, 56, 57, 97, 98, 99, 100, 101, 102]⟩ : ByteArray)[n]? = some (hexD n) := by
    match n, h with
    | 0, _ => rfl
    | 1, _ => rfl
    | 2, _ => rfl
    | 3, _ => rfl
    | 4, _ => rfl
    | 5, _ => rfl
    | 6, _ => rfl
    | 7, _ => rfl
    | 8, _ => rfl
    | 9, _ => rfl
    | 10, _ => rfl
    | 11, _ => rfl
    | 12, _ => rfl
    | 13, _ => rfl
    | 14, _ => rfl
    | 15, _ => rfl
  simp [Instr.index, asIntOf, run_underlying Try.underlying9, h1, hg]
  rfl
theorem shr4 (x : UInt8) : ib x / 16 = ((x.toNat / 16 : Nat) : Int) := by unfold ib; omega
theorem and15 (x : UInt8) : bits .and .u8 (ib x) 15 = ((x.toNat % 16 : Nat) : Int) := by
  have h := u8_and_nat x.toNat 15 x.toNat_lt (by decide)
  unfold ib
  rw [show (15 : Int) = ((15 : Nat) : Int) from rfl, h]
  congr 1
  exact Nat.and_two_pow_sub_one_eq_mod x.toNat 4
end Go.Proofs.Ythpdkdalfjahcaa

namespace Go.Proofs.Ythpdkdalfjahcaa
open Go.RowKit Go.Qc
attribute [local go_sem] txt_size txt_append ib_fold ib_i64

theorem hex_cut (n : Nat) (h : n < 16) : (⟨#[48, 49, 50, 51, 52, 53, 54, 55, 56, 57, 97, 98, 99, 100, 101, 102]⟩ : ByteArray).extract n (n + 1) = txt [hexD n] := by
  have e : (⟨#[48, 49, 50, 51, 52, 53, 54, 55, 56, 57, 97, 98, 99, 100, 101, 102]⟩ : ByteArray) = txt hexT := rfl
  rw [e, txt_extract]
  congr 1
  rw [show n + 1 - n = 1 by omega]
  match n, h with
  | 0, _ => rfl
  | 1, _ => rfl
  | 2, _ => rfl
  | 3, _ => rfl
  | 4, _ => rfl
  | 5, _ => rfl
  | 6, _ => rfl
  | 7, _ => rfl
  | 8, _ => rfl
  | 9, _ => rfl
  | 10, _ => rfl
  | 11, _ => rfl
  | 12, _ => rfl
  | 13, _ => rfl
  | 14, _ => rfl
  | 15, _ => rfl
  | n + 16, h => exact absurd h (by omega)
theorem quo16 (x : UInt8) : (ib x).tdiv 16 = ((x.toNat / 16 : Nat) : Int) := by rw [Int.tdiv_eq_ediv_of_nonneg (ib_lo x)]; exact shr4 x
theorem rem16 (x : UInt8) : (ib x).tmod 16 = ((x.toNat % 16 : Nat) : Int) := by rw [Int.tmod_eq_emod_of_nonneg (ib_lo x)]; unfold ib; omega
/-! ### a text's id -/
theorem run_index_txt (l : List UInt8) (n : Nat) (x : UInt8) (hx : l[n]? = some x) (z : Int) (hz : z = n) (w : World) : (Instr.index 9 (.string (txt l)) (.int .i64 z)).run Try.prog w = .ok (.int .u8 (ib x)) w := by
  subst hz
  have hn : n < l.length := (List.getElem?_eq_some_iff.1 hx).1
  have h1 : (0 : Int) ≤ (n : Int) ∧ (n : Int) < ((txt l).size : Nat) := by rw [txt_size]; omega
  have hg : (txt l)[n]? = some x := by
    rw [getElem?_pos (txt l) n (by rw [txt_size]; exact hn)]
    congr 1
    exact txt_get rfl hx _
  simp [Instr.index, asIntOf, run_underlying Try.underlying9, h1, hg]
  rfl
def dig (s : List UInt8) (i : Nat) : Int := digV (s.getD i 0)
theorem dig_lo (c : UInt8) : -1 ≤ digV c := by unfold digV; split; · omega
                                               · split <;> omega
theorem dig_hi (c : UInt8) : digV c < 16 := by unfold digV; split; · omega
                                               · split <;> omega
theorem or16_fin : ∀ a b : Fin 16, bits .or .i64 ((a.val : Int) * 16) (b.val : Int) % 256 = ((a.val * 16 + b.val : Nat) : Int) := by decide +kernel
theorem or16 (X Y : Int) (h1 : 0 ≤ X) (h2 : X < 16) (h3 : 0 ≤ Y) (h4 : Y < 16) : bits .or .i64 (X * 16) Y % 256 = ib (UInt8.ofNat (X.toNat * 16 + Y.toNat)) := by
  have h := or16_fin ⟨X.toNat, by omega⟩ ⟨Y.toNat, by omega⟩
  simp only [Int.toNat_of_nonneg h1, Int.toNat_of_nonneg h3] at h
  rw [h]
  unfold ib
  rw [UInt8.toNat_ofNat']
  omega
theorem add16 (X Y : Int) (h1 : 0 ≤ X) (h2 : X < 16) (h3 : 0 ≤ Y) (h4 : Y < 16) : 16 * X + Y = ib (UInt8.ofNat (X.toNat * 16 + Y.toNat)) := by
  unfold ib
  rw [UInt8.toNat_ofNat']
  omega
def unhexAt (s : List UInt8) (i : Nat) : UInt8 := UInt8.ofNat ((dig s (2 * i)).toNat * 16 + (dig s (2 * i + 1)).toNat)
def unhex (s : List UInt8) : List UInt8 := (List.range 32).map (unhexAt s)
def hexOk (s : List UInt8) : Prop := s.length = 64 ∧ ∀ i, i < 32 → 0 ≤ dig s (2 * i) ∧ 0 ≤ dig s (2 * i + 1)
instance (s : List UInt8) : Decidable (hexOk s) := by unfold hexOk; exact inferInstance
theorem unhex_length (s : List UInt8) : (unhex s).length = 32 := by simp [unhex]
end Go.Proofs.Ythpdkdalfjahcaa

namespace Go.Proofs.Ythpdkdalfjahcaa
open Go.RowKit Go.Qc
attribute [local go_sem] txt_size txt_append ib_fold ib_i64 ib_shr ib_and1

/-! ### Parse of Hex is the id -/
theorem dig_hexD : ∀ n : Fin 16, digV (hexD n.val) = (n.val : Int) := by decide +kernel
theorem hexB_get (a : List UInt8) : ∀ (i : Nat) (x : UInt8), a[i]? = some x → (hexB a)[2 * i]? = some (hexD (x.toNat / 16)) ∧ (hexB a)[2 * i + 1]? = some (hexD (x.toNat % 16)) := by
  induction a with
  | nil => intro i x h; simp at h
  | cons y a ih =>
    intro i x h
    have e : hexB (y :: a) = hexD (y.toNat / 16) :: hexD (y.toNat % 16) :: hexB a := by simp [hexB]
    rw [e]
    cases i with
    | zero => simp at h; subst h; exact ⟨rfl, rfl⟩
    | succ i =>
      rw [show 2 * (i + 1) = 2 * i + 1 + 1 by omega, List.getElem?_cons_succ, List.getElem?_cons_succ, List.getElem?_cons_succ, List.getElem?_cons_succ]
      exact ih i x (by simpa using h)
theorem dig_hexB (a : List UInt8) (i : Nat) (x : UInt8) (h : a[i]? = some x) : dig (hexB a) (2 * i) = (x.toNat / 16 : Nat) ∧ dig (hexB a) (2 * i + 1) = (x.toNat % 16 : Nat) := by
  obtain ⟨h1, h2⟩ := hexB_get a i x h
  have hx := x.toNat_lt
  unfold dig
  rw [List.getD_eq_getElem?_getD, List.getD_eq_getElem?_getD, h1, h2]
  exact ⟨dig_hexD ⟨x.toNat / 16, by omega⟩, dig_hexD ⟨x.toNat % 16, by omega⟩⟩
theorem hexOk_hexB (a : List UInt8) (ha : a.length = 32) : hexOk (hexB a) := by
  refine ⟨by rw [hexB_length, ha], fun i hi => ?_⟩
  obtain ⟨x, hx⟩ : ∃ x, a[i]? = some x := ⟨_, List.getElem?_eq_getElem (by omega)⟩
  obtain ⟨h1, h2⟩ := dig_hexB a i x hx
  rw [h1, h2]
  omega
theorem unhex_hexB (a : List UInt8) (ha : a.length = 32) : unhex (hexB a) = a := by
  apply List.ext_getElem?
  intro i
  by_cases hi : i < 32
  · obtain ⟨x, hx⟩ : ∃ x, a[i]? = some x := ⟨_, List.getElem?_eq_getElem (by omega)⟩
    obtain ⟨h1, h2⟩ := dig_hexB a i x hx
    rw [unhex, List.getElem?_map, List.getElem?_range hi, hx, Option.map_some, unhexAt, h1, h2]
    congr 1
    have : (((x.toNat / 16 : Nat) : Int)).toNat * 16 + (((x.toNat % 16 : Nat) : Int)).toNat = x.toNat := by omega
    rw [this]
    exact UInt8.ofNat_toNat
  · rw [List.getElem?_eq_none (by rw [unhex_length]; omega), List.getElem?_eq_none (by omega)]

/-! ### Bytes -/
theorem below_drew2 {B : Nat} {a w : World} (h : Below B a w) : Below B a w.drew := ⟨h.os, h.tape, h.output, h.size, h.block⟩
set_option maxRecDepth 100000 in
set_option maxHeartbeats 4000000 in
theorem idBytes_ok (s : List UInt8) (hs : s.length = 32) (w : World) :
    Calls Try.prog 114 #[.string (txt s)] w fun e w' => e = .returned (.tuple #[.agg (idVals s), .int .i64 0]) ∧ Below w.heap.size w w' := by
  have hl2 : (((s.length : Nat) : Int) != 32) = false := by rw [hs]; rfl
  have hza : (Try.prog.info? 24).map (·.size) = some (s.map u8v).length := by rw [List.length_map, hs]; exact sizeId
  have hu := Try.underlying24
  have hsz : (txt s).size = 32 := by rw [txt_size]; exact hs
  have hconv := fun W => run_bytes_of_string (P := Try.prog) W 9 34 5 (txt s) Try.underlying9 Try.underlying34 Try.underlying5
  have hR0 := Blk.new w 24 (idVals zeroB)
  have hB0 : Below w.heap.size w (w.alloc (.cells (idVals zeroB) 24)) := (Below.refl _ _).alloc (Nat.le_refl _) _
  have hk0 : (w.alloc (.cells (idVals zeroB) 24)).heap.size = w.heap.size + 1 := by simp
  rw [zeroB_vals] at hR0 hB0 hk0
  rw [hsz] at hconv
  have harr : ∀ W A c, (Instr.arrayAt 24 (.slice A 32 c)).run Try.prog W = .ok (.pointer A) W := fun W A c => by
    simp [Instr.arrayAt, run_underlying hu]
  have hRg : ∀ (W : World) (c : Nat) (f : Nat × Nat), (W.alloc (Obj.cells (bytesRow (txt s) c) 5 f)).rangeAt W.heap.size 0 (s.map u8v) := fun W c f j v hv => by
    rw [Nat.zero_add, cell_of_row _ _ j _ 5 f (heap_alloc_new W _)]
    have hj : j < s.length := by have := (List.getElem?_eq_some_iff.1 hv).1; rwa [List.length_map] at this
    rw [bytesRow_at (txt s) c j (by simpa [txt] using hj)]
    rw [List.getElem?_map, List.getElem?_eq_getElem hj] at hv
    rw [← hv]
    simp [txt, u8v, ib]
  have HS := hid hs
  have HR0 := hid hR0
  have HB0 := hid hB0
  have HK0 := hid hk0
  clear hs hsz hR0 hB0 hk0
  have HRG := hid hRg
  clear hRg
  go_enter Try.func114, Try.ntmps114
  go_wp2_with (first
    | (with_reducible refine wpList_load_if (by with_unfolding_all rfl) 24 _ rfl (w.heap.size + 1) 0 rfl (s.map u8v) _ (by with_unfolding_all (rw [← HK0.out]; exact HRG.out _ _ _)) hu (by with_unfolding_all rfl) hza ?_)
    | (with_reducible refine wpList_store_blk rfl 24 _ _ rfl w.heap.size _ _ 24 (by with_unfolding_all exact HR0.out.alloc _) rfl rfl ?c2 ?c3 ?c4 ?_))
  case c2 => rw [List.size_toArray]; exact hza
  case c3 => exact (show (List.map u8v s).toArray.size = 32 by simp [HS.out]).symm
  case c4 => exact idVals_one s
  intro w7 hb7 hg7
  have hB7 : Below w.heap.size w w7 := Below.grown (below_drew2 (HB0.out.alloc HB0.out.size _)) hg7 (below_drew2 (HB0.out.alloc HB0.out.size _)).size (by intro i e; cases e; exact Nat.le_refl _)
  go_wp2
  refine bodyPost_ret (results_cellt rfl _ _ _ _ _ _ rfl hb7 Try.underlying24 rfl (by rw [List.size_toArray]; exact hza)) rfl ⟨rfl, hB7⟩
set_option maxRecDepth 100000 in
theorem idBytes_no (s : List UInt8) (hl : ¬ s.length = 32) (w : World) :
    Calls Try.prog 114 #[.string (txt s)] w fun e w' => e = .returned (.tuple #[.agg (idVals zeroB), .int .i64 3]) ∧ Below w.heap.size w w' := by
  have hl2 : (((s.length : Nat) : Int) != 32) = true := by simp only [bne_iff_ne, ne_eq]; omega
  clear hl
  go_enter Try.func114, Try.ntmps114
  go_wp2_with (with_reducible refine wpList_store_blk rfl 24 _ _ rfl w.heap.size _ _ 24 (Blk.new _ _ _) rfl rfl ?c2 ?c3 ?c4 ?_)
  case c2 => exact sizeId
  case c3 => rfl
  case c4 => rw [← zeroB_vals]; exact idVals_one _
  intro w7 hb7 hg7
  have hB7 := below_new hg7
  go_wp2
  refine bodyPost_ret (results_cellt rfl _ _ _ _ _ _ rfl hb7 Try.underlying24 rfl sizeId) rfl ⟨?_, hB7⟩
  rw [zeroB_vals]; rfl

/-! ### Bit -/
set_option maxRecDepth 100000 in
theorem idBit_any (a : List UInt8) (ha : a.length = 32) (i : Nat) (hi : i / 8 < (txt a).size) (w : World) :
    Calls Try.prog 147 #[.agg (idVals a), .int .i64 i] w fun e w' => e = .returned (.int .i64 (ib (bitAt (txt a) i hi))) ∧ Below w.heap.size w w' := by
  have hi2 : i / 8 < 32 := by rw [txt_size, ha] at hi; exact hi
  obtain ⟨x, hx⟩ : ∃ x, a[i / 8]? = some x := ⟨_, List.getElem?_eq_getElem (by rw [ha]; exact hi2)⟩
  have hb : bitAt (txt a) i hi = bit0 (shrB x (7 - i % 8)) := by unfold bitAt; rw [txt_get rfl hx hi]
  rw [hb]
  have hI := Blk.new w 24 (idVals a)
  have hB0 : Below w.heap.size w (w.alloc (.cells (idVals a) 24)) := (Below.refl _ _).alloc (Nat.le_refl _) _
  have hcell := hI.cell_ (i := i / 8) (u := .int .u8 (ib x)) (by unfold idVals; rw [List.getElem?_toArray, List.getElem?_map, hx]; rfl)
  have h0 : (0 : Int) ≤ i := by omega
  have h1 : (i : Int) < 256 := by omega
  have h2 : (0 : Int) ≤ (i : Int) / 8 := by omega
  have e1 : ((i : Int) / 8).toNat = i / 8 := by omega
  have e2 : (7 - (i : Int) % 8).toNat = 7 - i % 8 := by omega
  have h3 : (0 : Int) ≤ 7 - (i : Int) % 8 := by omega
  have h4 : 7 - (i : Int) % 8 ≤ 7 := by omega
  clear hi hb hx hI
  go_enter Try.func147, Try.ntmps147
  go_wp2_with (fail)
  generalize w.alloc (.cells (idVals a) 24) = w0 at *
  go_wp2
  all_goals (go_ret; exact ⟨rfl, hB0⟩)
theorem idBit_no (a : List UInt8) (i : Int) (hi : i < 0 ∨ 255 < i) (w : World) :
    Calls Try.prog 147 #[.agg (idVals a), .int .i64 i] w fun e w' => e = .returned (.int .i64 0) ∧ Below w.heap.size w w' := by
  have hB0 : Below w.heap.size w (w.alloc (.cells (idVals a) 24)) := (Below.refl _ _).alloc (Nat.le_refl _) _
  rcases hi with hi | hi
  · go_enter Try.func147, Try.ntmps147
    go_wp2
    go_ret
    exact ⟨rfl, hB0⟩
  · have h2 : ¬ i < 0 := by omega
    have h3 : (256 : Int) ≤ i := by omega
    go_enter Try.func147, Try.ntmps147
    go_wp2
    go_ret
    exact ⟨rfl, hB0⟩
end Go.Proofs.Ythpdkdalfjahcaa
