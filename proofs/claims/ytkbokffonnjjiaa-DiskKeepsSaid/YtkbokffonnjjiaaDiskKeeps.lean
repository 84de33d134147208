
/- Proved: for any text, any row of texts, any mask and any count quitclaimlaw24.DiskKeeps returns true and leaves its arguments as they were. No conditions. -/
import Derived.Test.YtkbokffonnjjiaaDk10
set_option linter.unusedSimpArgs false
set_option linter.unusedVariables false
namespace Go.Proofs.Ytkbokffonnjjiaa
open Go.RowKit Go.Qc Go.Shelf
attribute [local go_sem] txt_size txt_append ib_fold
/-- What waits, behind so many writes. -/
structure InvW (a cur : List UInt8) (ws : List WrD) (i : Nat) : Prop where
  l : ws.length ≤ i
  c : cur.length ≤ 200 + 200 * i
  w : ∀ x ∈ ws, a.length ≤ x.p ∧ x.p + x.t.length ≤ 200 + 200 * i
  a : a.length ≤ cur.length
theorem InvW.next {a cur p : List UInt8} {ws : List WrD} {i : Nat} (h : InvW a cur ws i) (hp : p.length ≤ 200) : InvW a (cur ++ p) (addW cur p ws) (i + 1) := by
  have h1 := h.l
  have h2 := h.c
  have h4 := h.a
  refine ⟨?_, by rw [List.length_append]; omega, ?_, by rw [List.length_append]; omega⟩
  · unfold addW
    split
    · omega
    · rw [List.length_append]; simp; omega
  · intro x hx
    unfold addW at hx
    split at hx
    · have := h.w x hx; omega
    · rcases List.mem_append.1 hx with h5 | h5
      · have := h.w x h5; omega
      · rw [List.mem_singleton.1 h5]
        show a.length ≤ cur.length ∧ cur.length + p.length ≤ _
        omega
theorem addW_first (a : List UInt8) (ha : a.length ≤ 200) : (∀ x ∈ addW [] a [], x.p + x.t.length ≤ 10000000) ∧ (addW [] a []).length ≤ 1000 ∧ applyW [] (addW [] a []) = a := by
  unfold addW
  split
  · next h => subst h; exact ⟨by simp, by simp, rfl⟩
  · refine ⟨fun x hx => ?_, by simp, ?_⟩
    · rw [List.mem_singleton.1 hx]
      show 0 + a.length ≤ _
      omega
    · show putL [] ([] : List UInt8).length a = a
      rw [putL_end]; rfl
theorem txt_data (s : ByteArray) : txt s.data.toList = s := by
  apply ByteArray.ext
  simp [txt]
set_option maxRecDepth 100000 in
set_option maxHeartbeats 16000000 in
theorem dk_far1 (a : List UInt8) (A : Option Addr) (n c : Nat) (m cnt : Int) (w : World) (h : 200 < a.length) :
    Calls Try.prog 6 #[.string (txt a), .slice A n c, .int .u64 m, .int .i64 cnt] w fun e w' => e = .returned (.bool true) ∧ Below w.heap.size w w' := by
  have z1 : (200 : Int) < a.length := by omega
  skip
  go_enter Try.func6, Try.ntmps6
  go_wp2_with (go_at_call 24; (with_reducible refine (awake24_any _).mono ?_); rintro e9 w9 ⟨rfl, hb9⟩)
  go_ret
  exact ⟨rfl, hb9⟩
set_option maxRecDepth 100000 in
set_option maxHeartbeats 16000000 in
theorem dk_far2 (a : List UInt8) (A : Option Addr) (n c : Nat) (m cnt : Int) (w : World) (h0 : ¬ 200 < a.length) (h : 80 < n) :
    Calls Try.prog 6 #[.string (txt a), .slice A n c, .int .u64 m, .int .i64 cnt] w fun e w' => e = .returned (.bool true) ∧ Below w.heap.size w w' := by
  have z0 : ¬ (200 : Int) < a.length := by omega
  have z1 : (80 : Int) < n := by omega
  go_enter Try.func6, Try.ntmps6
  go_wp2_with (go_at_call 24; (with_reducible refine (awake24_any _).mono ?_); rintro e9 w9 ⟨rfl, hb9⟩)
  go_ret
  exact ⟨rfl, hb9⟩
set_option maxRecDepth 100000 in
set_option maxHeartbeats 16000000 in
theorem dk_near (a : List UInt8) (A : Option Addr) (n c : Nat) (m cnt : Int) (w : World) (zs : List (List UInt8)) (ha : ¬ 200 < a.length) (hn : ¬ 80 < n) (hz : zs.length = n) (hr : Rd w A (zs.map strV)) :
    Calls Try.prog 6 #[.string (txt a), .slice A n c, .int .u64 m, .int .i64 cnt] w fun e w' => e = .returned (.bool true) ∧ Below w.heap.size w w' := by
  have z0 : ¬ (200 : Int) < a.length := by omega
  have z1 : ¬ (80 : Int) < n := by omega
  have c1 := dnew_any w
  have HA := hid (show a.length ≤ 200 from by omega)
  have HN := hid (show n ≤ 80 from by omega)
  have HZ := hid hz
  have HAD := hid (addW_first a HA.out)
  clear ha hn hz
  go_enter Try.func6, Try.ntmps6
  go_upto_region 4 with (go_at_call 25; (with_reducible refine c1.mono ?_); rintro e1 w1 ⟨D, rfl, h1, hb1⟩)
  have HB1 := hid hb1
  have HR := hid hr
  have HBD := hid h1.bd
  obtain ⟨base, hbs⟩ : ∃ b, w.heap.size = b := ⟨_, rfl⟩
  have HBS := hid hbs
  rw [hbs] at h1 HB1 HBD
  have c2 : Calls Try.prog 26 #[.pointer (some ⟨D, 0, none⟩), .int .i64 0, .string (txt a)] w1 (WriteQ base D (.slice none 0 0) [] [] a [] w1) := dWrite_any base D _ _ _ [] [] [] (by decide) (by decide) a (by have := HA.out; omega) w1 h1
  clear h1 hb1 c1 hr hbs z0 z1
  go_upto_region 6 with (first
    | (go_at_call 26; (with_reducible refine c2.mono ?_); rintro e2 w2 ⟨rfl, sv2, wv2, h2, hb2⟩; have HB2 := hid (HB1.out.trans hb2); have c3 := dsync_any base D _ _ _ [] a _ (by have := HA.out; omega) (by decide) HAD.out.1 HAD.out.2.1 HAD.out.2.2 w2 h2; clear c2 h2 hb2)
    | (go_at_call 27; (with_reducible refine c3.mono ?_); rintro e3 w3 ⟨rfl, kv3, h3, hb3⟩; have HB3 := hid (HB2.out.trans hb3)))
  have HS := hid h3
  have HI : Hid (InvW a a [] 0) := hid ⟨Nat.le_refl _, by have := HA.out; omega, by simp, Nat.le_refl _⟩
  clear c3 hb3 h3 HB1 HB2
  go_wp2_with (fail)
  go_loopw [38] (fun v wr => ∃ (i : Nat) (cur : List UInt8) (ws : List WrD) (sv wv : Value), i ≤ n ∧ v = .int .i64 (i : Int) ∧ Hid (DkS base D kv3 sv wv a cur ws false wr) ∧ Hid (InvW a cur ws i) ∧ Hid (Below base w wr)) (fun v _ => n - (intOf v).toNat)
  case atStart => exact ⟨0, a, [], _, _, Nat.zero_le _, rfl, HS, HI, HB3⟩
  case round =>
    clear HS HI HB3
    obtain ⟨i, cur, ws, sv, wv, hi, rfl, HS, HI, HB⟩ := hrel
    obtain ⟨wo, hwo⟩ : ∃ u, u = wr := ⟨_, rfl⟩
    subst hwo
    by_cases hlt : i < n
    · obtain ⟨p, hp⟩ : ∃ p, zs[i]? = some p := ⟨_, List.getElem?_eq_getElem (by have := HZ.out; omega)⟩
      have hrr : Rd wo A (zs.map strV) := HR.out.below (by rw [HBS.out]; exact HB.out)
      obtain ⟨ad, rfl, hcell⟩ := rd_in hrr i (strV p) (by rw [List.getElem?_map, hp]; rfl)
      unfold strV at hcell
      have z3 : (i : Int) < (n : Int) := Int.ofNat_lt.2 hlt
      have q9 : wrap64 ((i : Int) + 1) = (i : Int) + 1 := by have := HN.out; unfold wrap64; omega
      have HLT := hid hlt
      clear hlt hi hp hrr
      by_cases hb : 200 < p.length
      · have z4 : (200 : Int) < p.length := by omega
        go_wp2_with (go_at_call 24; (with_reducible refine (awake24_any _).mono ?_); rintro e9 w9 ⟨rfl, hb9⟩)
        go_ret
        exact ⟨rfl, by rw [HBS.out]; exact HB.out.trans (hb9.mono HS.out.r.bs)⟩
      · have z4 : ¬ (200 : Int) < p.length := by omega
        have HPL := hid (show p.length ≤ 200 from by omega)
        have c4 := dlen_any _ _ _ _ _ _ _ _ _ _ HS.out
        have c5 := dWrite_any base D kv3 sv wv a cur ws (by have := HI.out.c; have := HN.out; have := HLT.out; omega) (by have := HI.out.l; have := HN.out; have := HLT.out; omega) p (by have := HPL.out; omega) wo HS.out
        clear hb
        go_wp2_with (first
          | (go_at_call 28; (with_reducible refine c4.mono ?_); rintro e4 w4 ⟨rfl, rfl⟩; clear c4)
          | (go_at_call 26; (with_reducible refine c5.mono ?_); rintro e5 w5 ⟨rfl, sv5, wv5, h5, hb5⟩; have HS5 := hid h5; have HB5 := hid (HB.out.trans hb5); clear c5 h5 hb5))
        go_roundw
        case rel => exact ⟨i + 1, cur ++ p, addW cur p ws, sv5, wv5, HLT.out, by go_num, HS5, hid (HI.out.next HPL.out), HB5⟩
        case measure => first | exact pvd_meas2 HLT.out | (rw [q9]; exact pvd_meas2 HLT.out)
    · obtain rfl : n = i := by omega
      have z3 : ¬ (n : Int) < (n : Int) := by omega
      have HW1 := hid (show ∀ x ∈ ws, x.p + x.t.length ≤ 10000000 from fun x hx => by have := HI.out.w x hx; have := HN.out; omega)
      have HW2 := hid (show ∀ x ∈ ws, a.length ≤ x.p from fun x hx => (HI.out.w x hx).1)
      have HWL := hid (show ws.length ≤ 1000 from by have := HI.out.l; have := HN.out; omega)
      have HKA := hid (show a.length ≤ 10000000 from by have := HA.out; omega)
      have HKC := hid (show cur.length ≤ 10000000 from by have := HI.out.c; have := HN.out; omega)
      have c6 := dcopy_any base D kv3 sv wv a cur ws false HKA.out HKC.out HWL.out wo HS.out
      clear hlt hi
      go_upto_region 15 with (go_at_call 29; (with_reducible refine c6.mono ?_); rintro e6 w6 ⟨E, kvc, svc, wvc, rfl, hE, hb6⟩)
      have HE := hid hE
      have HB6 := hid hb6
      have hd6 := HS.out.below hb6
      have c7 := dkept_any _ _ _ _ _ _ _ _ _ _ hd6
      clear hE hb6 c6 hd6
      go_upto_region 17 with (go_at_call 30; (with_reducible refine c7.mono ?_); rintro e7 w7 ⟨rfl, rfl⟩)
      have c8 := dCrash_any wo.heap.size E kvc svc wvc a cur ws HKA.out HW1.out HWL.out 0 0 w6 HE.out
      rw [crS_none] at c8
      clear c7
      go_upto_region 18 with (go_at_call 31; (with_reducible refine c8.mono ?_); rintro e8 w8 ⟨rfl, kv8, sv8, h8, hf8⟩)
      have HE8 := hid h8
      have hb8 := fr_below hf8 HE.out.bd (fun g hg => (World.ownsRow.lt HE.out.r.k g hg).1) HE.out.r.bs
      have HB8 := hid (HB6.out.trans hb8)
      have HD8 := hid (HS.out.below HB8.out)
      have c9 := dCrash_any base D kv3 sv wv a cur ws HKA.out HW1.out HWL.out m cnt w8 HD8.out
      have HTK := hid (crS_ahead (m := m) (cnt := cnt) (k := a) (s0 := a) (List.take_length) HW2.out ws.length)
      clear c8 h8 hf8 hb8
      generalize (crS m cnt a ws ws.length).1 = kG at *
      go_upto_region 19 with (go_at_call 31; (with_reducible refine c9.mono ?_); rintro e10 w10 ⟨rfl, kv10, sv10, h10, hf10⟩)
      have HD10 := hid h10
      have HE10 := hid (HE8.out.far hf10 HS.out.x.lt (fun g hg => (World.ownsRow.lt HS.out.r.k g hg).2))
      have hb10 := fr_below hf10 HBD.out (fun g hg => (World.ownsRow.lt HD8.out.r.k g hg).1) HD8.out.r.bs
      have HBE := hid ((HB.out.trans (HB8.out.mono HS.out.r.bs)).trans hb10)
      have HGE := hid (show a.length ≤ kG.length from by have := congrArg List.length HTK.out; rw [List.length_take] at this; omega)
      have c11 := dall_any _ _ _ _ _ _ _ _ _ _ HE10.out
      have c12 := dlen_any _ _ _ _ _ _ _ _ _ _ HD10.out
      have c13 := dall_any _ _ _ _ _ _ _ _ _ _ HD10.out
      have hsl : ∀ V, (Instr.sliceAt 9 (.string (txt kG)) none (some (.int .i64 (a.length : Int))) none).run Try.prog V = .ok (.string (txt a)) V := fun V => by
        have := str_hi kG a.length HGE.out V
        rw [HTK.out] at this
        exact this
      have z5 : (a.length : Int) ≤ (kG.length : Int) := Int.ofNat_le.2 HGE.out
      clear c9 h10 hf10 hb10
      go_wp2_with (first
        | (go_at_call 32; (with_reducible refine c11.mono ?_); rintro e11 w11 ⟨rfl, rfl⟩; clear c11)
        | (go_at_call 28; (with_reducible refine c12.mono ?_); rintro e12 w12 ⟨rfl, rfl⟩; clear c12)
        | (go_at_call 32; (with_reducible refine c13.mono ?_); rintro e13 w13 ⟨rfl, rfl⟩; clear c13)
        | (go_at_call 24; (with_reducible refine (awake24_any _).mono ?_); rintro e14 w14 ⟨rfl, hb14⟩))
      go_ret
      exact ⟨rfl, by rw [HBS.out]; exact HBE.out.trans (hb14.mono HD10.out.r.bs)⟩
theorem law_DiskKeeps (w : World) (a0 : ByteArray) (w0 : a0.size ≤ maxLen) (a1 : Option Addr) (l1 c1 : Nat) (z1 : List ByteArray) (w1 : StrRow w a1 l1 z1) (a2 : Int) (w2 : (Lit.int .u64 a2).wf = true) (a3 : Int) (w3 : (Lit.int .i64 a3).wf = true) :
    Calls Try.prog 6 #[.string a0, .slice a1 l1 c1, .int .u64 a2, .int .i64 a3] w fun e w' => e = .returned (.bool true) ∧ Below w.heap.size w w' := by
  obtain ⟨hlen, hmx, hrd, hsz⟩ := w1
  rw [← txt_data a0]
  by_cases h1 : 200 < a0.data.toList.length
  · exact dk_far1 _ a1 l1 c1 a2 a3 w h1
  · by_cases h2 : 80 < l1
    · exact dk_far2 _ a1 l1 c1 a2 a3 w h1 h2
    · exact dk_near _ a1 l1 c1 a2 a3 w (z1.map fun s => s.data.toList) h1 h2 (by rw [List.length_map]; exact hlen) (by rw [List.map_map]; exact hrd)
open Go.ChangeShapes Go.WideShapes Go.ChangeAt
open Go.ChangeMaps (open_string shut_string)
theorem own_DiskKeeps : ownKnob Try.prog.godebug = none := by kernel_rfl
theorem laidOut_DiskKeeps : laidOutB Try.prog = true := by kernel_rfl
set_option linter.unusedVariables false in
set_option maxRecDepth 100000 in
theorem lifted_DiskKeeps (os : Os) (started : os.Started) (H : Type) (enc : TypeId × Value → H) :
    ReturnsInHanded {} Try.checked os 6 .any (Rows.diskKeepsSpec.pre6 enc Try.prog Try.f6 Rows.diskKeepsRow.domain false) (Rows.diskKeepsSpec.post enc Try.prog Try.f6 false true false false) := by
  refine returnsInHanded_of_change (C := Try.checked) own_DiskKeeps started (by kernel_rfl) Try.func6
    (ChangeSpec.witness6 (enc := enc) (C := Try.checked) false ⟨#[], #[.string ByteArray.empty, .slice none 0 0, .int .u64 0, .int .i64 0], []⟩ 8 (by kernel_rfl) (by kernel_rfl) (by kernel_rfl) (by kernel_rfl)) ?_
  intro W base args ds gs before hval0 hW hcnd _
  have hval : ∀ (j : Nat) t v, Try.f6.params[j]? = some t → args[j]? = some v → Value.okWide Try.prog W .any base t v := hval0
  have hW' := hW
  obtain ⟨p, q, hA0, hV, rfl, hfz, hnd⟩ := hW
  have hA1 : DataW.TrodAll enc Try.prog W 0 (fun _ => true) true Try.f6.params.toList args.toList ds p := hA0
  have hA : DataW.TrodAll enc Try.prog W 0 (fun _ => true) true Try.f6.params.toList args.toList ds p := hA0
  rw [Try.params6] at hA hval
  obtain ⟨v0, vs0, d0, ds0, p0, q0, hargs, rfl, rfl, h0, r0⟩ := trodAll_cons hA
  obtain ⟨v1, vs1, d1, ds1, p1, q1, rfl, rfl, rfl, h1, r1⟩ := trodAll_cons r0
  obtain ⟨v2, vs2, d2, ds2, p2, q2, rfl, rfl, rfl, h2, r2⟩ := trodAll_cons r1
  obtain ⟨v3, vs3, d3, ds3, p3, q3, rfl, rfl, rfl, h3, r3⟩ := trodAll_cons r2
  obtain ⟨rfl, rfl, rfl⟩ := trodAll_nil r3
  obtain rfl : args = #[v0, v1, v2, v3] := by cases args; simp_all
  obtain ⟨rfl, rfl⟩ := trodVars_none hV
  obtain ⟨a0, rfl, rfl, rfl, w0⟩ := open_string Try.underlying9 (hval 0 9 v0 rfl rfl) h0
  obtain ⟨a1, l1, c1, z1, rfl, w1⟩ := open_strRow Try.underlying51 Try.underlying9 (by kernel_rfl) (hval 1 51 v1 rfl rfl) h1
  obtain ⟨a2, rfl, rfl, rfl, w2⟩ := open_int Try.underlying52 (hval 2 52 v2 rfl rfl) h2
  obtain ⟨a3, rfl, rfl, rfl, w3⟩ := open_int Try.underlying3 (hval 3 3 v3 rfl rfl) h3
  clear hA0 hval0
  refine (law_DiskKeeps W a0 w0 a1 l1 c1 z1 w1 a2 w2 a3 w3).mono fun e W' ⟨he, bel⟩ => ?_
  subst he
  exact ⟨_, rfl, _, _, _, [], _, [], hW', trodAll_mk1 (shut_bool Try.underlying4 _), trodAll_stays laidOut_DiskKeeps bel (by kernel_rfl) hA1, rfl, bel.frame _, fun h => by cases h⟩

/-- The statement. -/
theorem DiskKeeps_holds : Rows.DiskKeepsSaid :=
  OpenClaim.holds_of_wide 6 Try.f6 rfl rfl rfl rfl rfl rfl rfl ⟨rfl, rfl, rfl, rfl, rfl⟩ rfl rfl rfl rfl rfl (by kernel_rfl) Try.func6 (by kernel_rfl)
    (of_decide_eq_true (by kernel_rfl)) (by unfold Func.isWrapper; first | (rw [if_pos (by decide +kernel)]; kernel_rfl) | (rw [if_neg (by decide +kernel)]; exact ⟨rfl, rfl⟩))
    (fun os started H enc _ => lifted_DiskKeeps os started H enc)
#print axioms DiskKeeps_holds
