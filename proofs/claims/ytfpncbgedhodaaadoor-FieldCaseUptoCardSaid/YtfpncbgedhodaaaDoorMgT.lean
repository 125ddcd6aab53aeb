/- Several texts as one. -/
import Derived.Test.YtfpncbgedhodaaaDoorMgQ
import Derived.Test.YtfpncbgedhodaaaDoorMgR
import Derived.Test.YtfpncbgedhodaaaDoorMgS
import Derived.Test.YtfpncbgedhodaaaDoorMgI
/-
  FieldCase: names alike; turned.
-/
set_option linter.unusedVariables false
set_option linter.unusedSimpArgs false
namespace Go.Proofs.YtfpncbgedhodaaaDoor
open Go.RowKit Go.Shelf
namespace Fd
open Oc Tg

/-- What is left of fields when the case of names is. -/
def keyF (t : List Fl) : List Fl := t.map fun p => (lower p.1, p.2)
theorem key_len {t t' : List Fl} (h : keyF t' = keyF t) : t'.length = t.length := by
  have := congrArg List.length h
  unfold keyF at this
  simpa using this
theorem filter_key (g : List UInt8 → Bool) : ∀ t : List Fl, keyF (t.filter fun p => g (lower p.1)) = (keyF t).filter fun p => g p.1
  | [] => rfl
  | p :: t => by
    have ih := filter_key g t
    unfold keyF at ih ⊢
    rw [List.map_cons, List.filter_cons, List.filter_cons]
    dsimp only
    cases g (lower p.1) with
    | true => simp [ih]
    | false => simp [ih]
theorem vals_key (s : List UInt8) (t : List Fl) : vals s t = ((keyF t).filter fun p => decide (p.1 = lower s)).map Prod.snd := by
  rw [← filter_key (fun x => decide (x = lower s)) t]
  unfold vals keyF
  rw [List.map_map]
  rfl
theorem vals_like (s : List UInt8) {t t' : List Fl} (h : keyF t' = keyF t) : vals s t' = vals s t := by rw [vals_key, vals_key, h]
theorem sum_key (t : List Fl) : sumF t = sumF (keyF t) := by
  unfold sumF keyF
  rw [List.map_map]
  congr 1
  apply List.map_congr_left
  intro p _
  simp [szF, lower]
theorem sum_like {t t' : List Fl} (h : keyF t' = keyF t) : sumF t' = sumF t := by rw [sum_key t', sum_key t, h]
theorem list_like (s : List UInt8) {t t' : List Fl} (h : keyF t' = keyF t) : listF s t' = listF s t := by unfold listF; rw [vals_like s h]
theorem tokens_like (s : List UInt8) {t t' : List Fl} (h : keyF t' = keyF t) : tokensF s t' = tokensF s t := by unfold tokensF; rw [list_like s h]
theorem framing_like (old : Bool) {t t' : List Fl} (h : keyF t' = keyF t) : framingF t' old = framingF t old := by
  have l : lengthF t' = lengthF t := by unfold lengthF; rw [vals_like nCL h, list_like nCL h]
  have c : codF t' = codF t := by unfold codF; rw [vals_like nTE h, tokens_like nTE h]
  unfold framingF
  rw [l, c]
theorem persist_like (old : Bool) {t t' : List Fl} (h : keyF t' = keyF t) : persistF t' old = persistF t old := by
  simp only [persistF, tokens_like _ h]
theorem onward_like {t t' : List Fl} (h : keyF t' = keyF t) : (t'.filter (onw (endsF t'))).length = (t.filter (onw (endsF t))).length := by
  have e : endsF t' = endsF t := by unfold endsF; rw [tokens_like _ h]
  have k := fun t : List Fl => congrArg List.length (filter_key (fun x => !inL (endsF t') x) t)
  unfold keyF at k
  simp only [List.length_map] at k
  have a1 := k t'
  have a2 := k t
  rw [← e]
  show (t'.filter fun p => !inL (endsF t') (lower p.1)).length = (t.filter fun p => !inL (endsF t') (lower p.1)).length
  rw [a1, a2]
  unfold keyF at h
  rw [h]
theorem key_snoc {t u : List Fl} {k : Nat} (hk : k < t.length) (h : keyF u = keyF (t.take k)) (b : List UInt8) (hb : lower b = lower (nth t k).1) : keyF (u ++ [(b, (nth t k).2)]) = keyF (t.take (k + 1)) := by
  rw [take_nth t k hk]
  unfold keyF at h ⊢
  rw [List.map_append, List.map_append, h]
  simp [hb]
theorem own_there {t : List Fl} {k : Nat} (hk : k < t.length) : (vals (nth t k).1 t).length ≠ 0 := by
  unfold vals
  rw [List.length_map]
  intro h
  have h0 := List.eq_nil_of_length_eq_zero h
  have hm : nth t k ∈ t.filter (alike (nth t k).1) := List.mem_filter.2 ⟨by unfold nth; rw [List.getD_eq_getElem?_getD, List.getElem?_eq_getElem hk]; exact List.getElem_mem hk, by simp [alike]⟩
  rw [h0] at hm
  cases hm

end Fd
end Go.Proofs.YtfpncbgedhodaaaDoor

/-
  FieldCase: turned.
-/
set_option linter.unusedVariables false
set_option linter.unusedSimpArgs false
namespace Go.Proofs.YtfpncbgedhodaaaDoor
open Go.RowKit Go.Shelf
namespace Fd
open Oc Tg

/-- A letter. -/
def LetI (C : Int) : Prop := (97 ≤ C ∧ C ≤ 122) ∨ (65 ≤ C ∧ C ≤ 90)
instance (C : Int) : Decidable (LetI C) := by unfold LetI; infer_instance
theorem swap_fact (c : UInt8) (h : LetI (c.toNat : Int)) : Go.bits BinOp.xor IntKind.u8 (c.toNat : Int) 32 = ((c ^^^ 32).toNat : Int) ∧ lowB (c ^^^ 32) = lowB c := by
  have k : ∀ n : Nat, n < 256 → LetI (((UInt8.ofNat n).toNat : Nat) : Int) → Go.bits BinOp.xor IntKind.u8 ((UInt8.ofNat n).toNat : Int) 32 = ((UInt8.ofNat n ^^^ 32).toNat : Int) ∧ lowB (UInt8.ofNat n ^^^ 32) = lowB (UInt8.ofNat n) := by decide +kernel
  have := k c.toNat c.toNat_lt
  rw [UInt8.ofNat_toNat] at this
  exact this h
theorem turn_round {wr : World} {g n j : Nat} {l pn : List UInt8} (hr : Row wr g n (fun i => ((l.getD i 0).toNat : Int))) (hl : l.length = n) (hj : j < n) (hlow : lower l = lower pn) {C : Int} (hC : ((l.getD j 0).toNat : Int) = C) (hL : LetI C) :
    ∃ l' : List UInt8, l'.length = n ∧ lower l' = lower pn ∧ Row (wr.setCell ⟨g, j, none⟩ (.int .u8 (Go.bits BinOp.xor IntKind.u8 C 32))) g n (fun i => ((l'.getD i 0).toNat : Int)) := by
  subst hC
  obtain ⟨e1, e2⟩ := swap_fact (l.getD j 0) hL
  have hjl : j < l.length := by omega
  refine ⟨l.set j (l.getD j 0 ^^^ 32), by rw [List.length_set]; exact hl, ?_, hr.set j hj _ _ (fun i hi => ?_)⟩
  · rw [← hlow]
    unfold lower
    rw [List.map_set, e2]
    apply List.ext_getElem
    · simp
    · intro i h1 h2
      rw [List.getElem_set]
      split
      · rename_i h
        subst h
        rw [List.getElem_map, List.getD_eq_getElem?_getD, List.getElem?_eq_getElem hjl]
        rfl
      · rfl
  · rw [e1]
    by_cases h : i = j
    · subst h
      rw [if_pos rfl, List.getD_eq_getElem?_getD, List.getElem?_set_self hjl]
      rfl
    · rw [if_neg h, List.getD_eq_getElem?_getD, List.getElem?_set_ne (fun e => h e.symm), ← List.getD_eq_getElem?_getD]

set_option maxRecDepth 100000 in
set_option maxHeartbeats 1000000 in
theorem turned_any (v : Value) (t : List Fl) (bits : Int) (hM : Each 1048576 t) (hl : t.length ≤ 16777216) (w : World) (hrd : RdF v t w) :
    Calls Tryd.prog 24 #[v, .int .i64 bits] w fun e w' => ∃ u t', e = .returned u ∧ OwnF 52 w.heap.size u t' w' ∧ keyF t' = keyF t ∧ Below w.heap.size w w' := by
  have hcv := fun w s => Lib.run_convert_string_bytes (P := Tryd.prog) w 9 87 5 s Tryd.underlying9 Tryd.underlying87 Tryd.underlying5
  have HR : Hid (RdF v t w) := hrd
  have HM : Hid (Each 1048576 t) := hM
  obtain ⟨a, c, rfl, _⟩ := hrd
  clear hM
  go_enter Tryd.func24, Tryd.ntmps24
  go_wp2
  go_loopw [5, 13] (fun ov i wr => ∃ k : Nat, k ≤ t.length ∧ i = .int .i64 k ∧ Hid (∃ t', OwnF 52 w.heap.size ov t' wr ∧ keyF t' = keyF (t.take k)) ∧ Hid (Below w.heap.size w wr)) (fun _ i _ => t.length - (intOf i).toNat)
  case atStart => exact ⟨0, Nat.zero_le _, rfl, (⟨[], ownF_nil _ _ _, rfl⟩ : ∃ t', OwnF _ _ _ t' _ ∧ keyF t' = keyF (t.take 0)), Below.refl _ _⟩
  case round =>
    obtain ⟨wo, rfl⟩ : ∃ wo, wo = wr := ⟨_, rfl⟩
    obtain ⟨k, hk, rfl, hown, hbl⟩ := hrel
    obtain ⟨t', ho', hkey⟩ := hown.out
    have HO : Hid (OwnF 52 w.heap.size _ t' wo) := ho'
    have HKy : Hid (keyF t' = keyF (t.take k)) := hkey
    clear hown ho' hkey
    by_cases hlt : k < t.length
    · obtain ⟨a', c', e', hcs⟩ := HR.out.below hbl.out
      injection e' with e1 _ e2
      subst e1 e2
      rcases hcs with h | ⟨g, o, rfl, hlc, hcell⟩
      · rw [h] at hlt; simp at hlt
      obtain ⟨p0, p1⟩ := hcell k hlt
      have hEk := HM.out.at k hlt
      have HSn : Hid (∀ b, lower b = lower (nth t k).1 → keyF (t' ++ [(b, (nth t k).2)]) = keyF (t.take (k + 1))) := fun b hb => key_snoc hlt HKy.out b hb
      have hlk : t'.length + 1 ≤ 2147483648 := by
        have := key_len HKy.out
        rw [List.length_take] at this
        omega
      generalize nth t k = p at *
      obtain ⟨pn, pv⟩ := p
      dsimp only at p0 p1 HSn hEk
      obtain ⟨wa, hwa⟩ : ∃ wa, wa = wo.alloc (.cells #[.string (str pn), .string (str pv)] 52) := ⟨_, rfl⟩
      have hba : Below wo.heap.size wo wa := by rw [hwa]; exact (Below.refl _ wo).alloc (Nat.le_refl _) _
      have hz : wa.heap.size = wo.heap.size + 1 := by rw [hwa]; simp
      have ca : wa.cell? ⟨wo.heap.size, 1, none⟩ = some (.string (str pv)) := by rw [hwa]; simp
      have HBa : Hid (Below w.heap.size w wa) := bel_trans hbl.out hba
      have HOa : Hid (OwnF 52 w.heap.size _ t' wa) := HO.out.below hba
      have HCa : Hid (wa.cell? ⟨wo.heap.size, 1, none⟩ = some (.string (str pv))) := ca
      have HZ : Hid (wa.heap.size = wo.heap.size + 1) := hz
      have hsz : (str pn).size = pn.length := str_size pn
      have HRw : Hid (Row (Lib.bytesWorld wa 5 (str pn)) wa.heap.size pn.length (fun j => ((pn.getD j 0).toNat : Int))) := (by
        have h := bytes_row wa 5 (str pn)
        rw [hsz] at h
        have e : byt (str pn) = fun j => ((pn.getD j 0).toNat : Int) := by funext j; unfold byt; rw [str_list]
        rw [e] at h
        exact h : Row _ _ _ _)
      have HBb : Hid (Below wa.heap.size wa (Lib.bytesWorld wa 5 (str pn))) := below_bytes wa 5 (str pn)
      have hcv' : (convert 9 87 (.string (str pn))).run Tryd.prog (wo.alloc (.cells #[.string (str pn), .string (str pv)] 52)) = .ok (.slice (some ⟨wa.heap.size, 0, none⟩) (str pn).size (grownCap wa (str pn).size 0 5)) (Lib.bytesWorld wa 5 (str pn)) := by
        rw [← hwa]
        exact hcv wa (str pn)
      rw [hsz] at hcv'
      clear hcv hcell hba ca hz HO hsz hwa
      generalize Lib.bytesWorld wa 5 (str pn) = wb at *
      generalize grownCap wa pn.length 0 5 = cap at *
      generalize hv : str pv = V at *
      have HV : Hid (V = str pv) := hv.symm
      generalize str pn = N at *
      have hpl : pn.length ≤ 1048576 := hEk.1
      clear hv hEk
      go_wp2
      go_loopw [22] (fun i wr => ∃ j : Nat, j ≤ pn.length ∧ i = .int .i64 j ∧ Hid (∃ l : List UInt8, l.length = pn.length ∧ lower l = lower pn ∧ Row wr wa.heap.size pn.length (fun j => ((l.getD j 0).toNat : Int))) ∧ Hid (Below wa.heap.size wa wr)) (fun i _ => pn.length - (intOf i).toNat)
      case atStart => exact ⟨0, Nat.zero_le _, rfl, (⟨pn, rfl, rfl, HRw.out⟩ : ∃ l : List UInt8, l.length = pn.length ∧ lower l = lower pn ∧ Row wb wa.heap.size pn.length (fun j => ((l.getD j 0).toNat : Int))), HBb⟩
      case round =>
        obtain ⟨j, hj, rfl, hrow, hbr⟩ := hrel
        obtain ⟨l, hll, hlow, hr⟩ := hrow.out
        clear hrow hcv'
        by_cases hjt : j < pn.length
        · have hck := hr.cell j hjt
          have hfk := hr.free j hjt
          obtain ⟨b0, b1⟩ : (0 : Int) ≤ ((l.getD j 0).toNat : Int) ∧ ((l.getD j 0).toNat : Int) ≤ 255 := ⟨by omega, by have := (l.getD j 0).toNat_lt; omega⟩
          have HRo : Hid (Row wr wa.heap.size pn.length (fun j => ((l.getD j 0).toNat : Int))) := hr
          have HLo : Hid (lower l = lower pn) := hlow
          have HLl : Hid (l.length = pn.length) := hll
          clear hr hlow hll
          generalize hC : ((l.getD j 0).toNat : Int) = C at *
          have HC : Hid (((l.getD j 0).toNat : Int) = C) := hC
          clear hC
          by_cases h1 : 97 ≤ C
          · by_cases h2 : C ≤ 122
            · have HT : Hid (∃ l' : List UInt8, l'.length = pn.length ∧ lower l' = lower pn ∧ Row (wr.setCell ⟨wa.heap.size, j, none⟩ (.int .u8 (Go.bits BinOp.xor IntKind.u8 C 32))) wa.heap.size pn.length (fun i => ((l'.getD i 0).toNat : Int))) := turn_round HRo.out HLl.out hjt HLo.out HC.out (Or.inl ⟨h1, h2⟩)
              go_wp2
              · go_roundw
                case rel => exact ⟨j + 1, by omega, by go_num, HT, hbr.out.setCell (Nat.le_refl _) _⟩
                case measure => simp [intOf]; omega
              · go_roundw
                case rel => exact ⟨j + 1, by omega, by go_num, (⟨l, HLl.out, HLo.out, HRo.out⟩ : ∃ l : List UInt8, l.length = pn.length ∧ lower l = lower pn ∧ Row wr wa.heap.size pn.length (fun i => ((l.getD i 0).toNat : Int))), hbr⟩
                case measure => simp [intOf]; omega
            · have h3 : 65 ≤ C := by omega
              have h4 : ¬ C ≤ 90 := by omega
              go_wp2
              go_roundw
              case rel => exact ⟨j + 1, by omega, by go_num, (⟨l, HLl.out, HLo.out, HRo.out⟩ : ∃ l : List UInt8, l.length = pn.length ∧ lower l = lower pn ∧ Row wr wa.heap.size pn.length (fun i => ((l.getD i 0).toNat : Int))), hbr⟩
              case measure => simp [intOf]; omega
          · by_cases h3 : 65 ≤ C
            · by_cases h4 : C ≤ 90
              · have HT : Hid (∃ l' : List UInt8, l'.length = pn.length ∧ lower l' = lower pn ∧ Row (wr.setCell ⟨wa.heap.size, j, none⟩ (.int .u8 (Go.bits BinOp.xor IntKind.u8 C 32))) wa.heap.size pn.length (fun i => ((l'.getD i 0).toNat : Int))) := turn_round HRo.out HLl.out hjt HLo.out HC.out (Or.inr ⟨h3, h4⟩)
                go_wp2
                · go_roundw
                  case rel => exact ⟨j + 1, by omega, by go_num, HT, hbr.out.setCell (Nat.le_refl _) _⟩
                  case measure => simp [intOf]; omega
                · go_roundw
                  case rel => exact ⟨j + 1, by omega, by go_num, (⟨l, HLl.out, HLo.out, HRo.out⟩ : ∃ l : List UInt8, l.length = pn.length ∧ lower l = lower pn ∧ Row wr wa.heap.size pn.length (fun i => ((l.getD i 0).toNat : Int))), hbr⟩
                  case measure => simp [intOf]; omega
              · go_wp2
                go_roundw
                case rel => exact ⟨j + 1, by omega, by go_num, (⟨l, HLl.out, HLo.out, HRo.out⟩ : ∃ l : List UInt8, l.length = pn.length ∧ lower l = lower pn ∧ Row wr wa.heap.size pn.length (fun i => ((l.getD i 0).toNat : Int))), hbr⟩
                case measure => simp [intOf]; omega
            · go_wp2
              go_roundw
              case rel => exact ⟨j + 1, by omega, by go_num, (⟨l, HLl.out, HLo.out, HRo.out⟩ : ∃ l : List UInt8, l.length = pn.length ∧ lower l = lower pn ∧ Row wr wa.heap.size pn.length (fun i => ((l.getD i 0).toNat : Int))), hbr⟩
              case measure => simp [intOf]; omega
        · obtain rfl : j = pn.length := by omega
          have hbk := back wr wa.heap.size pn.length cap _ l hr hll (fun j hj => rfl)
          have c1 : wr.cell? ⟨wo.heap.size, 1, none⟩ = some (.string V) := (hbr.out.cell (by show wo.heap.size < wa.heap.size; have := HZ.out; omega)).trans HCa.out
          have HOr : Hid (OwnF 52 w.heap.size _ t' wr) := HOa.out.below hbr.out
          have HBr : Hid (Below w.heap.size w wr) := bel_trans HBa.out hbr.out
          have hs2 : w.heap.size ≤ wr.heap.size := HBr.out.size
          have HKn : Hid (keyF (t' ++ [(l, pv)]) = keyF (t.take (k + 1))) := HSn.out l hlow
          generalize hsl : str l = SL at *
          have HSL : Hid (SL = str l) := hsl.symm
          clear hsl hr hll hlow
          go_wp2_with (at_builtin; go_must (refine wp_appF 52 22 infoF Tryd.underlying22 rfl (.tmp 55) (.tmp 61) rfl w.heap.size _ t' _ (l, pv) _ _ HSL.out HV.out rfl HOr.out _ rfl (by simp) hlk hs2 ?_); intro v6 w6 hown6 hb6)
          have HO6 : Hid (∃ t'', OwnF 52 w.heap.size v6 t'' w6 ∧ keyF t'' = keyF (t.take (k + 1))) := (⟨_, hown6, HKn.out⟩ : ∃ t'', OwnF 52 w.heap.size v6 t'' w6 ∧ keyF t'' = keyF (t.take (k + 1)))
          have HB6 : Hid (Below w.heap.size w w6) := HBr.out.trans hb6
          clear hown6 hb6
          go_roundw
          case rel => exact ⟨k + 1, by omega, by go_num, HO6, HB6⟩
          case measure => simp [intOf]; omega
    · obtain rfl : k = t.length := by omega
      rw [List.take_length] at HKy
      go_wp2
      go_ret
      exact ⟨_, t', rfl, HO.out, HKy.out, hbl.out⟩

end Fd
end Go.Proofs.YtfpncbgedhodaaaDoor

/-
  FieldCase.
-/
set_option linter.unusedVariables false
set_option linter.unusedSimpArgs false
namespace Go.Proofs.YtfpncbgedhodaaaDoor
open Go.RowKit Go.Shelf
namespace Fd
open Oc Tg

set_option maxRecDepth 100000 in
set_option maxHeartbeats 4000000 in
theorem walk_FieldCase (v : Value) (t : List Fl) (hs : bulkfields t ≤ 1048576) (bits : Int) (hbits : (Lit.int .i64 bits).wf = true) (old : Bool) (w : World) (hin : InF v t w) (hw : Env w) :
    Calls Tryd.prog 5 #[v, .int .i64 bits, .bool old] w fun e w' => e = .returned (.bool true) ∧ Below w.heap.size w w' := by
  unfold bulkfields at hs
  have hlen := len_sumF t
  have htl : t.length ≤ 1048576 := by omega
  have HA : Hid (Calls _ _ _ _ _) := awake_any w hw
  have HE0 : Hid (∀ W, Below w.heap.size w W → Env W) := fun W hb => hw.below hb
  have HI0 : Hid (∀ W, Below w.heap.size w W → InF v t W) := fun W hb => hin.below hb
  have hEach := (each_sumF t).mono hs
  have HTu : Hid (∀ W, RdF v t W → Calls Tryd.prog 24 #[v, .int .i64 bits] W fun e w' => ∃ u t', e = .returned u ∧ OwnF 52 (World.heap W).size u t' w' ∧ keyF t' = keyF t ∧ Below (World.heap W).size W w') := fun W h => turned_any v t bits hEach (by omega) W h
  have HWi : Hid (∀ W, InF v t W → Calls Tryd.prog 26 #[v] W fun e w' => ∃ u, e = .returned u ∧ OwnF 52 (World.heap W).size u t w' ∧ Below (World.heap W).size W w') := fun W h => wide_any v t W h (by omega)
  have HFr : Hid (∀ u tt W, keyF tt = keyF t → RdF u tt W → Tab W → Calls Tryd.prog 25 #[u, .bool old] W fun e w' => e = .returned (.tuple #[.agg #[.int .i64 (framingF t old).1, .int .i64 (framingF t old).2.1], .int .i64 (framingF t old).2.2]) ∧ Below (World.heap W).size W w') := fun u tt W hk h tb => by rw [← framing_like old hk]; exact Framing_any u tt old (by rw [sum_like hk]; exact hs) W h tb
  have HPe : Hid (∀ u tt W, keyF tt = keyF t → RdF u tt W → Tab W → Calls Tryd.prog 20 #[u, .bool old] W fun e w' => e = .returned (.bool (persistF t old)) ∧ Below (World.heap W).size W w') := fun u tt W hk h tb => by rw [← persist_like old hk]; exact Persist_any u tt old (by rw [sum_like hk]; exact hs) W h tb
  have HHo : Hid (∀ u tt W, keyF tt = keyF t → RdF u tt W → Calls Tryd.prog 18 #[u, .bool old] W fun e w' => e = .returned (.tuple #[.string (str (hostR (vals sHost t) old).1), .bool (hostR (vals sHost t) old).2.1, .int .i64 (hostR (vals sHost t) old).2.2]) ∧ Below (World.heap W).size W w') := fun u tt W hk h => by rw [← vals_like sHost hk]; exact Host_any u tt old W h (by rw [sum_like hk]; exact hs)
  have HOn : Hid (∀ u tt W, keyF tt = keyF t → RdF u tt W → Tab W → Calls Tryd.prog 22 #[u] W fun e w' => ∃ xa xc, e = .returned (.slice xa (t.filter (onw (endsF t))).length xc) ∧ Below (World.heap W).size W w') := fun u tt W hk h tb =>
    (Onward_any u tt (by rw [sum_like hk]; exact hs) W h tb).mono (by
      rintro e w' ⟨x, rfl, ho, hb⟩
      obtain ⟨xa, xc, rfl, _⟩ := ho.rd
      exact ⟨xa, xc, by rw [onward_like hk], hb⟩)
  have HAl : Hid (∀ k, k < t.length → ∀ u tt W, keyF tt = keyF t → RdF u tt W → Calls Tryd.prog 28 #[u, .string (str (nth t k).1)] W fun e w' => ∃ x, e = .returned x ∧ OwnS (World.heap W).size x (vals (nth t k).1 t) w' ∧ Below (World.heap W).size W w') := fun k hk u tt W hke h => by
    have hv := vals_like (nth t k).1 hke
    rw [← hv]
    exact All_any u tt (nth t k).1 (hEach.at k hk).1 ((each_sumF tt).mono (by rw [sum_like hke]; exact hs)) (by rw [key_len hke]; omega) W h
  have HTx : Hid (∀ x y L W, L.length ≤ 1048576 → RdS x L W → RdS y L W → Calls Tryd.prog 27 #[x, y] W fun e w' => e = .returned (.bool true) ∧ Below (World.heap W).size W w') := fun x y L W hl h1 h2 => texts_any x y L W h1 h2 (by omega)
  have HVn : Hid (∀ k, k < t.length → (vals (nth t k).1 t).length ≠ 0 ∧ (vals (nth t k).1 t).length ≤ 1048576) := fun k hk => ⟨own_there hk, Nat.le_trans (vals_len _ t) htl⟩
  have hrl : (t.filter (onw (endsF t))).length ≤ 1048576 := Nat.le_trans (List.length_filter_le _ _) htl
  have HR0 : Hid (RdF v t w) := hin.1
  obtain ⟨⟨a, c, rfl, _⟩, _⟩ := hin
  clear hw hs hlen hEach
  generalize (t.filter (onw (endsF t))).length = rn at *
  generalize str (hostR (vals sHost t) old).1 = S at *
  generalize (hostR (vals sHost t) old).2.1 = th at *
  generalize (hostR (vals sHost t) old).2.2 = z at *
  generalize persistF t old = P at *
  generalize (framingF t old).1 = f1 at *
  generalize (framingF t old).2.1 = f2 at *
  generalize (framingF t old).2.2 = f3 at *
  have e1 : (S.toList != S.toList) = false := by simp
  have e2 : (th != th) = false := by simp
  have e3 : (z != z) = false := by simp
  have e4 : (P != P) = false := by simp
  have e5 : (f1 == f1) = true := by simp
  have e6 : (f2 == f2) = true := by simp
  have e7 : (f3 != f3) = false := by simp
  have e8 : ((rn : Int) == (rn : Int)) = true := by simp
  go_enter Tryd.func5, Tryd.ntmps5
  go_wp2_with fail
  refine HA.out.mono ?_
  rintro e w1 ⟨rfl, hb1⟩
  have HB1 : Hid (Below w.heap.size w w1) := hb1
  clear hb1
  go_wp2_with fail
  refine (HTu.out _ (HI0.out _ HB1.out).1).mono ?_
  rintro e w2 ⟨m, t', rfl, hm, hkey, hb2⟩
  have HB2 : Hid (Below w.heap.size w w2) := bel_trans HB1.out hb2
  have HI : Hid (∀ W, Below w2.heap.size w2 W → InF (.slice a t.length c) t W) := fun W hb => HI0.out W (bel_trans HB2.out hb)
  have HE : Hid (∀ W, Below w2.heap.size w2 W → Tab W) := fun W hb => (HE0.out W (bel_trans HB2.out hb)).1
  have HMm : Hid (∀ W, Below w2.heap.size w2 W → RdF m t' W) := fun W hb => hm.rd.below hb
  have HKy : Hid (keyF t' = keyF t) := hkey
  have H2 : Hid (Below w2.heap.size w2 w2) := Below.refl _ _
  clear hm hkey hb2 HTu HA HI0 HE0 HB1
  go_wp2_with fail
  refine (HWi.out _ (HI.out _ H2.out)).mono ?_
  rintro e w3 ⟨u3, rfl, hu, hb⟩
  have H3 : Hid (Below w2.heap.size w2 w3) := bel_trans H2.out hb
  have U3 : Hid (RdF u3 t w3) := hu.rd
  clear hb hu
  go_wp2_with fail
  refine (HFr.out _ _ _ rfl U3.out (HE.out _ H3.out)).mono ?_
  rintro e w4 ⟨rfl, hb⟩
  have H4 : Hid (Below w2.heap.size w2 w4) := bel_trans H3.out hb
  clear hb
  obtain ⟨w5, hW⟩ : ∃ W, W = w4.alloc (.cells #[.int .i64 f1, .int .i64 f2] 48) := ⟨_, rfl⟩
  have hz : Hid (w5.heap.size = w4.heap.size + 1) := by show _ = _; rw [hW]; simp
  have HRa : Hid (w5.heap[w4.heap.size]? = some (.cells #[.int .i64 f1, .int .i64 f2] 48 (0, 0))) := (by rw [hW]; exact heap_alloc_new w4 _ : _ = _)
  have hb : Below w4.heap.size w4 w5 := by rw [hW]; exact (Below.refl _ w4).alloc (Nat.le_refl _) _
  have H5 : Hid (Below w2.heap.size w2 w5) := bel_trans H4.out hb
  clear hb
  go_wp2_with fail
  rw [← hW]
  clear hW
  refine (HFr.out _ _ _ HKy.out (HMm.out _ H5.out) (HE.out _ H5.out)).mono ?_
  rintro e w6 ⟨rfl, hb⟩
  have H6 : Hid (Below w2.heap.size w2 w6) := bel_trans H5.out hb
  have HRb : Hid (w6.heap[w4.heap.size]? = some (.cells #[.int .i64 f1, .int .i64 f2] 48 (0, 0))) := (hb.block _ (show w4.heap.size < _ by have := hz.out; omega)).trans HRa.out
  clear hb
  obtain ⟨w7, hW⟩ : ∃ W, W = w6.alloc (.cells #[.int .i64 f1, .int .i64 f2] 48) := ⟨_, rfl⟩
  have hb : Below w6.heap.size w6 w7 := by rw [hW]; exact (Below.refl _ w6).alloc (Nat.le_refl _) _
  have H7 : Hid (Below w2.heap.size w2 w7) := bel_trans H6.out hb
  have HRc : Hid (w7.heap[w4.heap.size]? = some (.cells #[.int .i64 f1, .int .i64 f2] 48 (0, 0))) := (hb.block _ (Array.getElem?_eq_some_iff.1 HRb.out).1).trans HRb.out
  have R1 := Lib.cell_of_heap HRc.out 0
  have R2 := Lib.cell_of_heap HRc.out 1
  simp at R1 R2
  rw [hW] at R1 R2
  clear hb
  go_wp2_with fail
  rw [← hW]
  clear hW R1 R2 HRa HRb HRc hz
  refine (HWi.out _ (HI.out _ H7.out)).mono ?_
  rintro e w8 ⟨u8, rfl, hu, hb⟩
  have H8 : Hid (Below w2.heap.size w2 w8) := bel_trans H7.out hb
  have U8 : Hid (RdF u8 t w8) := hu.rd
  clear hb hu
  go_wp2_with fail
  refine (HPe.out _ _ _ rfl U8.out (HE.out _ H8.out)).mono ?_
  rintro e w9 ⟨rfl, hb⟩
  have H9 : Hid (Below w2.heap.size w2 w9) := bel_trans H8.out hb
  clear hb
  go_wp2_with fail
  refine (HPe.out _ _ _ HKy.out (HMm.out _ H9.out) (HE.out _ H9.out)).mono ?_
  rintro e w10 ⟨rfl, hb⟩
  have H10 : Hid (Below w2.heap.size w2 w10) := bel_trans H9.out hb
  clear hb
  go_wp2_with fail
  refine (HWi.out _ (HI.out _ H10.out)).mono ?_
  rintro e w11 ⟨u11, rfl, hu, hb⟩
  have H11 : Hid (Below w2.heap.size w2 w11) := bel_trans H10.out hb
  have U11 : Hid (RdF u11 t w11) := hu.rd
  clear hb hu
  go_wp2_with fail
  refine (HHo.out _ _ _ rfl U11.out).mono ?_
  rintro e w12 ⟨rfl, hb⟩
  have H12 : Hid (Below w2.heap.size w2 w12) := bel_trans H11.out hb
  clear hb
  go_wp2_with fail
  refine (HHo.out _ _ _ HKy.out (HMm.out _ H12.out)).mono ?_
  rintro e w13 ⟨rfl, hb⟩
  have H13 : Hid (Below w2.heap.size w2 w13) := bel_trans H12.out hb
  clear hb
  go_wp2
  go_loopw [84] (fun i wr => ∃ k : Nat, k ≤ t.length ∧ i = .int .i64 k ∧ Hid (Below w2.heap.size w2 wr)) (fun i _ => t.length - (intOf i).toNat)
  case atStart => exact ⟨0, Nat.zero_le _, rfl, H13⟩
  case round =>
    obtain ⟨k, hk, rfl, hbl⟩ := hrel
    by_cases hlt : k < t.length
    · obtain ⟨a', c', e', hcs⟩ := (HI.out _ hbl.out).1
      injection e' with q1 _ q2
      subst q1 q2
      rcases hcs with h | ⟨g, o, rfl, hlc, hcell⟩
      · rw [h] at hlt; simp at hlt
      obtain ⟨p0, p1⟩ := hcell k hlt
      have HAk : Hid (∀ u tt W, keyF tt = keyF t → RdF u tt W → Calls Tryd.prog 28 #[u, .string (str (nth t k).1)] W fun e w' => ∃ x, e = .returned x ∧ OwnS (World.heap W).size x (vals (nth t k).1 t) w' ∧ Below (World.heap W).size W w') := HAl.out k hlt
      obtain ⟨hv0, hv1⟩ := HVn.out k hlt
      have HTk : Hid (∀ x y W, RdS x (vals (nth t k).1 t) W → RdS y (vals (nth t k).1 t) W → Calls Tryd.prog 27 #[x, y] W fun e w' => e = .returned (.bool true) ∧ Below (World.heap W).size W w') := fun x y W h1 h2 => HTx.out x y _ W hv1 h1 h2
      have hL0 : (((vals (nth t k).1 t).length : Int) == 0) = false := by rw [beq_eq_false_iff_ne]; omega
      have HLL : Hid ((vals (nth t k).1 t).length ≤ 1048576) := hv1
      obtain ⟨wx, hwx⟩ : ∃ wx, wx = wr.alloc (.cells #[.string (str (nth t k).1), .string (str (nth t k).2)] 52) := ⟨_, rfl⟩
      have hbx : Below wr.heap.size wr wx := by rw [hwx]; exact (Below.refl _ wr).alloc (Nat.le_refl _) _
      have hcx : wx.cell? ⟨wr.heap.size, 0, none⟩ = some (.string (str (nth t k).1)) := by rw [hwx]; simp
      have HCx : Hid (∀ W, Below wx.heap.size wx W → W.cell? ⟨wr.heap.size, 0, none⟩ = some (.string (str (nth t k).1))) := fun W hb => (hb.cell (World.block_lt_of_cell? wx _ hcx)).trans hcx
      have HBx : Hid (Below w2.heap.size w2 wx) := bel_trans hbl.out hbx
      have HIx : Hid (∀ W, Below wx.heap.size wx W → InF (.slice (some ⟨g, o, none⟩) t.length c) t W) := fun W hb => HI.out W (bel_trans HBx.out hb)
      have HMx : Hid (∀ W, Below wx.heap.size wx W → RdF m t' W) := fun W hb => HMm.out W (bel_trans HBx.out hb)
      have HBn : Hid (Below wx.heap.size wx wx.drew) := below_drewN (Below.refl _ wx) 1
      have k1 := HCx.out _ HBn.out
      clear hcell hv0 hv1 hbx hcx
      generalize vals (nth t k).1 t = L at *
      generalize str (nth t k).1 = N at *
      generalize str (nth t k).2 = V at *
      have HX1 : Hid True := trivial
      have HX2 : Hid True := trivial
      have HU : Hid True := trivial
      go_wp2_with fail
      rw [← hwx]
      clear hwx
      go_region_held3 (fun W => W.cell? ⟨wr.heap.size, 0, none⟩ = some (.string N)) (first | with_reducible exact HCx.out _ HBn.out) (first
        | (go_at_call 26; refine (HWi.out _ (HIx.out _ HBn.out)).mono ?_; rintro e wn ⟨uw, rfl, hu, hbn⟩; (try (have HX1 : Hid (RdS _ L wn) := HX1.out.below hbn)); (try (have HX2 : Hid (RdS _ L wn) := HX2.out.below hbn)); have HBn : Hid (Below wx.heap.size wx wn) := HBn.out.trans (hbn.mono HBn.out.size); have HU : Hid (RdF uw t wn) := hu.rd; clear hu hbn)
        | (go_at_call 28; (first | with_reducible refine (HAk.out _ _ _ HKy.out (HMx.out _ HBn.out)).mono ?_ | with_reducible refine (HAk.out _ _ _ rfl HU.out).mono ?_); rintro e wn ⟨x, rfl, ho, hbn⟩; (try (have HU : Hid (RdF _ t wn) := HU.out.below hbn)); (try (have HX1 : Hid (RdS _ L wn) := HX2.out.below hbn)); have HBn : Hid (Below wx.heap.size wx wn) := HBn.out.trans (hbn.mono HBn.out.size); have HX2 : Hid (RdS x L wn) := ho.rd; obtain ⟨xa, xc, rfl⟩ := ho.form; clear ho hbn)
        | (go_at_call 27; (first | with_reducible refine (HTk.out _ _ _ HX1.out HX2.out).mono ?_ | with_reducible refine (HTk.out _ _ _ HX2.out HX1.out).mono ?_); rintro e wn ⟨rfl, hbn⟩; have HBn : Hid (Below wx.heap.size wx wn) := HBn.out.trans (hbn.mono HBn.out.size); clear hbn))
      all_goals
        go_wp2
        go_roundw
        case rel => exact ⟨k + 1, by omega, by go_num, bel_trans HBx.out HBn.out⟩
        case measure => simp [intOf]; omega
    · obtain rfl : k = t.length := by omega
      go_wp2_with fail
      refine (HWi.out _ (HI.out _ hbl.out)).mono ?_
      rintro e w20 ⟨u20, rfl, hu, hb⟩
      have H20 : Hid (Below w2.heap.size w2 w20) := bel_trans hbl.out hb
      have U20 : Hid (RdF u20 t w20) := hu.rd
      clear hb hu
      go_wp2_with fail
      refine (HOn.out _ _ _ rfl U20.out (HE.out _ H20.out)).mono ?_
      rintro e w21 ⟨xa, xc, rfl, hb⟩
      have H21 : Hid (Below w2.heap.size w2 w21) := bel_trans H20.out hb
      clear hb
      go_wp2_with fail
      refine (HOn.out _ _ _ HKy.out (HMm.out _ H21.out) (HE.out _ H21.out)).mono ?_
      rintro e w22 ⟨ya, yc, rfl, hb⟩
      have H22 : Hid (Below w2.heap.size w2 w22) := bel_trans H21.out hb
      clear hb
      go_wp2
      go_ret
      exact ⟨rfl, bel_trans HB2.out H22.out⟩

end Fd
end Go.Proofs.YtfpncbgedhodaaaDoor
