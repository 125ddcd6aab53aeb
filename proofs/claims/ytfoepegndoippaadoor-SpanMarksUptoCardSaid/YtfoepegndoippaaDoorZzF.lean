/- Several texts as one. -/
import Derived.Test.YtfoepegndoippaaDoorZzA
import Derived.Test.YtfoepegndoippaaDoorZzD
import Derived.Test.YtfoepegndoippaaDoorZzE
import Derived.Maps.OwnSet
import Derived.Maps.Keyed
import Derived.Test.YtfoepegndoippaaDoorZzC
/-
  span: a set of numbers that the call makes; takenNumbers.
-/
set_option linter.unusedVariables false
set_option linter.unusedSimpArgs false
namespace Go.Proofs.YtfoepegndoippaaDoor
open Go.RowKit Go.Shelf
namespace Sn
open Oc Tg Ac Mk

def litI (x : Nat) : Lit := .int .i64 (x : Int)
def setI (L : List Nat) : DataW Unit := Maps.setOf (.agg []) (L.map litI)
/-- Block B is a map whose keys are L. -/
def MI (B n : Nat) (L : List Nat) (w : World) : Prop := w.ownsMap Tryd.prog 3 (unitElem (H := Unit)) B n (setI L)
theorem lawI : Maps.Keyed Tryd.prog 3 := Maps.int_keyed Tryd.underlying3
theorem keyI (x : Nat) (h : x ≤ 9223372036854775807) : keyOf Tryd.prog 3 (.int .i64 (x : Int)) = some (litI x) :=
  Maps.keyOf_int_mk (P := Tryd.prog) Tryd.underlying3 (by
    have h1 : IntKind.i64.min = -9223372036854775808 := rfl
    have h2 : IntKind.i64.max = 9223372036854775807 := rfl
    simp only [Lit.wf, Bool.and_eq_true, decide_eq_true_eq]
    omega)
theorem same_litI (x y : Nat) : (litI x).sameKey (litI y) = decide (x = y) := by
  rw [Bool.eq_iff_iff, decide_eq_true_iff]
  simp [litI, Lit.sameKey]
  omega
theorem has_setI (L : List Nat) (x : Nat) : Maps.has (setI L) (litI x) = decide (x ∈ L) := by
  unfold setI
  rw [Maps.has_setOf _ _ _ (by intro y hy; obtain ⟨z, _, rfl⟩ := List.mem_map.1 hy; trivial)]
  rw [Bool.eq_iff_iff, List.any_eq_true, decide_eq_true_iff]
  constructor
  · rintro ⟨y, hy, he⟩
    obtain ⟨z, hz, rfl⟩ := List.mem_map.1 hy
    rw [same_litI, decide_eq_true_iff] at he
    rw [← he]
    exact hz
  · intro h
    exact ⟨litI x, List.mem_map.2 ⟨x, h, rfl⟩, by rw [same_litI]; simp⟩
theorem setI_snoc (L : List Nat) (x : Nat) : setI (L ++ [x]) = (setI L).put (litI x) (.agg []) := by
  unfold setI
  rw [List.map_append, List.map_singleton, Maps.setOf_snoc]

theorem zeroU (w : World) : (zeroValue 35).run Tryd.prog w = .ok (.agg #[]) w := by kernel_rfl

theorem MI.below {B n : Nat} {L : List Nat} {w w' : World} (h : MI B n L w) (b : Below w.heap.size w w') : MI B n L w' := by
  obtain ⟨es, clock, hb, r⟩ := h
  exact ⟨es, clock, (b.block _ (Array.getElem?_eq_some_iff.1 hb).1).trans hb, r⟩
theorem wp_putI {ops : Array Oper} {rest : List Oper} {o : Oper} {a : Act} {Q : Exit → Act → World → Prop} (w : World) (hg : o.guard = none) (m x v : Operand) (hop : o.op = Op.mapUpdate 33 m x v)
    (B n : Nat) (L : List Nat) (hm : a.eval m = .map (some B)) (h : MI B n L w) (hn : n < maxLen) (k : Nat) (hk : k ≤ 9223372036854775807) (z : Int) (hz : z = (k : Int)) (hx : a.eval x = .int .i64 z) (hv : a.eval v = .agg #[])
    (hK : ∀ w', Hid (MI B (n + 1) (L ++ [k]) w') → Hid (w.mapTurned w' B) → wpList Tryd.prog ops Q rest (a.put o.dst undef) w') : wpList Tryd.prog ops Q (o :: rest) a w := by
  refine wpList_plain hg fun K' hK' => ?_
  obtain ⟨w', hrun, r1, r2⟩ := World.ownsMap.store (t := 33) h lawI Tryd.underlying33 hn (keyI k hk) unitElem_mk
  rw [← setI_snoc] at r1
  subst hz
  unfold Oper.wp
  simp [execOp, hop, hm, hx, hv, hrun, Result.andThen]
  exact hK' _ _ (hK w' r1 r2)
theorem look_MI {B n : Nat} {L : List Nat} {W : World} (h : MI B n L W) (k : Nat) (hk : k ≤ 9223372036854775807) : (Instr.lookup 33 (.map (some B)) (.int .i64 (k : Int)) true).run Tryd.prog W = .ok (.tuple #[.agg #[], .bool (decide (k ∈ L))]) W := by
  obtain ⟨v, ps, hrun, hv⟩ := World.ownsMap.look_ok (t := 33) h lawI Tryd.underlying33 (zeroU W) unitElem_mk (keyI k hk)
  obtain ⟨rfl, _⟩ := unitElem_inv hv
  rw [has_setI] at hrun
  exact hrun
theorem turned_below {w0 w w' : World} {B : Nat} (hb : Below w0.heap.size w0 w) (hB : w0.heap.size ≤ B) (h : w.mapTurned w' B) : Below w0.heap.size w0 w' := hb.grown h.grown hb.size (fun k hk => by cases hk; exact hB)

def strZ (v : Value) : Nat := match v with | .string s => s.size | _ => 0
theorem cnt_step {c c' M k n : Nat} (h : n ≤ c * M + k) (hk : k ≤ M) (hc : c + 1 ≤ c') : n ≤ c' * M := by
  have h1 : (c + 1) * M ≤ c' * M := Nat.mul_le_mul_right M hc
  rw [Nat.succ_mul] at h1
  omega
theorem byte_sub (c : UInt8) (h : isD c = true) : IntKind.u8.wrap ((c.toNat : Int) - 48) = (vd c : Int) := by
  rw [isD_iff] at h
  have : ∀ n : Nat, n < 256 → 48 ≤ n ∧ n ≤ 57 → IntKind.u8.wrap ((n : Int) - 48) = ((n - 48 : Nat) : Int) := by decide +kernel
  exact this c.toNat (UInt8.toNat_lt c) h
theorem isDigit_any (c : UInt8) (w : World) : Calls Tryd.prog 19 #[.int .u8 (c.toNat : Int)] w fun e w' => e = .returned (.bool (isD c)) ∧ w' = w := by
  have HV : Hid (isD c = (decide (48 ≤ c.toNat) && decide (c.toNat ≤ 57))) := (rfl : _ = _)
  have hb : c.toNat < 256 := UInt8.toNat_lt c
  generalize isD c = V at *
  generalize c.toNat = n at *
  by_cases h1 : 48 ≤ n
  · have g1 : (48 : Int) ≤ (n : Int) := by omega
    by_cases h2 : n ≤ 57
    · have g2 : (n : Int) ≤ 57 := by omega
      rw [decide_eq_true h1, decide_eq_true h2] at HV
      go_enter Tryd.func19, Tryd.ntmps19
      go_wp2
      go_ret
      exact ⟨by rw [HV.out]; rfl, rfl⟩
    · have g2 : ¬ (n : Int) ≤ 57 := by omega
      rw [decide_eq_true h1, decide_eq_false h2] at HV
      go_enter Tryd.func19, Tryd.ntmps19
      go_wp2
      go_ret
      exact ⟨by rw [HV.out]; rfl, rfl⟩
  · have g1 : ¬ (48 : Int) ≤ (n : Int) := by omega
    rw [decide_eq_false h1] at HV
    go_enter Tryd.func19, Tryd.ntmps19
    go_wp2
    go_ret
    exact ⟨by rw [HV.out]; rfl, rfl⟩

theorem cut_yes {s p : List UInt8} {i : Nat} (hi : Lib.index s p = (i : Int)) : Lib.cut s p = (s.take i, s.drop (i + p.length), true) := by
  unfold Lib.cut
  rw [hi, if_pos (by omega)]
  rfl
theorem cut_no {s p : List UInt8} (hi : Lib.index s p = -1) : Lib.cut s p = (s, [], false) := by
  unfold Lib.cut
  rw [hi, if_neg (by omega)]

end Sn
end Go.Proofs.YtfoepegndoippaaDoor

/-
  span: takenNumbers.
-/
set_option linter.unusedVariables false
set_option linter.unusedSimpArgs false
namespace Go.Proofs.YtfoepegndoippaaDoor
open Go.RowKit Go.Shelf
namespace Sn
open Oc Tg Ac Mk

theorem val_zero {r : Bs} {k : Nat} (h : Dg r k) (hk : k < r.length) (hd : isD (r.getD k 0) = true) (hz : val (r.take (k + 1)) = 0) : k = 0 ∧ r.getD 0 0 = 48 := by
  have h1 := (isD_iff _).1 hd
  rw [val_take hk] at hz
  have hv : vd (r.getD k 0) = 0 := by omega
  have h48 : r.getD k 0 = 48 := UInt8.toNat_inj.1 (by
    unfold vd at hv
    have : (48 : UInt8).toNat = 48 := rfl
    omega)
  by_cases h0 : k = 0
  · subst h0; exact ⟨rfl, h48⟩
  · exfalso
    have hh := h.head (by omega)
    have hr : 0 < r.length := by omega
    cases r with
    | nil => simp at hr
    | cons c t =>
      have hc : c ≠ 48 := hh
      have hdc : isD c = true := h.dig 0 (by omega)
      have hp := val_cons_pos c hdc hc ((t.take (k - 1)).length) (t.take (k - 1)) rfl
      have e : (c :: t).take k = c :: t.take (k - 1) := by
        obtain ⟨k', rfl⟩ : ∃ k', k = k' + 1 := ⟨k - 1, by omega⟩
        rfl
      rw [← e] at hp
      omega
theorem Dg_next {r : Bs} {k : Nat} (h : Dg r k) (hk : k < r.length) (hd : isD (r.getD k 0) = true) (hz : val (r.take (k + 1)) ≠ 0) : Dg r (k + 1) := by
  refine ⟨by omega, fun j hj => ?_, fun _ => ?_⟩
  · rcases Nat.lt_succ_iff_lt_or_eq.1 hj with h' | rfl
    · exact h.dig j h'
    · exact hd
  · by_cases h0 : k = 0
    · subst h0
      intro e
      apply hz
      rw [val_take hk, e]
      rfl
    · exact h.head (by omega)

set_option maxRecDepth 100000 in
set_option maxHeartbeats 4000000 in
theorem taken_any (b : Bs) (hb : b.length ≤ 1048576) (w : World) (hw : ML w) :
    Calls Tryd.prog 9 #[.string (str b)] w fun e w' => ∃ n ks, e = .returned (.map (some w.heap.size)) ∧ MI w.heap.size n ks w' ∧ (∀ m, m ∈ ks ↔ m ≤ b.length ∧ std b m) ∧ Below w.heap.size w w' := by
  have hmm := @run_makeMap Tryd.prog
  have H0 : Hid (MI w.heap.size 0 [] (w.alloc (.map #[] 0))) := World.ownsMap_made _ _ _ _
  have HB0 : Hid (Below w.heap.size w (w.alloc (.map #[] 0))) := (Below.refl _ w).alloc (Nat.le_refl _) _
  have HC : Hid (∀ c W, Below w.heap.size w W → Calls Tryd.prog 18 #[.string (str (b.drop c)), .string (str PP)] W fun e w' => e = .returned (.tuple #[.string (str (Lib.cut (b.drop c) PP).1), .string (str (Lib.cut (b.drop c) PP).2.1), .bool (Lib.cut (b.drop c) PP).2.2]) ∧ Below (World.heap W).size W w') := fun c W hbl => by
    have := Cut_any (str (b.drop c)) (str PP) (by rw [str_size, List.length_drop]; omega) W (hw.below hbl)
    rw [str_list, str_list] at this
    exact this
  have zb : (str b).size = b.length := str_size b
  clear hw
  have hb0 : b.drop 0 = b := List.drop_zero
  have HS0 : Hid (str b = str (b.drop 0)) := (by rw [hb0] : _ = _)
  clear hb0
  go_enter Tryd.func9, Tryd.ntmps9
  go_wp2
  go_loopw [4] (fun r wr => ∃ (c n : Nat) (ks : List Nat), c ≤ b.length ∧ r = .string (str (b.drop c)) ∧ Hid (At b c) ∧ Hid (∀ m, m ∈ ks ↔ Tk b c m) ∧ Hid (n ≤ c * (b.length + 1)) ∧ Hid (MI w.heap.size n ks wr) ∧ Hid (Below w.heap.size w wr)) (fun r _ => strZ r)
  case atStart => exact ⟨0, 0, [], Nat.zero_le _, by rw [HS0.out], (.inl rfl : At b 0), (fun m => ⟨fun h => (by cases h), fun h => absurd h (Tk_zero b m)⟩ : ∀ m, m ∈ ([] : List Nat) ↔ Tk b 0 m), (Nat.zero_le _ : 0 ≤ _), H0, HB0⟩
  case round =>
    clear H0 HB0 HS0
    obtain ⟨c, n, ks, hc, rfl, hAt, hks, hn, hmi, hbl⟩ := hrel
    obtain ⟨wo, rfl⟩ : ∃ wo, wo = wr := ⟨_, rfl⟩
    rcases Lib.index_spec (b.drop c) PP with ⟨hix, hno⟩ | ⟨i0, hix, hi, ho, hno⟩
    · have HF : Hid (∀ m, m ∈ ks ↔ m ≤ b.length ∧ std b m) := fun m => by
        rw [hks.out m]
        constructor
        · intro h
          exact ⟨h.1, (Tk_end hAt.out hno m h.1).1 h⟩
        · rintro ⟨h1, h2⟩
          exact (Tk_end hAt.out hno m h1).2 h2
      have HCc := HC.out c wo hbl.out
      rw [cut_no hix] at HCc
      have HCc' : Hid (Calls _ _ _ _ _) := HCc
      clear HCc hix hno
      go_wp2_with fail
      rw [show (⟨#[45, 45, 112, 97, 114, 116]⟩ : ByteArray) = str PP from rfl]
      refine HCc'.out.mono ?_
      rintro e w2 ⟨rfl, hb2⟩
      have HB2 : Hid (Below w.heap.size w w2) := bel_trans hbl.out hb2
      have HM2 : Hid (MI w.heap.size n ks w2) := hmi.out.below hb2
      clear hb2
      go_wp2
      go_ret
      exact ⟨n, ks, rfl, HM2.out, HF.out, HB2.out⟩
    · have hroom : i0 + 6 ≤ (b.drop c).length := by
        rcases Lib.occAt_room ho with h | h
        · exact h
        · exact absurd h (by decide)
      rw [List.length_drop] at hroom
      have HCc := HC.out c wo hbl.out
      rw [cut_yes hix, List.drop_drop, show c + (i0 + PP.length) = c + i0 + 6 from rfl] at HCc
      have HCc' : Hid (Calls _ _ _ _ _) := HCc
      have HAt2 : Hid (At b (c + i0 + 6)) := (.inr ⟨by omega, by rw [occ_drop] at ho; rw [show c + i0 + 6 - 6 = c + i0 by omega]; exact ho⟩ : At b (c + i0 + 6))
      have HST : Hid (∀ m, Tk b (c + i0 + 6) m ↔ Tk b c m ∨ (m ≤ b.length ∧ D m <+: b.drop (c + i0 + 6))) := fun m => Tk_step hAt.out ho hno m
      have zr : (str (b.drop (c + i0 + 6))).size = (b.drop (c + i0 + 6)).length := str_size _
      have hrl : (b.drop (c + i0 + 6)).length = b.length - (c + i0 + 6) := List.length_drop
      have HBy : Hid (∀ k (h : k < (b.drop (c + i0 + 6)).length), ((((str (b.drop (c + i0 + 6)))[k]'(by rw [zr]; exact h)).toNat : Nat) : Int) = (((b.drop (c + i0 + 6)).getD k 0).toNat : Int)) := fun k h => by
        rw [byt_at (str (b.drop (c + i0 + 6))) k (by rw [zr]; exact h)]
        unfold byt
        rw [str_list]
      have HMeas : Hid (strZ (.string (str (b.drop (c + i0 + 6)))) < strZ (.string (str (b.drop c)))) := (by show (str (b.drop (c + i0 + 6))).size < (str (b.drop c)).size; rw [str_size, str_size, List.length_drop, List.length_drop]; omega : _ < _)
      have HRS : Hid (str (b.drop (c + i0 + 6)) = str (b.drop (c + i0 + 6))) := (rfl : _ = _)
      generalize str ((b.drop c).take i0) = S0 at *
      clear HCc hix hno ho hAt hi
      have HR0 : Hid (∃ r, r = b.drop (c + i0 + 6)) := (⟨_, rfl⟩ : ∃ r, r = b.drop (c + i0 + 6))
      generalize hr : b.drop (c + i0 + 6) = r at *
      have HRr : Hid (b.drop (c + i0 + 6) = r) := hr
      clear hr HR0 HRS
      generalize hS : str r = S at *
      have HSr : Hid (str r = S) := hS
      clear hS
      go_wp2_with fail
      rw [show (⟨#[45, 45, 112, 97, 114, 116]⟩ : ByteArray) = str PP from rfl]
      refine HCc'.out.mono ?_
      rintro e w2 ⟨rfl, hb2⟩
      have HB2 : Hid (Below w.heap.size w w2) := bel_trans hbl.out hb2
      have HM2 : Hid (MI w.heap.size n ks w2) := hmi.out.below hb2
      clear hb2 HCc'
      go_wp2
      go_loopw [6, 7] (fun nv iv wr => ∃ (k n' : Nat) (ks' : List Nat), k ≤ r.length ∧ nv = .int .i64 ((val (r.take k) : Nat) : Int) ∧ iv = .int .i64 (k : Int) ∧ Hid (Dg r k) ∧ val (r.take k) ≤ b.length ∧ Hid (∀ m, m ∈ ks' ↔ Tk b c m ∨ Ik r k m) ∧ Hid (n' ≤ c * (b.length + 1) + k) ∧ Hid (MI w.heap.size n' ks' wr) ∧ Hid (Below w.heap.size w wr)) (fun _ iv _ => r.length - (intOf iv).toNat)
      case atStart => exact ⟨0, n, ks, Nat.zero_le _, rfl, rfl, Dg.zero r, Nat.zero_le _, (fun m => ⟨fun h => .inl ((hks.out m).1 h), fun h => h.elim (fun h => (hks.out m).2 h) (fun h => absurd h (Ik_zero r m))⟩ : ∀ m, m ∈ ks ↔ _), (hn.out : n ≤ _), HM2, HB2⟩
      case round =>
        clear HM2 HB2 hn hmi hks hbl
        obtain ⟨k, n', ks', hk, rfl, rfl, hDg, hval, hks', hn', hmi', hbl'⟩ := hrel
        have HDone : Hid ((∀ m, (m ≤ b.length ∧ D m <+: r) ↔ Ik r k m) → ∀ m, m ∈ ks' ↔ Tk b (c + i0 + 6) m) := fun h m => by rw [hks'.out m, HST.out m, h m]
        have HCnt : Hid (n' ≤ (c + i0 + 6) * (b.length + 1)) := cnt_step hn'.out (by omega) (by omega)
        have HLe : Hid (∀ m, Ik r k m → m ≤ b.length) := fun m h => Nat.le_trans (Ik_le h) hval
        by_cases hlt : k < r.length
        · have hki : (k : Int) < (r.length : Int) := by omega
          have hby := HBy.out k hlt
          have hzk : k < S.size := by omega
          have HDi : Hid (∀ W, Calls Tryd.prog 19 #[.int .u8 ((r.getD k 0).toNat : Int)] W fun e w' => e = .returned (.bool (isD (r.getD k 0))) ∧ w' = W) := fun W => isDigit_any _ W
          have hbd : (r.getD k 0).toNat < 256 := UInt8.toNat_lt _
          cases hd : isD (r.getD k 0) with
          | false =>
            rw [hd] at HDi
            have HF : Hid (∀ m, m ∈ ks' ↔ Tk b (c + i0 + 6) m) := HDone.out (fun m => ⟨fun h => (Ik_stop hDg.out (.inr hd) m).1 h.2, fun h => ⟨HLe.out m h, h.1⟩⟩)
            clear hks' HDone hd
            generalize ((r.getD k 0).toNat : Int) = X at *
            generalize val (r.take k) = v0 at *
            go_wp2_with (first | (go_at_call 19; refine (HDi.out _).mono ?_; rintro e w' ⟨rfl, rfl⟩))
            go_roundw
            case rel => exact ⟨c + i0 + 6, n', ks', by omega, by rw [HRr.out, HSr.out], HAt2, HF, HCnt, hmi', hbl'⟩
            case measure => exact HMeas.out
          | true =>
            rw [hd] at HDi
            have hsub := byte_sub _ hd
            have hdd := (isD_iff _).1 hd
            have hvt := val_take (r := r) hlt
            have hvd : vd (r.getD k 0) ≤ 9 := by unfold vd; omega
            have HST2 : Hid (∀ m, Ik r (k + 1) m ↔ Ik r k m ∨ m = val (r.take (k + 1))) := fun m => Ik_step hDg.out hlt hd m
            have HMu : Hid (b.length < val (r.take (k + 1)) → ∀ m, (m ≤ b.length ∧ D m <+: r) ↔ Ik r k m) := fun h m => by
              rw [Ik_much hDg.out hlt h m]
              exact ⟨fun h => h.2, fun h => ⟨HLe.out m h, h⟩⟩
            have HZ : Hid (val (r.take (k + 1)) = 0 → ∀ m, (m ≤ b.length ∧ D m <+: r) ↔ Ik r (k + 1) m) := fun h m => by
              obtain ⟨h0, h48⟩ := val_zero hDg.out hlt hd h
              subst h0
              rw [Ik_none (by omega) h48 m]
              refine ⟨fun h => h.2, fun h' => ⟨?_, h'⟩⟩
              have := Ik_le h'
              omega
            have HNx : Hid (val (r.take (k + 1)) ≠ 0 → Dg r (k + 1)) := fun h => Dg_next hDg.out hlt hd h
            clear hd
            generalize ((r.getD k 0).toNat : Int) = X at *
            generalize vd (r.getD k 0) = Y at *
            generalize hv0 : val (r.take k) = v0 at *
            generalize hv1 : val (r.take (k + 1)) = v1 at *
            have HV1 : Hid (val (r.take (k + 1)) = v1) := hv1
            clear hv0 hv1 hdd
            have hw1 : IntKind.i64.wrap ((v0 : Int) * 10) = (v0 : Int) * 10 := by rw [IntKind.wrap_i64]; omega
            have hw2 : IntKind.i64.wrap ((v0 : Int) * 10 + (Y : Int)) = (v1 : Int) := by rw [IntKind.wrap_i64]; omega
            have hw3 : IntKind.i64.wrap (Y : Int) = (Y : Int) := by rw [IntKind.wrap_i64]; omega
            by_cases hmuch : b.length < v1
            · have hmi : (b.length : Int) < (v1 : Int) := by omega
              have HF : Hid (∀ m, m ∈ ks' ↔ Tk b (c + i0 + 6) m) := HDone.out (HMu.out hmuch)
              clear hks' HDone HMu HZ HNx HST2 hvt
              go_wp2_with (first | (go_at_call 19; refine (HDi.out _).mono ?_; rintro e w' ⟨rfl, rfl⟩))
              go_roundw
              case rel => exact ⟨c + i0 + 6, n', ks', by omega, by rw [HRr.out, HSr.out], HAt2, HF, HCnt, hmi', hbl'⟩
              case measure => exact HMeas.out
            · have hmi : ¬ (b.length : Int) < (v1 : Int) := by omega
              have hcm : n' < maxLen := by
                have h1 := hn'.out
                have h2 : c * (b.length + 1) ≤ 1048576 * 1048577 := Nat.mul_le_mul (by omega) (by omega)
                unfold maxLen
                omega
              have HKS : Hid (∀ m, m ∈ ks' ++ [v1] ↔ Tk b c m ∨ Ik r (k + 1) m) := fun m => by
                rw [List.mem_append, List.mem_singleton, hks'.out m, HST2.out m, or_assoc]
              have hn2 : n' + 1 ≤ c * (b.length + 1) + (k + 1) := by have := hn'.out; omega
              have HN2 : Hid (n' + 1 ≤ c * (b.length + 1) + (k + 1)) := hn2
              have HCnt2 : Hid (n' + 1 ≤ (c + i0 + 6) * (b.length + 1)) := cnt_step hn2 (by omega) (by omega)
              clear hn2 hks' HDone HMu HST2 hvt
              by_cases hz : v1 = 0
              · subst hz
                have HF : Hid (∀ m, m ∈ ks' ++ [0] ↔ Tk b (c + i0 + 6) m) := fun m => by rw [HKS.out m, HST.out m, HZ.out rfl m]
                go_wp2_with (first | (go_at_call 19; refine (HDi.out _).mono ?_; rintro e w' ⟨rfl, rfl⟩) | (refine wp_putI _ rfl _ _ _ rfl w.heap.size n' ks' rfl hmi'.out hcm 0 (by omega) 0 rfl rfl rfl ?_; intro wn HM' HT; have HBt : Hid (Below w.heap.size w wn) := turned_below hbl'.out (Nat.le_refl _) HT.out; clear HT))
                go_roundw
                case rel => exact ⟨c + i0 + 6, n' + 1, ks' ++ [0], by omega, by rw [HRr.out, HSr.out], HAt2, HF, HCnt2, HM', HBt⟩
                case measure => exact HMeas.out
              · have hzi : ((v1 : Int) == 0) = false := beq_eq_false_iff_ne.2 (by omega)
                have HD2 : Hid (Dg r (k + 1)) := HNx.out hz
                go_wp2_with (first | (go_at_call 19; refine (HDi.out _).mono ?_; rintro e w' ⟨rfl, rfl⟩) | (refine wp_putI _ rfl _ _ _ rfl w.heap.size n' ks' rfl hmi'.out hcm v1 (by omega) _ rfl rfl rfl ?_; intro wn HM' HT; have HBt : Hid (Below w.heap.size w wn) := turned_below hbl'.out (Nat.le_refl _) HT.out; clear HT))
                go_roundw
                case rel => exact ⟨k + 1, n' + 1, ks' ++ [v1], by omega, by rw [HV1.out], by go_num, HD2, by rw [HV1.out]; omega, HKS, HN2, HM', HBt⟩
                case measure => simp [intOf]; omega
        · have hke : k = r.length := by omega
          have hki : ¬ (k : Int) < (r.length : Int) := by omega
          have HF : Hid (∀ m, m ∈ ks' ↔ Tk b (c + i0 + 6) m) := HDone.out (fun m => ⟨fun h => (Ik_stop hDg.out (.inl hke) m).1 h.2, fun h => ⟨HLe.out m h, h.1⟩⟩)
          clear hks' HDone
          generalize val (r.take k) = v0 at *
          go_wp2
          go_roundw
          case rel => exact ⟨c + i0 + 6, n', ks', by omega, by rw [HRr.out, HSr.out], HAt2, HF, HCnt, hmi', hbl'⟩
          case measure => exact HMeas.out

end Sn
end Go.Proofs.YtfoepegndoippaaDoor

/-
  Quoted texts, plainly: over lists of bytes.
-/
set_option linter.unusedVariables false
set_option linter.unusedSimpArgs false
namespace Go.Proofs.YtfoepegndoippaaDoor
namespace Oc

def qByte (c : UInt8) : List UInt8 := if c = 34 ∨ c = 92 then [92, c] else [c]
def qBody (l : List UInt8) : List UInt8 := l.flatMap qByte
def qText (l : List UInt8) : List UInt8 := 34 :: (qBody l ++ [34])
def quoteR (l : List UInt8) : List UInt8 × Int := if isFld l then (qText l, 0) else ([], 13)

theorem qBody_snoc (l : List UInt8) (c : UInt8) : qBody (l ++ [c]) = qBody l ++ qByte c := by unfold qBody; rw [List.flatMap_append]; simp
theorem qByte_le (c : UInt8) : (qByte c).length ≤ 2 := by unfold qByte; split <;> simp
theorem qBody_le : ∀ l : List UInt8, (qBody l).length ≤ 2 * l.length
  | [] => by simp [qBody]
  | c :: l => by
    have := qBody_le l
    have h := qByte_le c
    unfold qBody at *
    rw [List.flatMap_cons, List.length_append, List.length_cons]
    omega

/-- The rest of a quoted text behind its first sign: how many bytes up to its end. -/
def qscan : Bool → List UInt8 → Option Nat
  | _, [] => none
  | e, c :: l => if fieldB c = false then none else if e then (qscan false l).map (· + 1) else if c = 92 then (qscan true l).map (· + 1) else if c = 34 then some 1 else (qscan false l).map (· + 1)
def plusOne : Option Nat → Nat
  | some k => k + 1
  | none => 0
def qlen : List UInt8 → Nat
  | [] => 0
  | c :: l => if c = 34 then plusOne (qscan false l) else 0
theorem qlen_cons (c : UInt8) (l : List UInt8) : qlen (c :: l) = if c = 34 then plusOne (qscan false l) else 0 := rfl
/-- What parts say. -/
def psay : Bool → List UInt8 → List UInt8
  | _, [] => []
  | e, c :: l => if c = 92 ∧ e = false then psay true l else c :: psay false l
/-- The document's way: what it says, and how many bytes. -/
def ru : Bool → List UInt8 → Option (List UInt8 × Nat)
  | _, [] => none
  | true, c :: l => if fieldB c then (ru false l).map (fun x => (c :: x.1, x.2 + 1)) else none
  | false, c :: l => if c = 34 then some ([], 1) else if c = 92 then (ru true l).map (fun x => (x.1, x.2 + 1)) else if fieldB c then (ru false l).map (fun x => (c :: x.1, x.2 + 1)) else none

theorem field34 : fieldB 34 = true := by decide
theorem field92 : fieldB 92 = true := by decide

theorem qscan_pos : ∀ (l : List UInt8) (e : Bool) (k : Nat), qscan e l = some k → 1 ≤ k ∧ k ≤ l.length
  | [], e, k, h => by simp [qscan] at h
  | c :: l, e, k, h => by
    unfold qscan at h
    split at h
    · cases h
    · split at h
      · obtain ⟨j, hj, rfl⟩ := Option.map_eq_some_iff.1 h
        have := qscan_pos l _ j hj
        simp; omega
      · split at h
        · obtain ⟨j, hj, rfl⟩ := Option.map_eq_some_iff.1 h
          have := qscan_pos l _ j hj
          simp; omega
        · split at h
          · cases h; simp
          · obtain ⟨j, hj, rfl⟩ := Option.map_eq_some_iff.1 h
            have := qscan_pos l _ j hj
            simp; omega

theorem ru_eq : ∀ (l : List UInt8) (e : Bool), ru e l = (qscan e l).map (fun k => (psay e (l.take (k - 1)), k))
  | [], e => by cases e <;> rfl
  | c :: l, true => by
    unfold ru qscan
    cases hf : fieldB c with
    | false => simp
    | true =>
      simp only [if_true, Bool.true_eq_false, if_false]
      rw [ru_eq l false]
      cases hq : qscan false l with
      | none => rfl
      | some k =>
        have hk := qscan_pos l false k hq
        simp only [Option.map_some, Option.some.injEq, Prod.mk.injEq, and_true]
        rw [show k + 1 - 1 = (k - 1) + 1 by omega, List.take_succ_cons, psay]
        simp
  | c :: l, false => by
    unfold ru qscan
    by_cases h34 : c = 34
    · subst h34
      simp [field34, psay]
    · rw [if_neg h34]
      by_cases h92 : c = 92
      · subst h92
        simp only [field92, if_true, Bool.true_eq_false, if_false, Bool.false_eq_true]
        rw [ru_eq l true]
        cases hq : qscan true l with
        | none => rfl
        | some k =>
          have hk := qscan_pos l true k hq
          simp only [Option.map_some, Option.some.injEq, Prod.mk.injEq, and_true]
          rw [show k + 1 - 1 = (k - 1) + 1 by omega, List.take_succ_cons, psay]
          simp
      · rw [if_neg h92]
        cases hf : fieldB c with
        | false => simp
        | true =>
          simp only [if_true, Bool.true_eq_false, if_false, Bool.false_eq_true, if_neg h92, if_neg h34]
          rw [ru_eq l false]
          cases hq : qscan false l with
          | none => rfl
          | some k =>
            have hk := qscan_pos l false k hq
            simp only [Option.map_some, Option.some.injEq, Prod.mk.injEq, and_true]
            rw [show k + 1 - 1 = (k - 1) + 1 by omega, List.take_succ_cons, psay]
            simp [h92]

/-- What Unquote answers. -/
def unqR (l : List UInt8) : List UInt8 × Int × Int :=
  if qlen l = 0 then ([], 0, 13) else (psay false ((l.drop 1).take (qlen l - 2)), (qlen l : Int), 0)

theorem qlen_bd (l : List UInt8) : qlen l ≤ l.length ∧ (qlen l ≠ 0 → 2 ≤ qlen l) := by
  cases l with
  | nil => simp [qlen]
  | cons c l =>
    by_cases hc : c = 34
    · cases hq : qscan false l with
      | none => simp [qlen, plusOne, hc, hq]
      | some k =>
        have := qscan_pos l false k hq
        have e : qlen (c :: l) = k + 1 := by simp [qlen, plusOne, hc, hq]
        rw [e]
        simp
        omega
    · simp [qlen, hc]
theorem psay_le : ∀ (l : List UInt8) (e : Bool), (psay e l).length ≤ l.length
  | [], e => by simp [psay]
  | c :: l, e => by
    unfold psay
    split
    · have := psay_le l true
      simp; omega
    · have := psay_le l false
      simp; omega

/-- By the document's way. -/
theorem unqR_none (l : List UInt8) (h : ru false l = none) : unqR (34 :: l) = ([], 0, 13) := by
  rw [ru_eq] at h
  cases hq : qscan false l with
  | none => simp [unqR, qlen, plusOne, hq]
  | some k => rw [hq] at h; cases h
theorem unqR_some (l : List UInt8) (x : List UInt8 × Nat) (h : ru false l = some x) : unqR (34 :: l) = (x.1, (x.2 : Int) + 1, 0) := by
  rw [ru_eq] at h
  cases hq : qscan false l with
  | none => rw [hq] at h; cases h
  | some k =>
    rw [hq] at h
    simp only [Option.map_some, Option.some.injEq] at h
    have e : qlen (34 :: l) = k + 1 := by simp [qlen, plusOne, hq]
    unfold unqR
    rw [e, if_neg (by omega), ← h]
    simp

/-- What was quoted is read back, whatever stands behind. -/
theorem ru_body : ∀ (l : List UInt8) (r : List UInt8), isFld l = true → ru false (qBody l ++ 34 :: r) = some (l, (qBody l).length + 1)
  | [], r, _ => by simp [qBody, ru]
  | c :: l, r, h => by
    have hc : fieldB c = true ∧ isFld l = true := by simpa [isFld] using h
    have ih := ru_body l r hc.2
    have e : qBody (c :: l) = qByte c ++ qBody l := by unfold qBody; rw [List.flatMap_cons]
    rw [e, List.append_assoc]
    unfold qByte
    by_cases hq : c = 34 ∨ c = 92
    · rw [if_pos hq]
      show ru false (92 :: c :: (qBody l ++ 34 :: r)) = _
      rw [ru, if_neg (by decide), if_pos rfl, ru, if_pos hc.1, ih]
      simp
    · rw [if_neg hq]
      show ru false (c :: (qBody l ++ 34 :: r)) = _
      rw [ru, if_neg (fun h => hq (.inl h)), if_neg (fun h => hq (.inr h)), if_pos hc.1, ih]
      simp
theorem unqR_back (l r : List UInt8) (h : isFld l = true) : unqR (qText l ++ r) = (l, ((qText l).length : Int), 0) := by
  have e : qText l ++ r = 34 :: (qBody l ++ 34 :: r) := by unfold qText; simp
  rw [e, unqR_some _ _ (ru_body l r h)]
  unfold qText
  simp

end Oc
end Go.Proofs.YtfoepegndoippaaDoor
