/-
  span: takenNumbers.
-/
import Derived.Test.YthdfgepnadgkjaaGreatDoorZzV
set_option linter.unusedVariables false
set_option linter.unusedSimpArgs false
namespace Go.Proofs.YthdfgepnadgkjaaGreatDoor
open Go.RowKit Go.Shelf
namespace Sn
open Oc Tg Ac Mk

theorem val_zero {r : Bs} {k : Nat} (h : Dg r k) (hk : k < r.length) (hd : isD (r.getD k 0) = true) (hz : val (r.take (k + 1)) = 0) : k = 0 ∧ r.getD 0 0 = 48 := by
  have h1 := (isD_iff _).1 hd
  rw [val_take hk] at hz
  have hv : vd (r.getD k 0) = 0 := by omega
  have h48 : r.getD k 0 = 48 := UInt8.toNat_inj.1 (by
    unfold vd at hv
    have : (48 : UInt8).toNat = 48 := rfl
    omega)
  by_cases h0 : k = 0
  · subst h0; exact ⟨rfl, h48⟩
  · exfalso
    have hh := h.head (by omega)
    have hr : 0 < r.length := by omega
    cases r with
    | nil => simp at hr
    | cons c t =>
      have hc : c ≠ 48 := hh
      have hdc : isD c = true := h.dig 0 (by omega)
      have hp := val_cons_pos c hdc hc ((t.take (k - 1)).length) (t.take (k - 1)) rfl
      have e : (c :: t).take k = c :: t.take (k - 1) := by
        obtain ⟨k', rfl⟩ : ∃ k', k = k' + 1 := ⟨k - 1, by omega⟩
        rfl
      rw [← e] at hp
      omega
theorem Dg_next {r : Bs} {k : Nat} (h : Dg r k) (hk : k < r.length) (hd : isD (r.getD k 0) = true) (hz : val (r.take (k + 1)) ≠ 0) : Dg r (k + 1) := by
  refine ⟨by omega, fun j hj => ?_, fun _ => ?_⟩
  · rcases Nat.lt_succ_iff_lt_or_eq.1 hj with h' | rfl
    · exact h.dig j h'
    · exact hd
  · by_cases h0 : k = 0
    · subst h0
      intro e
      apply hz
      rw [val_take hk, e]
      rfl
    · exact h.head (by omega)

set_option maxRecDepth 100000 in
set_option maxHeartbeats 4000000 in
theorem taken_any (b : Bs) (hb : b.length ≤ 1048576) (w : World) (hw : ML w) :
    Calls Tryz.prog 24 #[.string (str b)] w fun e w' => ∃ n ks, e = .returned (.map (some w.heap.size)) ∧ MI w.heap.size n ks w' ∧ (∀ m, m ∈ ks ↔ m ≤ b.length ∧ std b m) ∧ Below w.heap.size w w' := by
  have hmm := @run_makeMap Tryz.prog
  have H0 : Hid (MI w.heap.size 0 [] (w.alloc (.map #[] 0))) := World.ownsMap_made _ _ _ _
  have HB0 : Hid (Below w.heap.size w (w.alloc (.map #[] 0))) := (Below.refl _ w).alloc (Nat.le_refl _) _
  have HC : Hid (∀ c W, Below w.heap.size w W → Calls Tryz.prog 36 #[.string (str (b.drop c)), .string (str PP)] W fun e w' => e = .returned (.tuple #[.string (str (Lib.cut (b.drop c) PP).1), .string (str (Lib.cut (b.drop c) PP).2.1), .bool (Lib.cut (b.drop c) PP).2.2]) ∧ Below (World.heap W).size W w') := fun c W hbl => by
    have := Cut_any (str (b.drop c)) (str PP) (by rw [str_size, List.length_drop]; omega) W (hw.below hbl)
    rw [str_list, str_list] at this
    exact this
  have zb : (str b).size = b.length := str_size b
  clear hw
  have hb0 : b.drop 0 = b := List.drop_zero
  have HS0 : Hid (str b = str (b.drop 0)) := (by rw [hb0] : _ = _)
  clear hb0
  go_enter Tryz.func24, Tryz.ntmps24
  go_wp2
  go_loopw [4] (fun r wr => ∃ (c n : Nat) (ks : List Nat), c ≤ b.length ∧ r = .string (str (b.drop c)) ∧ Hid (At b c) ∧ Hid (∀ m, m ∈ ks ↔ Tk b c m) ∧ Hid (n ≤ c * (b.length + 1)) ∧ Hid (MI w.heap.size n ks wr) ∧ Hid (Below w.heap.size w wr)) (fun r _ => strZ r)
  case atStart => exact ⟨0, 0, [], Nat.zero_le _, by rw [HS0.out], (.inl rfl : At b 0), (fun m => ⟨fun h => (by cases h), fun h => absurd h (Tk_zero b m)⟩ : ∀ m, m ∈ ([] : List Nat) ↔ Tk b 0 m), (Nat.zero_le _ : 0 ≤ _), H0, HB0⟩
  case round =>
    clear H0 HB0 HS0
    obtain ⟨c, n, ks, hc, rfl, hAt, hks, hn, hmi, hbl⟩ := hrel
    obtain ⟨wo, rfl⟩ : ∃ wo, wo = wr := ⟨_, rfl⟩
    rcases Lib.index_spec (b.drop c) PP with ⟨hix, hno⟩ | ⟨i0, hix, hi, ho, hno⟩
    · have HF : Hid (∀ m, m ∈ ks ↔ m ≤ b.length ∧ std b m) := fun m => by
        rw [hks.out m]
        constructor
        · intro h
          exact ⟨h.1, (Tk_end hAt.out hno m h.1).1 h⟩
        · rintro ⟨h1, h2⟩
          exact (Tk_end hAt.out hno m h1).2 h2
      have HCc := HC.out c wo hbl.out
      rw [cut_no hix] at HCc
      have HCc' : Hid (Calls _ _ _ _ _) := HCc
      clear HCc hix hno
      go_wp2_with fail
      rw [show (⟨#[45, 45, 112, 97, 114, 116]⟩ : ByteArray) = str PP from rfl]
      refine HCc'.out.mono ?_
      rintro e w2 ⟨rfl, hb2⟩
      have HB2 : Hid (Below w.heap.size w w2) := bel_trans hbl.out hb2
      have HM2 : Hid (MI w.heap.size n ks w2) := hmi.out.below hb2
      clear hb2
      go_wp2
      go_ret
      exact ⟨n, ks, rfl, HM2.out, HF.out, HB2.out⟩
    · have hroom : i0 + 6 ≤ (b.drop c).length := by
        rcases Lib.occAt_room ho with h | h
        · exact h
        · exact absurd h (by decide)
      rw [List.length_drop] at hroom
      have HCc := HC.out c wo hbl.out
      rw [cut_yes hix, List.drop_drop, show c + (i0 + PP.length) = c + i0 + 6 from rfl] at HCc
      have HCc' : Hid (Calls _ _ _ _ _) := HCc
      have HAt2 : Hid (At b (c + i0 + 6)) := (.inr ⟨by omega, by rw [occ_drop] at ho; rw [show c + i0 + 6 - 6 = c + i0 by omega]; exact ho⟩ : At b (c + i0 + 6))
      have HST : Hid (∀ m, Tk b (c + i0 + 6) m ↔ Tk b c m ∨ (m ≤ b.length ∧ D m <+: b.drop (c + i0 + 6))) := fun m => Tk_step hAt.out ho hno m
      have zr : (str (b.drop (c + i0 + 6))).size = (b.drop (c + i0 + 6)).length := str_size _
      have hrl : (b.drop (c + i0 + 6)).length = b.length - (c + i0 + 6) := List.length_drop
      have HBy : Hid (∀ k (h : k < (b.drop (c + i0 + 6)).length), ((((str (b.drop (c + i0 + 6)))[k]'(by rw [zr]; exact h)).toNat : Nat) : Int) = (((b.drop (c + i0 + 6)).getD k 0).toNat : Int)) := fun k h => by
        rw [byt_at (str (b.drop (c + i0 + 6))) k (by rw [zr]; exact h)]
        unfold byt
        rw [str_list]
      have HMeas : Hid (strZ (.string (str (b.drop (c + i0 + 6)))) < strZ (.string (str (b.drop c)))) := (by show (str (b.drop (c + i0 + 6))).size < (str (b.drop c)).size; rw [str_size, str_size, List.length_drop, List.length_drop]; omega : _ < _)
      have HRS : Hid (str (b.drop (c + i0 + 6)) = str (b.drop (c + i0 + 6))) := (rfl : _ = _)
      generalize str ((b.drop c).take i0) = S0 at *
      clear HCc hix hno ho hAt hi
      have HR0 : Hid (∃ r, r = b.drop (c + i0 + 6)) := (⟨_, rfl⟩ : ∃ r, r = b.drop (c + i0 + 6))
      generalize hr : b.drop (c + i0 + 6) = r at *
      have HRr : Hid (b.drop (c + i0 + 6) = r) := hr
      clear hr HR0 HRS
      generalize hS : str r = S at *
      have HSr : Hid (str r = S) := hS
      clear hS
      go_wp2_with fail
      rw [show (⟨#[45, 45, 112, 97, 114, 116]⟩ : ByteArray) = str PP from rfl]
      refine HCc'.out.mono ?_
      rintro e w2 ⟨rfl, hb2⟩
      have HB2 : Hid (Below w.heap.size w w2) := bel_trans hbl.out hb2
      have HM2 : Hid (MI w.heap.size n ks w2) := hmi.out.below hb2
      clear hb2 HCc'
      go_wp2
      go_loopw [6, 7] (fun nv iv wr => ∃ (k n' : Nat) (ks' : List Nat), k ≤ r.length ∧ nv = .int .i64 ((val (r.take k) : Nat) : Int) ∧ iv = .int .i64 (k : Int) ∧ Hid (Dg r k) ∧ val (r.take k) ≤ b.length ∧ Hid (∀ m, m ∈ ks' ↔ Tk b c m ∨ Ik r k m) ∧ Hid (n' ≤ c * (b.length + 1) + k) ∧ Hid (MI w.heap.size n' ks' wr) ∧ Hid (Below w.heap.size w wr)) (fun _ iv _ => r.length - (intOf iv).toNat)
      case atStart => exact ⟨0, n, ks, Nat.zero_le _, rfl, rfl, Dg.zero r, Nat.zero_le _, (fun m => ⟨fun h => .inl ((hks.out m).1 h), fun h => h.elim (fun h => (hks.out m).2 h) (fun h => absurd h (Ik_zero r m))⟩ : ∀ m, m ∈ ks ↔ _), (hn.out : n ≤ _), HM2, HB2⟩
      case round =>
        clear HM2 HB2 hn hmi hks hbl
        obtain ⟨k, n', ks', hk, rfl, rfl, hDg, hval, hks', hn', hmi', hbl'⟩ := hrel
        have HDone : Hid ((∀ m, (m ≤ b.length ∧ D m <+: r) ↔ Ik r k m) → ∀ m, m ∈ ks' ↔ Tk b (c + i0 + 6) m) := fun h m => by rw [hks'.out m, HST.out m, h m]
        have HCnt : Hid (n' ≤ (c + i0 + 6) * (b.length + 1)) := cnt_step hn'.out (by omega) (by omega)
        have HLe : Hid (∀ m, Ik r k m → m ≤ b.length) := fun m h => Nat.le_trans (Ik_le h) hval
        by_cases hlt : k < r.length
        · have hki : (k : Int) < (r.length : Int) := by omega
          have hby := HBy.out k hlt
          have hzk : k < S.size := by omega
          have HDi : Hid (∀ W, Calls Tryz.prog 49 #[.int .u8 ((r.getD k 0).toNat : Int)] W fun e w' => e = .returned (.bool (isD (r.getD k 0))) ∧ w' = W) := fun W => isDigit_any _ W
          have hbd : (r.getD k 0).toNat < 256 := UInt8.toNat_lt _
          cases hd : isD (r.getD k 0) with
          | false =>
            rw [hd] at HDi
            have HF : Hid (∀ m, m ∈ ks' ↔ Tk b (c + i0 + 6) m) := HDone.out (fun m => ⟨fun h => (Ik_stop hDg.out (.inr hd) m).1 h.2, fun h => ⟨HLe.out m h, h.1⟩⟩)
            clear hks' HDone hd
            generalize ((r.getD k 0).toNat : Int) = X at *
            generalize val (r.take k) = v0 at *
            go_wp2_with (first | (go_at_call 49; refine (HDi.out _).mono ?_; rintro e w' ⟨rfl, rfl⟩))
            go_roundw
            case rel => exact ⟨c + i0 + 6, n', ks', by omega, by rw [HRr.out, HSr.out], HAt2, HF, HCnt, hmi', hbl'⟩
            case measure => exact HMeas.out
          | true =>
            rw [hd] at HDi
            have hsub := byte_sub _ hd
            have hdd := (isD_iff _).1 hd
            have hvt := val_take (r := r) hlt
            have hvd : vd (r.getD k 0) ≤ 9 := by unfold vd; omega
            have HST2 : Hid (∀ m, Ik r (k + 1) m ↔ Ik r k m ∨ m = val (r.take (k + 1))) := fun m => Ik_step hDg.out hlt hd m
            have HMu : Hid (b.length < val (r.take (k + 1)) → ∀ m, (m ≤ b.length ∧ D m <+: r) ↔ Ik r k m) := fun h m => by
              rw [Ik_much hDg.out hlt h m]
              exact ⟨fun h => h.2, fun h => ⟨HLe.out m h, h⟩⟩
            have HZ : Hid (val (r.take (k + 1)) = 0 → ∀ m, (m ≤ b.length ∧ D m <+: r) ↔ Ik r (k + 1) m) := fun h m => by
              obtain ⟨h0, h48⟩ := val_zero hDg.out hlt hd h
              subst h0
              rw [Ik_none (by omega) h48 m]
              refine ⟨fun h => h.2, fun h' => ⟨?_, h'⟩⟩
              have := Ik_le h'
              omega
            have HNx : Hid (val (r.take (k + 1)) ≠ 0 → Dg r (k + 1)) := fun h => Dg_next hDg.out hlt hd h
            clear hd
            generalize ((r.getD k 0).toNat : Int) = X at *
            generalize vd (r.getD k 0) = Y at *
            generalize hv0 : val (r.take k) = v0 at *
            generalize hv1 : val (r.take (k + 1)) = v1 at *
            have HV1 : Hid (val (r.take (k + 1)) = v1) := hv1
            clear hv0 hv1 hdd
            have hw1 : IntKind.i64.wrap ((v0 : Int) * 10) = (v0 : Int) * 10 := by rw [IntKind.wrap_i64]; omega
            have hw2 : IntKind.i64.wrap ((v0 : Int) * 10 + (Y : Int)) = (v1 : Int) := by rw [IntKind.wrap_i64]; omega
            have hw3 : IntKind.i64.wrap (Y : Int) = (Y : Int) := by rw [IntKind.wrap_i64]; omega
            by_cases hmuch : b.length < v1
            · have hmi : (b.length : Int) < (v1 : Int) := by omega
              have HF : Hid (∀ m, m ∈ ks' ↔ Tk b (c + i0 + 6) m) := HDone.out (HMu.out hmuch)
              clear hks' HDone HMu HZ HNx HST2 hvt
              go_wp2_with (first | (go_at_call 49; refine (HDi.out _).mono ?_; rintro e w' ⟨rfl, rfl⟩))
              go_roundw
              case rel => exact ⟨c + i0 + 6, n', ks', by omega, by rw [HRr.out, HSr.out], HAt2, HF, HCnt, hmi', hbl'⟩
              case measure => exact HMeas.out
            · have hmi : ¬ (b.length : Int) < (v1 : Int) := by omega
              have hcm : n' < maxLen := by
                have h1 := hn'.out
                have h2 : c * (b.length + 1) ≤ 1048576 * 1048577 := Nat.mul_le_mul (by omega) (by omega)
                unfold maxLen
                omega
              have HKS : Hid (∀ m, m ∈ ks' ++ [v1] ↔ Tk b c m ∨ Ik r (k + 1) m) := fun m => by
                rw [List.mem_append, List.mem_singleton, hks'.out m, HST2.out m, or_assoc]
              have hn2 : n' + 1 ≤ c * (b.length + 1) + (k + 1) := by have := hn'.out; omega
              have HN2 : Hid (n' + 1 ≤ c * (b.length + 1) + (k + 1)) := hn2
              have HCnt2 : Hid (n' + 1 ≤ (c + i0 + 6) * (b.length + 1)) := cnt_step hn2 (by omega) (by omega)
              clear hn2 hks' HDone HMu HST2 hvt
              by_cases hz : v1 = 0
              · subst hz
                have HF : Hid (∀ m, m ∈ ks' ++ [0] ↔ Tk b (c + i0 + 6) m) := fun m => by rw [HKS.out m, HST.out m, HZ.out rfl m]
                go_wp2_with (first | (go_at_call 49; refine (HDi.out _).mono ?_; rintro e w' ⟨rfl, rfl⟩) | (refine wp_putI _ rfl _ _ _ rfl w.heap.size n' ks' rfl hmi'.out hcm 0 (by omega) 0 rfl rfl rfl ?_; intro wn HM' HT; have HBt : Hid (Below w.heap.size w wn) := turned_below hbl'.out (Nat.le_refl _) HT.out; clear HT))
                go_roundw
                case rel => exact ⟨c + i0 + 6, n' + 1, ks' ++ [0], by omega, by rw [HRr.out, HSr.out], HAt2, HF, HCnt2, HM', HBt⟩
                case measure => exact HMeas.out
              · have hzi : ((v1 : Int) == 0) = false := beq_eq_false_iff_ne.2 (by omega)
                have HD2 : Hid (Dg r (k + 1)) := HNx.out hz
                go_wp2_with (first | (go_at_call 49; refine (HDi.out _).mono ?_; rintro e w' ⟨rfl, rfl⟩) | (refine wp_putI _ rfl _ _ _ rfl w.heap.size n' ks' rfl hmi'.out hcm v1 (by omega) _ rfl rfl rfl ?_; intro wn HM' HT; have HBt : Hid (Below w.heap.size w wn) := turned_below hbl'.out (Nat.le_refl _) HT.out; clear HT))
                go_roundw
                case rel => exact ⟨k + 1, n' + 1, ks' ++ [v1], by omega, by rw [HV1.out], by go_num, HD2, by rw [HV1.out]; omega, HKS, HN2, HM', HBt⟩
                case measure => simp [intOf]; omega
        · have hke : k = r.length := by omega
          have hki : ¬ (k : Int) < (r.length : Int) := by omega
          have HF : Hid (∀ m, m ∈ ks' ↔ Tk b (c + i0 + 6) m) := HDone.out (fun m => ⟨fun h => (Ik_stop hDg.out (.inl hke) m).1 h.2, fun h => ⟨HLe.out m h, h.1⟩⟩)
          clear hks' HDone
          generalize val (r.take k) = v0 at *
          go_wp2
          go_roundw
          case rel => exact ⟨c + i0 + 6, n', ks', by omega, by rw [HRr.out, HSr.out], HAt2, HF, HCnt, hmi', hbl'⟩
          case measure => exact HMeas.out

end Sn
end Go.Proofs.YthdfgepnadgkjaaGreatDoor
