/- Several texts as one. -/
import Derived.Test.YtkpdaialfcegfaaDoorMgL
/-
  sheet: takeNumbers.
-/
set_option linter.unusedVariables false
set_option linter.unusedSimpArgs false
namespace Go.Proofs.YtkpdaialfcegfaaDoor
open Go.RowKit Go.Shelf
namespace Mf
open Oc Tg

/-- What has been taken so far. -/
def StT (b : Bs) (L n0 : Nat) (ks0 : List Nat) (f : Bool) (R : Bs) (n : Nat) (ks : List Nat) : Prop :=
  f = false ∧ (∀ m, m ∈ ks ↔ m ∈ ks0 ∨ (m ≤ L ∧ std b m)) ∧ n ≤ n0 + b.length * 1048577 ∨ f = true ∧ ∃ c, c ≤ b.length ∧ R = b.drop c ∧ At b c ∧ 6 ≤ c ∧ n + 1048577 ≤ n0 + c * 1048577 ∧ (∀ m, (m ∈ ks0 ∨ Tk L b c m) ↔ (m ∈ ks ∨ (m ≤ L ∧ D m <+: b.drop c)))
def msT (r f : Value) : Nat := match f with | .bool true => (match r with | .string s => s.size + 1 | _ => 1) | _ => 0
theorem MI.keep {B n : Nat} {L : List Nat} {w w' : World} (h : MI B n L w) (hb : w'.heap[B]? = w.heap[B]?) : MI B n L w' := by
  obtain ⟨es, clock, h1, r⟩ := h
  exact ⟨es, clock, hb.trans h1, r⟩
theorem MI.lt {B n : Nat} {L : List Nat} {w : World} (h : MI B n L w) : B < w.heap.size := World.ownsMap.lt h
theorem turned_blockI {w w' : World} {B : Nat} (h : w.mapTurned w' B) (k : Nat) (hk : k ≠ B) : w'.heap[k]? = w.heap[k]? := by
  obtain ⟨es, clock, es', clock', hb, rfl⟩ := h
  exact ChangeMaps.heap_setBlock_other hb (.map es' clock') hk
theorem OwnZ.keepB {B C : Nat} {v : Value} {l : List Nat} {w w' : World} (h : OwnZ B v l w) (hC : C < B) (hk : ∀ k, k ≠ C → w'.heap[k]? = w.heap[k]?) : OwnZ B v l w' := by
  refine ⟨h.1, ?_⟩
  rcases h.2 with hn | ⟨g, cap, cur, rfl, hb, hg, rest⟩
  · exact .inl hn
  · exact .inr ⟨g, cap, cur, rfl, hb, (hk g (by omega)).trans hg, rest⟩
theorem bel_m {n : Nat} {w w1 w2 : World} (h : Below n w w1) (k : Below w1.heap.size w1 w2) (hn : n ≤ w1.heap.size) : Below n w w2 := h.trans (k.mono hn)

set_option maxRecDepth 100000 in
set_option maxHeartbeats 4000000 in
theorem takeNumbers_any (M n0 : Nat) (ks0 : List Nat) (b : Bs) (L : Nat) (hb : b.length ≤ 1048576) (hL : L ≤ 1048576) (hn0 : n0 ≤ 4611686018427387904) (w : World) (hM : MI M n0 ks0 w) (hw : ML w) (hM1 : 1 ≤ M) :
    Calls Tryd.prog 78 #[.map (some M), .string (str b), .int .i64 (L : Int)] w fun e w' => e = .returned (.tuple #[]) ∧ ∃ n ks, MI M n ks w' ∧ (∀ m, m ∈ ks ↔ m ∈ ks0 ∨ (m ≤ L ∧ std b m)) ∧ n ≤ n0 + b.length * 1048577 ∧ Below M w w' := by
  have HC : Hid (∀ c W, Below M w W → Calls Tryd.prog 41 #[.string (str (b.drop c)), .string (str PP)] W fun e w' => e = .returned (.tuple #[.string (str (Lib.cut (b.drop c) PP).1), .string (str (Lib.cut (b.drop c) PP).2.1), .bool (Lib.cut (b.drop c) PP).2.2]) ∧ Below (World.heap W).size W w') := fun c W hbl => by
    have hm : ML W := by
      obtain ⟨m, hm⟩ := hw
      exact ⟨m, (hbl.cell (p := ⟨0, 0, none⟩) (by show 0 < M; omega)).trans hm⟩
    have := Cut_g (str (b.drop c)) (str PP) (by rw [str_size, List.length_drop]; omega) W hm
    rw [str_list, str_list] at this
    exact this
  have HNF : Hid (∀ c W, Calls Tryd.prog 111 #[.string (str (b.drop c)), .int .i64 (L : Int)] W fun e w' => ∃ v ns, e = .returned v ∧ OwnZ W.heap.size v ns w' ∧ ns.length ≤ (b.drop c).length ∧ (∀ m, m ∈ ns ↔ m ≤ L ∧ D m <+: b.drop c) ∧ Below W.heap.size W w') := fun c W => numbersAtFront_any (b.drop c) L (by rw [List.length_drop]; omega) hL W
  have HML := MI.lt hM
  have HM0 : Hid (MI M n0 ks0 w) := hM
  clear hw hM
  have HS0 : Hid (str b = str (b.drop 0)) := (by rw [List.drop_zero] : _ = _)
  have HEnd : Hid (∀ (c : Nat) (ks : List Nat), At b c → (∀ m, m ∈ ks ↔ m ∈ ks0 ∨ Tk L b c m) → (∀ j, j ≤ (b.drop c).length → Lib.occAt (b.drop c) PP j = false) → ∀ m, m ∈ ks ↔ m ∈ ks0 ∨ (m ≤ L ∧ std b m)) := fun c ks ha hk hno m => by
    rw [hk m]
    constructor
    · rintro (h | h)
      · exact .inl h
      · exact .inr ⟨h.1, (Tk_end L ha hno m h.1).1 h⟩
    · rintro (h | ⟨h1, h2⟩)
      · exact .inl h
      · exact .inr ((Tk_end L ha hno m h1).2 h2)
  rw [HS0.out]
  go_enter Tryd.func78, Tryd.ntmps78
  go_wp2_with fail
  rw [show (⟨#[45, 45, 102, 111, 114, 109]⟩ : ByteArray) = str PP from rfl]
  refine (HC.out 0 _ (Below.refl _ _)).mono ?_
  rintro e w1 ⟨rfl, hb1⟩
  have HB1 : Hid (Below M w w1) := hb1.mono (by omega)
  have HM1 : Hid (MI M n0 ks0 w1) := HM0.out.below hb1
  have hs1 := hb1.size
  clear hb1
  have HSt : Hid ((Lib.cut (b.drop 0) PP).2.2 = false ∧ (∀ m, m ∈ ks0 ↔ m ∈ ks0 ∨ (m ≤ L ∧ std b m)) ∨ (Lib.cut (b.drop 0) PP).2.2 = true ∧ ∃ c, c ≤ b.length ∧ (Lib.cut (b.drop 0) PP).2.1 = b.drop c ∧ At b c ∧ 6 ≤ c ∧ (∀ m, (m ∈ ks0 ∨ Tk L b c m) ↔ (m ∈ ks0 ∨ (m ≤ L ∧ D m <+: b.drop c)))) := by
    show _ ∨ _
    rcases Lib.index_spec (b.drop 0) PP with ⟨hix, hno⟩ | ⟨i0, hix, hi, ho, hno⟩
    · left
      rw [cut_no hix]
      exact ⟨rfl, HEnd.out 0 ks0 (.inl rfl) (fun m => ⟨fun h => .inl h, fun h => h.elim id (fun h => absurd h (Tk_zero L b m))⟩) hno⟩
    · right
      have hroom : i0 + 6 ≤ (b.drop 0).length := by
        rcases Lib.occAt_room ho with h | h
        · exact h
        · exact absurd h (by decide)
      rw [List.length_drop] at hroom
      rw [cut_yes hix]
      refine ⟨rfl, 0 + i0 + 6, by omega, by rw [List.drop_drop]; rfl, .inr ⟨by omega, by rw [occ_drop] at ho; rw [show 0 + i0 + 6 - 6 = 0 + i0 by omega]; exact ho⟩, by omega, fun m => ?_⟩
      rw [Tk_step L (.inl rfl) ho hno m]
      constructor
      · rintro (h | h | h)
        · exact .inl h
        · exact absurd h (Tk_zero L b m)
        · exact .inr h
      · rintro (h | h)
        · exact .inl h
        · exact .inr (.inr h)
  generalize (Lib.cut (b.drop 0) PP).2.2 = F0 at *
  generalize (Lib.cut (b.drop 0) PP).2.1 = R0 at *
  go_wp2
  go_loopw [7, 8] (fun rv fv wr => ∃ (f : Bool) (R : Bs) (n : Nat) (ks : List Nat), rv = .string (str R) ∧ fv = .bool f ∧ Hid (StT b L n0 ks0 f R n ks) ∧ Hid (MI M n ks wr) ∧ Hid (Below M w wr) ∧ Hid (w.heap.size ≤ wr.heap.size)) (fun rv fv _ => msT rv fv)
  case atStart =>
    refine ⟨F0, R0, n0, ks0, rfl, rfl, ?_, HM1, HB1, hs1⟩
    show _ ∨ _
    rcases HSt.out with ⟨h1, h2⟩ | ⟨h1, c, h2, h3, h4, h5, h6⟩
    · left; exact ⟨h1, h2, by omega⟩
    · right; exact ⟨h1, c, h2, h3, h4, h5, by omega, h6⟩
  case round =>
    obtain ⟨f, R, n, ks, rfl, rfl, hst, hmi, hbl, hszz⟩ := hrel
    obtain ⟨wo, rfl⟩ : ∃ wo, wo = wr := ⟨_, rfl⟩
    cases f with
    | false =>
      have HF : Hid ((∀ m, m ∈ ks ↔ m ∈ ks0 ∨ (m ≤ L ∧ std b m)) ∧ n ≤ n0 + b.length * 1048577) := by
        show _ ∧ _
        rcases hst.out with ⟨_, h⟩ | ⟨h, _⟩
        · exact h
        · cases h
      clear hst
      go_wp2
      go_end0
      exact ⟨rfl, n, ks, hmi.out, HF.out.1, HF.out.2, hbl.out⟩
    | true =>
      have HT : Hid (∃ c, c ≤ b.length ∧ R = b.drop c ∧ At b c ∧ 6 ≤ c ∧ n + 1048577 ≤ n0 + c * 1048577 ∧ (∀ m, (m ∈ ks0 ∨ Tk L b c m) ↔ (m ∈ ks ∨ (m ≤ L ∧ D m <+: b.drop c)))) := by
        show ∃ _, _
        rcases hst.out with ⟨h, _⟩ | ⟨_, h⟩
        · cases h
        · exact h
      obtain ⟨c, hc, rfl, hAt, h6, hcnt, hks⟩ := HT.out
      have HAt : Hid (At b c) := hAt
      have HKs : Hid (∀ m, (m ∈ ks0 ∨ Tk L b c m) ↔ (m ∈ ks ∨ (m ≤ L ∧ D m <+: b.drop c))) := hks
      have HCnt : Hid (n + 1048577 ≤ n0 + c * 1048577) := hcnt
      clear HT hst hAt hks hcnt
      have hMo : M < wo.heap.size := MI.lt hmi.out
      go_wp2_with fail
      refine (HNF.out c _).mono ?_
      rintro e w2 ⟨v, ns, rfl, ho2, hnl, hns, hb2⟩
      have HO2 : Hid (OwnZ (M + 1) v ns w2) := ho2.mono (by omega)
      have HM2 : Hid (MI M n ks w2) := hmi.out.below hb2
      have HB2 : Hid (Below M w w2) := hbl.out.trans (hb2.mono (by omega))
      have HZ2 : Hid (w.heap.size ≤ w2.heap.size) := Nat.le_trans hszz.out hb2.size
      have HNS : Hid (∀ m, m ∈ ns ↔ m ≤ L ∧ D m <+: b.drop c) := hns
      have hnl2 : ns.length ≤ 1048576 := by rw [List.length_drop] at hnl; omega
      obtain ⟨av, cv, rfl⟩ := OwnZ.form ho2
      clear ho2 hns hb2 hnl
      go_wp2
      go_loopw [22] (fun iv wr => ∃ q : Nat, q ≤ ns.length ∧ iv = .int .i64 (q : Int) ∧ Hid (MI M (n + q) (ks ++ ns.take q) wr) ∧ Hid (OwnZ (M + 1) (.slice av ns.length cv) ns wr) ∧ Hid (Below M w wr) ∧ Hid (w.heap.size ≤ wr.heap.size)) (fun iv _ => ns.length - (intOf iv).toNat)
      case atStart => exact ⟨0, Nat.zero_le _, rfl, (by rw [List.take_zero, List.append_nil]; exact HM2.out : MI _ _ _ _), HO2, HB2, HZ2⟩
      case round =>
        obtain ⟨q, hq, rfl, hM3, hO3, hB3, hZ3⟩ := hrel
        by_cases hqn : q < ns.length
        · obtain ⟨g, cc, ev, hcc, hg1, hg2, hcell⟩ := OwnZ.cell hO3.out q hqn
          injection ev with ev1 ev2 ev3
          subst ev1 ev3
          have HTq : Hid (ks ++ ns.take (q + 1) = ks ++ ns.take q ++ [ns[q]]) := (by rw [List.take_succ_eq_append_getElem hqn, List.append_assoc] : _ = _)
          have hle : ns[q] ≤ L := ((HNS.out _).1 (List.getElem_mem hqn)).1
          have hcm : n + q < maxLen := by
            have h1 := HCnt.out
            have h2 : c * 1048577 ≤ 1048576 * 1048577 := Nat.mul_le_mul (by omega) (Nat.le_refl _)
            unfold maxLen
            omega
          generalize ns[q] = U at *
          go_wp2_with (refine wp_putI _ rfl _ _ _ rfl M (n + q) _ rfl hM3.out hcm U (by omega) _ rfl rfl rfl ?_; intro w4 HM4 HT4; have HB4 : Hid (Below M w w4) := hB3.out.grown HT4.out.grown (Nat.le_trans (by omega) hZ3.out) (fun k hk => by cases hk; exact Nat.le_refl _); have HO4 : Hid (OwnZ (M + 1) (.slice (some ⟨g, 0, none⟩) ns.length cv) ns w4) := OwnZ.keepB (C := M) hO3.out (by omega) (fun k hk => turned_blockI HT4.out k hk); have HZ4 : Hid (w.heap.size ≤ w4.heap.size) := Nat.le_trans hZ3.out HT4.out.grown.size; have HM5 : Hid (MI M (n + (q + 1)) (ks ++ ns.take (q + 1)) w4) := (by rw [HTq.out]; exact HM4.out : MI _ _ _ _); clear HT4 HM4)
          go_roundw
          case rel => exact ⟨q + 1, by omega, by go_num, HM5, HO4, HB4, HZ4⟩
          case measure => simp [intOf]; omega
        · obtain rfl : q = ns.length := by omega
          rw [List.take_length] at hM3
          have HK5 : Hid (∀ m, m ∈ ks ++ ns ↔ m ∈ ks0 ∨ Tk L b c m) := fun m => by rw [HKs.out m, List.mem_append, HNS.out m]
          have hMr : M < wr.heap.size := Nat.lt_of_lt_of_le HML hZ3.out
          rcases Lib.index_spec (b.drop c) PP with ⟨hix, hno⟩ | ⟨i0, hix, hi, ho, hno⟩
          · have HF : Hid (StT b L n0 ks0 false [] (n + ns.length) (ks ++ ns)) := by
              show _ ∨ _
              refine .inl ⟨rfl, HEnd.out c _ HAt.out HK5.out hno, ?_⟩
              have h1 := HCnt.out
              have h2 : c * 1048577 ≤ b.length * 1048577 := Nat.mul_le_mul_right _ hc
              omega
            have HCc := HC.out c wr hB3.out
            rw [cut_no hix] at HCc
            have HCc' : Hid (Calls _ _ _ _ _) := HCc
            clear HCc hix hno
            go_wp2_with fail
            rw [show (⟨#[45, 45, 102, 111, 114, 109]⟩ : ByteArray) = str PP from rfl]
            refine HCc'.out.mono ?_
            rintro e w6 ⟨rfl, hb6⟩
            have HB6 : Hid (Below M w w6) := hB3.out.trans (hb6.mono (by omega))
            have HM6 : Hid (MI M (n + ns.length) (ks ++ ns) w6) := hM3.out.below hb6
            have HZ6 : Hid (w.heap.size ≤ w6.heap.size) := Nat.le_trans hZ3.out hb6.size
            clear hb6 HCc'
            go_wp2
            go_roundw
            case rel => exact ⟨false, [], n + ns.length, ks ++ ns, rfl, rfl, HF, HM6, HB6, HZ6⟩
            case measure => simp [msT]
          · have hroom : i0 + 6 ≤ (b.drop c).length := by
              rcases Lib.occAt_room ho with h | h
              · exact h
              · exact absurd h (by decide)
            rw [List.length_drop] at hroom
            have HF : Hid (StT b L n0 ks0 true (b.drop (c + i0 + 6)) (n + ns.length) (ks ++ ns)) := by
              show _ ∨ _
              refine .inr ⟨rfl, c + i0 + 6, by omega, rfl, .inr ⟨by omega, by rw [occ_drop] at ho; rw [show c + i0 + 6 - 6 = c + i0 by omega]; exact ho⟩, by omega, ?_, fun m => ?_⟩
              · have h1 := HCnt.out
                have h2 : (c + 1) * 1048577 ≤ (c + i0 + 6) * 1048577 := Nat.mul_le_mul_right _ (by omega)
                rw [Nat.succ_mul] at h2
                omega
              · rw [Tk_step L HAt.out ho hno m, HK5.out m, or_assoc]
            have HCc := HC.out c wr hB3.out
            rw [cut_yes hix, List.drop_drop, show c + (i0 + PP.length) = c + i0 + 6 from rfl] at HCc
            have HCc' : Hid (Calls _ _ _ _ _) := HCc
            have HMeas : Hid (msT (.string (str (b.drop (c + i0 + 6)))) (.bool true) < msT (.string (str (b.drop c))) (.bool true)) := (by show (str (b.drop (c + i0 + 6))).size + 1 < (str (b.drop c)).size + 1; rw [str_size, str_size, List.length_drop, List.length_drop]; omega : _ < _)
            clear HCc hix hno ho hi
            generalize str ((b.drop c).take i0) = S0 at *
            go_wp2_with fail
            rw [show (⟨#[45, 45, 102, 111, 114, 109]⟩ : ByteArray) = str PP from rfl]
            refine HCc'.out.mono ?_
            rintro e w6 ⟨rfl, hb6⟩
            have HB6 : Hid (Below M w w6) := hB3.out.trans (hb6.mono (by omega))
            have HM6 : Hid (MI M (n + ns.length) (ks ++ ns) w6) := hM3.out.below hb6
            have HZ6 : Hid (w.heap.size ≤ w6.heap.size) := Nat.le_trans hZ3.out hb6.size
            clear hb6 HCc'
            go_wp2
            go_roundw
            case rel => exact ⟨true, b.drop (c + i0 + 6), n + ns.length, ks ++ ns, rfl, rfl, HF, HM6, HB6, HZ6⟩
            case measure => exact HMeas.out

end Mf
end Go.Proofs.YtkpdaialfcegfaaDoor

/-
  target: the iterator over the pieces of a text.
-/
set_option linter.unusedVariables false
set_option linter.unusedSimpArgs false
namespace Go.Proofs.YtkpdaialfcegfaaDoor
open Go.RowKit Go.Shelf
attribute [local go_sem] Oper.semAt_some
namespace Tg
open Oc

/-- A piece. -/
structure Pz (M : Nat) where
  z : List UInt8
  le : z.length ≤ M
def encP {M : Nat} (x : Pz M) : Array Value := #[.string (str x.z)]
/-- Three blocks lie as they lay. -/
def Keep3 (a b c : Nat) (A B : World) : Prop := Keep a A B ∧ Keep b A B ∧ Keep c A B
theorem keep3_t {a b c : Nat} {A B C : World} (h : Keep3 a b c A B) (k : Keep3 a b c B C) : Keep3 a b c A C := ⟨h.1.trans k.1, h.2.1.trans k.2.1, h.2.2.trans k.2.2⟩
theorem keep3_b {a b c : Nat} {w : World} (ha : a < w.heap.size) (hb : b < w.heap.size) (hc : c < w.heap.size) (W : World) (l : Nat) (o o' : Obj) (hl : w.heap.size ≤ l) (h : W.heap[l]? = some o) (hcc : o.isCells = false) (hw : o.isWalk = false) : Keep3 a b c W (W.putObj l o') :=
  ⟨keepK_b ha W l o o' hl h hcc hw, keepK_b hb W l o o' hl h hcc hw, keepK_b hc W l o o' hl h hcc hw⟩
theorem keep3_fr {a b c B d : Nat} {A C : World} (h : Fr B d A C) (ha : a < B) (hb : b < B) (hc : c < B) (ha' : a ≠ d) (hb' : b ≠ d) (hc' : c ≠ d) : Keep3 a b c A C := ⟨h.keep ha ha', h.keep hb hb', h.keep hc hc'⟩
theorem ML.keep {A B : World} (h : ML A) (k : Keep 0 A B) : ML B := by
  obtain ⟨m, hm⟩ := h
  exact ⟨m, (k.cell 0).trans hm⟩
theorem ML.lt {w : World} (h : ML w) : 0 < w.heap.size := by
  obtain ⟨m, hm⟩ := h
  exact cell_lt hm

set_option maxRecDepth 100000 in
set_option maxHeartbeats 2000000 in
theorem pieces1_in (n : Nat) (l Bs Bp : Nat) (b : UInt8) (s : ByteArray) (hs : s.size ≤ 4000000000) (J Jx : List (Pz s.size) → World → Prop)
    (hJb : ∀ pre W W', J pre W → Below W.heap.size W W' → J pre W')
    (hY : ∀ pre x W, J pre W → pre.length < s.size + 1 → YieldAt Fence.wide (n - 1) Tryd.prog l (encP x) W fun e W' =>
      (e = .returned (.bool true) ∧ J (pre ++ [x]) W' ∧ Keep3 Bs Bp 0 W W') ∨ (e = .returned (.bool false) ∧ Jx (pre ++ [x]) W'))
    (W : World) (hm : ML W) (hBs : W.cell? ⟨Bs, 0, none⟩ = some (.string s)) (hBp : W.cell? ⟨Bp, 0, none⟩ = some (.string ⟨#[b]⟩)) (h0 : J [] W) :
    CallsIn Fence.wide n Tryd.prog 100 #[.func (.yield l) #[] #[], .pointer (some ⟨Bs, 0, none⟩), .pointer (some ⟨Bp, 0, none⟩)] W fun e W' => (∃ v, e = .returned v) ∧
      ((∃ ys : List (Pz s.size), ys.map Pz.z = splitB b s.data.toList ∧ J ys W') ∨ (∃ pre : List (Pz s.size), (∃ rest, pre.map Pz.z ++ rest = splitB b s.data.toList) ∧ Jx pre W')) := by
  refine callsIn_of_wp Tryd.func100 rfl trivial ?_ rfl
  simp only [Tryd.ntmps100, List.size_toArray, List.length_cons, List.length_nil, Nat.reduceAdd, Nat.reduceSub, Array.replicate_succ, Array.replicate_zero, List.push_toArray, List.append_toArray, List.nil_append, List.cons_append]
  have HM : Hid (ML W) := hm
  have HC : Hid (∀ (t : ByteArray), t.size ≤ s.size → ∀ W, ML W → _) := fun t ht W h => Cut_one t b (by omega) W h
  clear hm
  have hlb := cell_lt hBs
  have hlp := cell_lt hBp
  have HG : Hid (0 < W.heap.size) := HM.out.lt
  gi_wp2_with (refine ⟨trivial, (fun h => by cases h), ?_⟩; refine (callsIn_wide.2 (HC.out s (Nat.le_refl _) _ HM.out)).mono ?_; rintro e w1 ⟨rfl, hb1⟩)
  have c1 := (hb1.cell (p := ⟨Bs, 0, none⟩) hlb).trans hBs
  have c2 := (hb1.cell (p := ⟨Bp, 0, none⟩) hlp).trans hBp
  have HM1 : Hid (ML w1) := HM.out.below hb1
  have hJ1 := hJb _ _ _ h0 hb1
  clear hb1
  gi_loopw [4, 5, 6] (fun pv rv mv wr => ∃ cur : List UInt8, pv = .string (str (cutA b cur)) ∧ rv = .string (str (cutB b cur)) ∧ mv = .bool (has b cur) ∧ ∃ pre : List (Pz s.size), Hid (pre.map Pz.z ++ splitB b cur = splitB b s.data.toList) ∧ Hid (cur.length ≤ s.size) ∧ J pre wr ∧ wr.cell? ⟨Bp, 0, none⟩ = some (.string ⟨#[b]⟩) ∧ wr.cell? ⟨Bs, 0, none⟩ = some (.string s) ∧ Hid (ML wr))
    (fun _ rv mv _ => (match mv with | .bool true => 1 | _ => 0) + match rv with | .string r => r.size | _ => 0)
  case atStart => exact ⟨s.data.toList, rfl, rfl, rfl, [], (rfl : ([] : List (Pz s.size)).map Pz.z ++ splitB b s.data.toList = _), (by rw [size_list]; exact Nat.le_refl _ : s.data.toList.length ≤ s.size), hJ1, c2, c1, HM1⟩
  case round =>
    obtain ⟨cur, rfl, rfl, rfl, pre, hpre, hcl, hJs, hcp, hcs, hml⟩ := hrel
    have hal : (cutA b cur).length ≤ s.size := Nat.le_trans (cutA_len b cur) hcl.out
    have hplen : pre.length < s.size + 1 := by
      have h1 := congrArg List.length hpre.out
      have h2 := split_len b s.data.toList
      have h3 := splitB_ne b cur
      rw [List.length_append, List.length_map] at h1
      have h4 : 0 < (splitB b cur).length := List.length_pos_iff.2 h3
      rw [size_list] at h2
      omega
    obtain ⟨fn, tmps, assign, body, hy, hR⟩ := hY pre ⟨cutA b cur, hal⟩ wr hJs hplen
    unfold encP at hy
    dsimp only at hy
    have hsp := split_cut b cur
    have hbl : (cutB b cur).length ≤ cur.length := cutB_len b cur
    have HSP : Hid (_) := hsp
    clear hsp
    have hdec : has b cur = true → (cutB b cur).length < cur.length := by
      intro h
      have := congrArg List.length (cut_app b cur h)
      rw [List.length_append, List.length_cons] at this
      omega
    cases hh : has b cur with
    | true =>
      have hdl := hdec hh
      rw [hh] at HSP
      have HSP2 : Hid (splitB b cur = cutA b cur :: splitB b (cutB b cur)) := (by have := HSP.out; rw [if_pos rfl] at this; exact this : _ = _)
      have HB : Hid (_) := hdl
      clear hdec hdl HSP
      generalize cutA b cur = A at *
      generalize hB : cutB b cur = B at *
      have hBs' : (str B).size ≤ s.size := by rw [str_size]; have := hcl.out; have := HB.out; omega
      gi_wp2
      refine ⟨(fun h => by cases h), hR.mono ?_⟩
      rintro e W3 (⟨rfl, hJ3, hk3⟩ | ⟨rfl, hJx3⟩)
      · have d1 : W3.cell? ⟨Bs, 0, none⟩ = some (.string s) := (hk3.1.cell _).trans hcs
        have d2 : W3.cell? ⟨Bp, 0, none⟩ = some (.string ⟨#[b]⟩) := (hk3.2.1.cell _).trans hcp
        have HM3 : Hid (ML W3) := hml.out.keep hk3.2.2
        have e1 := cell_lt d1
        have e2 := cell_lt d2
        gi_wp2_with (refine ⟨trivial, (fun h => by cases h), ?_⟩; refine (callsIn_wide.2 (HC.out (str B) hBs' _ HM3.out)).mono ?_; rintro e W4 ⟨rfl, hb4⟩)
        have f1 := (hb4.cell (p := ⟨Bs, 0, none⟩) e1).trans d1
        have f2 := (hb4.cell (p := ⟨Bp, 0, none⟩) e2).trans d2
        have HM4 : Hid (ML W4) := HM3.out.below hb4
        have hJ4 := hJb _ _ _ hJ3 hb4
        have HP1 : Hid ((pre ++ [(⟨A, hal⟩ : Pz s.size)]).map Pz.z ++ splitB b B = splitB b s.data.toList) := by
          show _ = _
          rw [List.map_append, List.append_assoc]
          have := hpre.out
          rw [HSP2.out] at this
          exact this
        have HP2 : Hid (B.length ≤ s.size) := by rw [str_size] at hBs'; exact hBs'
        go_roundw
        case rel => exact ⟨B, by rw [str_list], by rw [str_list], by rw [str_list], pre ++ [⟨A, hal⟩], HP1, HP2, hJ4, f2, f1, HM4⟩
        case measure =>
          rw [str_list]
          have h1 := cutB_len b B
          cases hb : has b B with
          | true =>
            have := congrArg List.length (cut_app b B hb)
            rw [List.length_append, List.length_cons] at this
            simp [str_size]
            omega
          | false => simp [str_size]; omega
      · gi_wp2
        go_end0
        exact ⟨⟨_, rfl⟩, .inr ⟨_, ⟨splitB b B, by rw [List.map_append, List.append_assoc]; have := hpre.out; rw [HSP2.out] at this; exact this⟩, hJx3⟩⟩
    | false =>
      rw [hh] at HSP
      have HSP2 : Hid (splitB b cur = [cutA b cur]) := (by have := HSP.out; rw [if_neg (by simp)] at this; exact this : _ = _)
      clear hdec HSP
      generalize cutA b cur = A at *
      generalize cutB b cur = B at *
      gi_wp2
      refine ⟨(fun h => by cases h), hR.mono ?_⟩
      rintro e W3 (⟨rfl, hJ3, hk3⟩ | ⟨rfl, hJx3⟩)
      · gi_wp2
        go_end0
        exact ⟨⟨_, rfl⟩, .inl ⟨_, by rw [List.map_append]; have := hpre.out; rw [HSP2.out] at this; exact this, hJ3⟩⟩
      · gi_wp2
        go_end0
        exact ⟨⟨_, rfl⟩, .inr ⟨_, ⟨[], by rw [List.append_nil, List.map_append]; have := hpre.out; rw [HSP2.out] at this; exact this⟩, hJx3⟩⟩

end Tg
end Go.Proofs.YtkpdaialfcegfaaDoor
