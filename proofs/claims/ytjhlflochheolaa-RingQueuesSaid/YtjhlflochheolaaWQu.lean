/-
  The walk of RingQueues.
-/
import Derived.Test.YtjhlflochheolaaMgB
import Derived.Test.YtjhlflochheolaaMgF
import Derived.Test.YtjhlflochheolaaMgG
import Derived.Test.YtjhlflochheolaaWWa
import Derived.Deep.Cut
import Derived.BigQuiet
import Derived.Deep.QuietTactic
set_option maxRecDepth 100000
set_option linter.unusedVariables false
set_option linter.unusedSimpArgs false
namespace Go.Proofs.Ytjhlflochheolaa
open Go.RowKit
namespace Rg

def encL (zs : List ByteArray) : List (List Value) := zs.map fun z => [Value.string z]
theorem encL_len (zs : List ByteArray) : (encL zs).length = zs.length := by unfold encL; simp
theorem encL_snoc (zs : List ByteArray) (z : ByteArray) : encL zs ++ [[.string z]] = encL (zs ++ [z]) := by unfold encL; rw [List.map_append]; rfl

theorem rQueue_any (w : World) (c : Int) : Calls Try.prog 18 #[.int .i64 c] w fun e w' => e = .returned (.int .i64 (if 1 ≤ c ∧ c ≤ 65536 then 0 else 20)) ∧ w' = w := by
  by_cases h1 : c < 1
  · have e : (if 1 ≤ c ∧ c ≤ 65536 then (0 : Int) else 20) = 20 := if_neg (by omega)
    rw [e]
    clear e
    go_enter Try.func18, Try.ntmps18
    go_wp2
    go_ret
    exact ⟨rfl, rfl⟩
  · by_cases h2 : 65536 < c
    · have e : (if 1 ≤ c ∧ c ≤ 65536 then (0 : Int) else 20) = 20 := if_neg (by omega)
      rw [e]
      clear e
      go_enter Try.func18, Try.ntmps18
      go_wp2
      go_ret
      exact ⟨rfl, rfl⟩
    · have e : (if 1 ≤ c ∧ c ≤ 65536 then (0 : Int) else 20) = 0 := if_pos (by omega)
      rw [e]
      clear e
      go_enter Try.func18, Try.ntmps18
      go_wp2
      go_ret
      exact ⟨rfl, rfl⟩

/-- The queue and the law's list, at a world. -/
structure Sq (w X : World) (p : Option Addr) (cap : Nat) (l : Value) (zs : List ByteArray) (bs : List Nat) : Prop where
  os : OS X w.heap.size l zs
  qp : QP X 9 1 87 p bs cap (encL zs)
  sep : ∀ g, l.ownBlock = some g → g ∉ bs
  ge : ∀ b ∈ bs, w.heap.size ≤ b
  bel : Below w.heap.size w X
theorem Sq.below {w X Y : World} {p : Option Addr} {cap : Nat} {l : Value} {zs : List ByteArray} {bs : List Nat} (S : Sq w X p cap l zs bs) (h : Below X.heap.size X Y) : Sq w Y p cap l zs bs :=
  ⟨S.os.but (But.of_below h) (fun _ _ e => by cases e), S.qp.below h, S.sep, S.ge, bel_trans S.bel h⟩
theorem Sq.app {w X Y : World} {p : Option Addr} {cap : Nat} {l : Value} {zs : List ByteArray} {bs : List Nat} (S : Sq w X p cap l zs bs) (h : But l.ownBlock.toList X Y) : QP Y 9 1 87 p bs cap (encL zs) :=
  S.qp.but0 h (fun x hx e => S.sep x (by simpa using e) hx)
theorem Sq.push {w X Y Z : World} {p : Option Addr} {cap : Nat} {l l' : Value} {zs : List ByteArray} {bs bs' : List Nat} {z : ByteArray} (S : Sq w X p cap l zs bs) (h1 : OS Y w.heap.size l' (zs ++ [z])) (h2 : But l.ownBlock.toList X Y) (h3 : ∀ g, l'.ownBlock = some g → l.ownBlock = some g ∨ X.heap.size ≤ g)
    (h4 : QP Z 9 1 87 p bs' cap (encL zs ++ [[.string z]])) (h5 : ∀ b ∈ bs', b ∈ bs ∨ Y.heap.size ≤ b) (h6 : But bs Y Z) : Sq w Z p cap l' (zs ++ [z]) bs' := by
  have hlt := S.qp.ltq
  have hn : ∀ g, l'.ownBlock = some g → g ∉ bs := fun g hg hb => by
    rcases h3 g hg with h | h
    · exact S.sep g h hb
    · have := hlt g hb
      omega
  refine ⟨h1.but h6 hn, by rw [← encL_snoc]; exact h4, fun g hg hb => ?_, fun b hb => ?_, ?_⟩
  · rcases h5 g hb with h | h
    · exact hn g hg h
    · have := (h1.lt g hg).2
      omega
  · rcases h5 b hb with h | h
    · exact S.ge b h
    · have := S.bel.size
      have := h2.size
      omega
  · have b1 : Below w.heap.size X Y := h2.below S.bel.size (fun x hx => (S.os.lt x (by simpa using hx)).1)
    have b2 : Below w.heap.size Y Z := h6.below (Nat.le_trans S.bel.size h2.size) S.ge
    exact S.bel.trans (b1.trans b2)
theorem Sq.pop {w X Y : World} {p : Option Addr} {cap : Nat} {l l' : Value} {zs t : List ByteArray} {bs bs' : List Nat} (S : Sq w X p cap l zs bs) (h1 : OS X w.heap.size l' t) (h2 : ∀ g, l'.ownBlock = some g → l.ownBlock = some g) (h4 : QP Y 9 1 87 p bs' cap (encL t)) (h5 : ∀ b ∈ bs', b ∈ bs) (h6 : But bs X Y) : Sq w Y p cap l' t bs' :=
  ⟨h1.but h6 (fun g hg => S.sep g (h2 g hg)), h4, fun g hg hb => S.sep g (h2 g hg) (h5 g hb), fun b hb => S.ge b (h5 b hb), S.bel.trans (h6.below S.bel.size S.ge)⟩
theorem os_cut1 {X : World} {B g off : Nat} {z : ByteArray} {t : List ByteArray} (h : OS X B (.slice (some ⟨g, off, none⟩) (t.length + 1) 1) (z :: t)) : OS X B (.slice (some ⟨g, off, none⟩) t.length 0) t := by
  obtain ⟨ao, cap, e, h1, h2, h3⟩ := h
  injection e with e1 e2 e3
  subst e1 e3
  have ht : t = [] := List.eq_nil_of_length_eq_zero (by rw [List.length_cons] at h1; omega)
  subst ht
  obtain ⟨g', off', e, hB, hg, _, _⟩ := h3 _ rfl
  exact ⟨_, 0, rfl, Nat.le_refl _, (fun e => by cases e), fun ad e' => ⟨g', off', by injection e' with e'; rw [← e', e], hB, hg, (fun j x hj => by simp at hj), (fun j _ hj => by omega)⟩⟩
theorem os_cutn {X : World} {B g off cap : Nat} {z : ByteArray} {t : List ByteArray} (h : OS X B (.slice (some ⟨g, off, none⟩) (t.length + 1) cap) (z :: t)) : OS X B (.slice (some ⟨g, off + 1, none⟩) t.length (cap - 1)) t := by
  obtain ⟨ao, cap', e, h1, h2, h3⟩ := h
  injection e with e1 e2 e3
  subst e1 e3
  obtain ⟨g', off', e, hB, hg, hc, hs⟩ := h3 _ rfl
  injection e with e1 e2
  subst e1 e2
  simp only [List.length_cons] at h1 hs
  refine ⟨_, cap - 1, rfl, by omega, (fun e => by cases e), fun ad e' => ⟨g, off + 1, by injection e' with e'; exact e'.symm, hB, hg, fun j x hj => ?_, fun j h5 h6 => ?_⟩⟩
  · have := hc (j + 1) x (by simpa using hj)
    rwa [show off + (j + 1) = off + 1 + j by omega] at this
  · have := hs (j + 1) (by omega) (by omega)
    rwa [show off + (j + 1) = off + 1 + j by omega] at this

set_option maxHeartbeats 16000000 in
theorem walk_RingQueues (c : Int) (v : Value) (ps : List Qo) (w : World) (h : RdQ w v ps) (hc0 : -9223372036854775808 ≤ c) (hc1 : c ≤ 9223372036854775807) (hps : ps.length ≤ 9223372036854775807) :
    Calls Try.prog 4 #[.int .i64 c, v] w fun e w' => e = .returned (.bool true) ∧ Below w.heap.size w w' := by
  obtain ⟨a, pc, rfl, hpc, h⟩ := h
  have HP : Hid (ps = [] ∨ _) := h
  clear h
  go_enter Try.func4, Try.ntmps4
  go_wp2_with fail
  refine (steady_any w).mono ?_
  rintro e w0 ⟨rfl, hb⟩
  have HB0 : Hid (Below w.heap.size w w0) := hb
  clear hb
  go_wp2_with fail
  refine (qNew_S w0 c hc0 hc1).mono ?_
  rintro e w1 ⟨p, bs, cap, EE, rfl, hnew, hq, hb⟩
  have HB1 : Hid (Below w.heap.size w w1) := bel_trans HB0.out hb
  have HQ1 : Hid (QP w1 9 1 87 p bs cap (encL [])) := hq
  have HI1 : Hid (∀ b ∈ bs, w.heap.size ≤ b) := (by
    have := HB0.out.size
    rcases hnew with ⟨_, _, _, _, _, hbs⟩ | ⟨_, _, _, hbs⟩
    · rw [hbs]; intro b hb'; simp at hb'; omega
    · rw [hbs]; exact (fun b hb' => by cases hb') : ∀ b ∈ bs, w.heap.size ≤ b)
  have HBb : Hid (∃ b : Bool, (p = none ↔ b = true) ∧ EE = (if b then 20 else 0) ∧ (if 1 ≤ c ∧ c ≤ 65536 then (0 : Int) else 20) = EE ∧ (b = true → cap = 0) ∧ (b = false → c = (cap : Int)) ∧ cap ≤ 65536) := (by
    rcases hnew with ⟨h1, h2, h3, h4, h5, hbs⟩ | ⟨h1, h2, h3, hbs⟩
    · exact ⟨false, by rw [h5]; simp, by rw [h3]; rfl, by rw [if_pos ⟨h1, h2⟩, h3], (fun e => by cases e), (fun _ => h4.symm), by omega⟩
    · have hcap : cap = 0 := by
        rcases hq with ⟨_, _, e, _⟩ | ⟨qp, _, _, _, _, e, _⟩
        · exact e
        · rw [h3] at e; cases e
      exact ⟨true, by rw [h3]; simp, by rw [h2]; rfl, by rw [if_neg h1, h2], (fun _ => hcap), (fun e => by cases e), by omega⟩ : ∃ b : Bool, _)
  clear hnew hq hb HB0
  go_wp2_with fail
  refine (rQueue_any w1 c).mono ?_
  rintro e w2 ⟨rfl, rfl⟩
  obtain ⟨b, hpb, hE, hEq, hbt, hbf, hcapL⟩ := HBb.out
  clear HBb
  rw [hEq]
  have hEE : (EE != EE) = false := by simp
  have hE0 : (EE != 0) = b := by rw [hE]; cases b <;> rfl
  clear hEq hE
  have hp0 : p.isNone = b := by
    cases p with
    | none => exact (hpb.1 rfl).symm
    | some x =>
      cases b with
      | false => rfl
      | true => exact absurd (hpb.2 rfl) (by simp)
  have hbb : (!(b == b)) = false := by cases b <;> rfl
  have HX : Hid ((b = true → cap = 0) ∧ (b = false → c = (cap : Int))) := ⟨hbt, hbf⟩
  have HS1 : Hid (Sq w w2 p cap (.slice none 0 0) [] bs) := ⟨os_nil _ _, HQ1.out, (fun g e => by cases e), HI1.out, HB1.out⟩
  clear hpb hbt hbf HQ1 HI1 HB1
  go_upto_if 43 with fail
  go_cut [0] from 42 (fun s0 wx => s0 = .int .i64 (cap : Int) ∧ wx = w2)
  case first =>
    cases b with
    | true =>
      have h0 : Hid (cap = 0) := HX.out.1 rfl
      go_wp2_with fail
      go_meet
      case rel => exact ⟨by rw [h0.out]; rfl, rfl⟩
    | false =>
      have h0 : Hid (c = (cap : Int)) := HX.out.2 rfl
      go_wp2_with fail
      go_meet
      case rel => exact ⟨by rw [h0.out], rfl⟩
  case rest =>
    obtain ⟨rfl, rfl⟩ := hcut
    clear HX hp0 hbb hE0 hEE
    have nn : ∀ x : Nat, x ∉ ([] : List Nat) := fun _ e => by cases e
    go_wp2
    go_loopw [8, 46] (fun l i wr => ∃ (I : Nat) (zs : List ByteArray) (bs : List Nat), I ≤ ps.length ∧ i = .int .i64 (I : Int) ∧ Hid (Sq w wr p cap l zs bs)) (fun _ i _ => ps.length - (intOf i).toNat)
    case atStart => exact ⟨0, [], bs, by omega, rfl, HS1⟩
    case round =>
      clear HS1
      obtain ⟨I, zs, bs, hI, rfl, HS⟩ := hrel
      by_cases hlt : I < ps.length
      · obtain ⟨gp, op, ha1, hcp⟩ : ∃ g o, a = some ⟨g, o, none⟩ ∧ ∀ j, j < ps.length → _ := by
          rcases HP.out with e | h
          · rw [e] at hlt
            simp at hlt
          · exact h
        subst ha1
        obtain ⟨⟨k0, k1, k2⟩, ⟨b0, b1⟩, ⟨b2, b3⟩⟩ := hcp I hlt
        clear hcp
        obtain ⟨K, V, Z, hkvz⟩ : ∃ K V Z, nthq ps I = ⟨K, V, Z⟩ := ⟨_, _, _, rfl⟩
        rw [hkvz] at k0 k1 k2 b0 b1 b2 b3
        dsimp only at k0 k1 k2 b0 b1 b2 b3
        clear hkvz
        have c0 := (But.of_below HS.out.bel).cell k0 (nn _)
        have c1 := (But.of_below HS.out.bel).cell k1 (nn _)
        have c2 := (But.of_below HS.out.bel).cell k2 (nn _)
        have hltI : (I : Int) < (ps.length : Int) := by omega
        obtain ⟨hm0, hm1⟩ := kdN_bd K 8 (by omega)
        go_wp2_with fail
        refine (kindN_any _ K 8 b0 b1 (by omega) (by omega)).mono ?_
        rintro e wk ⟨rfl, hwk⟩
        generalize kdN K 8 = m at *
        have hBk : Below wr.heap.size wr wk := by rw [hwk]; exact ((But.refl [] wr).alloc _).to_below
        have hO : wk.heap[wr.heap.size]? = some (.cells #[.int .i64 K, .int .i64 V, .string Z] 52 (0, 0)) := by rw [hwk]; exact heap_alloc_new _ _
        have HSk : Hid (Sq w wk p cap u8 zs bs) := HS.out.below hBk
        have HO : Hid (wk.heap[wr.heap.size]? = some (.cells #[.int .i64 K, .int .i64 V, .string Z] 52 (0, 0))) := hO
        have HOn : Hid (wr.heap.size ∉ bs ∧ ∀ g, u8.ownBlock = some g → wr.heap.size ≠ g) := (⟨fun h => absurd (HS.out.qp.ltq _ h) (Nat.lt_irrefl _), fun g hg e => by have := (HS.out.os.lt g hg).2; omega⟩ : _ ∧ _)
        clear c0 c1 c2 k0 k1 k2 hwk hBk hO HS
        generalize wr.heap.size = BO at *
        have hzl : zs.length ≤ cap := by have := QP.le_S HSk.out.qp; rwa [encL_len] at this
        have hm : m = 0 ∨ m = 1 ∨ m = 2 ∨ m = 3 ∨ m = 4 ∨ m = 5 ∨ m = 6 ∨ m = 7 := by omega
        rcases hm with rfl | rfl | rfl | rfl | rfl | rfl | rfl | rfl
        · as_aux_lemma =>
            obtain ⟨ao, lc, rfl, hlc, hno, hsome⟩ := HSk.out.os
            have c2 : wk.cell? ⟨BO, 2, none⟩ = some (.string Z) := by simp [World.cell?, HO.out]
            by_cases hroom : zs.length < cap
            · have hge : ¬ (cap : Int) ≤ (zs.length : Int) := by omega
              go_wp2_with (at_builtin; refine wp_appL rfl _ _ rfl (.slice ao zs.length lc) zs wk w.heap.size Z rfl HSk.out.os HSk.out.bel.size rfl (by omega) ?_; intro l' w5 HO5 HB5 HN5; have c25 : w5.cell? ⟨BO, 2, none⟩ = some (.string Z) := HB5.out.cell c2 (fun h => HOn.out.2 _ (by simpa using h) rfl))
              refine (qPush_S (HSk.out.app HB5.out) Z (by rw [encL_len]; exact hroom)).mono ?_
              rintro e w6 ⟨rfl, bs6, hq6, hin6, hb6⟩
              have HS6 : Hid (Sq w w6 p cap l' (zs ++ [Z]) bs6) := HSk.out.push HO5.out HB5.out HN5.out hq6 hin6 hb6
              clear hq6 hin6 hb6 HO5 HB5 HN5 HSk c25 c2 hsome hno
              go_wp2
              go_roundw
              case rel => exact ⟨I + 1, _, _, by omega, by go_num, HS6⟩
              case measure => simp [intOf]; omega
            · have hge : (cap : Int) ≤ (zs.length : Int) := by omega
              go_wp2_with fail
              refine (qPushNo_S HSk.out.qp Z (by rw [encL_len]; omega)).mono ?_
              rintro e w5 ⟨rfl, hb5⟩
              have HS6 := (HSk.out.below hb5 : Hid (Sq w w5 p cap _ zs bs))
              clear hb5 HSk c2 hsome hno
              go_wp2
              go_roundw
              case rel => exact ⟨I + 1, _, _, by omega, by go_num, HS6⟩
              case measure => simp [intOf]; omega
        · as_aux_lemma =>
            cases zs with
            | nil =>
              obtain ⟨ao, lc, rfl, hlc, hno, hsome⟩ := HSk.out.os
              simp only [List.length_nil] at *
              go_wp2_with fail
              refine (qPopNo_S HSk.out.qp).mono ?_
              rintro e w5 ⟨rfl, hb5⟩
              have HS6 := (HSk.out.below hb5 : Hid (Sq w w5 p cap _ [] bs))
              clear hb5 HSk hsome hno
              go_wp2
              go_roundw
              case rel => exact ⟨I + 1, _, _, by omega, by go_num, HS6⟩
              case measure => simp [intOf]; omega
            | cons z t =>
              obtain ⟨ao, lc, rfl, hlc, hno, hsome⟩ := HSk.out.os
              simp only [List.length_cons] at *
              cases ao with
              | none => have := hno rfl; omega
              | some ad =>
                obtain ⟨g, off, rfl, hgB, hg, hc, hs⟩ := hsome ad rfl
                have hz0 := hc 0 z rfl
                rw [Nat.add_zero] at hz0
                clear hc hs hsome
                have hl0 : (((t.length + 1 : Nat) : Int) == 0) = false := by simp; omega
                have hl1 : (((t.length : Int) + 1) == 0) = false := by simp; omega
                go_wp2_with fail
                refine (qPop_S z HSk.out.qp).mono ?_
                rintro e w5 ⟨rfl, hq5, hb5⟩
                have hz5 : w5.cell? ⟨g, off, none⟩ = some (.string z) := hb5.cell hz0 (HSk.out.sep g rfl)
                by_cases hl : lc = 1
                · subst hl
                  obtain rfl : t = [] := List.eq_nil_of_length_eq_zero (by omega)
                  have HS6 : Hid (Sq w w5 p cap (.slice (some ⟨g, off, none⟩) 0 0) [] bs) := HSk.out.pop (os_cut1 HSk.out.os) (fun _ h => h) hq5 (fun _ h => h) hb5
                  simp only [List.length_nil] at *
                  clear hq5 hb5 HSk hno hz0
                  go_wp2
                  go_roundw
                  case rel => exact ⟨I + 1, _, _, by omega, by go_num, HS6⟩
                  case measure => simp [intOf]; omega
                · have HS6 : Hid (Sq w w5 p cap (.slice (some ⟨g, off + 1, none⟩) t.length (lc - 1)) t bs) := HSk.out.pop (os_cutn HSk.out.os) (fun _ h => h) hq5 (fun _ h => h) hb5
                  clear hq5 hb5 HSk hno hz0
                  go_wp2
                  go_roundw
                  case rel => exact ⟨I + 1, _, _, by omega, by go_num, HS6⟩
                  case measure => simp [intOf]; omega
        · as_aux_lemma =>
            cases zs with
            | nil =>
              obtain ⟨ao, lc, rfl, hlc, hno, hsome⟩ := HSk.out.os
              simp only [List.length_nil] at *
              go_wp2_with fail
              refine (qFirstNo_S HSk.out.qp).mono ?_
              rintro e w5 ⟨rfl, hb5⟩
              have HS6 := (HSk.out.below hb5 : Hid (Sq w w5 p cap _ [] bs))
              clear hb5 HSk hsome hno
              go_wp2
              go_roundw
              case rel => exact ⟨I + 1, _, _, by omega, by go_num, HS6⟩
              case measure => simp [intOf]; omega
            | cons z t =>
              obtain ⟨ao, lc, rfl, hlc, hno, hsome⟩ := HSk.out.os
              simp only [List.length_cons] at *
              cases ao with
              | none => have := hno rfl; omega
              | some ad =>
                obtain ⟨g, off, rfl, hgB, hg, hc, hs⟩ := hsome ad rfl
                have hz0 := hc 0 z rfl
                rw [Nat.add_zero] at hz0
                clear hc hs hsome
                have hl0 : (0 : Int) < ((t.length + 1 : Nat) : Int) := by omega
                have hl1 : (0 : Int) < (t.length : Int) + 1 := by omega
                have hl2 : 0 < t.length + 1 := by omega
                go_wp2_with fail
                refine (qFirst_S HSk.out.qp z rfl).mono ?_
                rintro e w5 ⟨rfl, hb5⟩
                have hz5 : w5.cell? ⟨g, off, none⟩ = some (.string z) := (But.of_below hb5).cell hz0 (nn _)
                have HS6 := (HSk.out.below hb5 : Hid (Sq w w5 p cap _ (z :: t) bs))
                clear hb5 HSk hno hz0
                go_wp2
                go_roundw
                case rel => exact ⟨I + 1, _, _, by omega, by go_num, HS6⟩
                case measure => simp [intOf]; omega
        · as_aux_lemma =>
            obtain ⟨ao, lc, rfl, hlc, hno, hsome⟩ := HSk.out.os
            have c1 : wk.cell? ⟨BO, 1, none⟩ = some (.int .i64 V) := by simp [World.cell?, HO.out]
            by_cases hV0 : V < 0
            · have hV1 : ¬ 0 ≤ V := by omega
              go_wp2_with fail
              refine (qAtNo_S HSk.out.qp V b2 b3 (.inl hV0)).mono ?_
              rintro e w5 ⟨rfl, hb5⟩
              have c15 : w5.cell? ⟨BO, 1, none⟩ = some (.int .i64 V) := (But.of_below hb5).cell c1 (nn _)
              have HS6 := (HSk.out.below hb5 : Hid (Sq w w5 p cap _ zs bs))
              clear hb5 HSk hno hsome c1
              go_wp2
              go_roundw
              case rel => exact ⟨I + 1, _, _, by omega, by go_num, HS6⟩
              case measure => simp [intOf]; omega
            · obtain ⟨j, rfl⟩ : ∃ j : Nat, V = (j : Int) := ⟨V.toNat, by omega⟩
              by_cases hj : j < zs.length
              · cases ao with
                | none => have := hno rfl; omega
                | some ad =>
                  obtain ⟨g, off, rfl, hgB, hg, hc, hs⟩ := hsome ad rfl
                  have hx : zs[j]? = some zs[j] := List.getElem?_eq_getElem hj
                  have hz0 := hc j _ hx
                  have HXj : Hid ((encL zs)[j]? = some [.string zs[j]]) := (by unfold encL; rw [List.getElem?_map, hx]; rfl : _ = _)
                  clear hc hs hsome
                  generalize zs[j] = x at *
                  clear hx
                  have hj0 : (0 : Int) ≤ (j : Int) := by omega
                  have hj1 : (j : Int) < (zs.length : Int) := by omega
                  go_wp2_with fail
                  refine (qAt_S HSk.out.qp j x HXj.out).mono ?_
                  rintro e w5 ⟨rfl, hb5⟩
                  have c15 : w5.cell? ⟨BO, 1, none⟩ = some (.int .i64 (j : Int)) := (But.of_below hb5).cell c1 (nn _)
                  have hz5 : w5.cell? ⟨g, off + j, none⟩ = some (.string x) := (But.of_below hb5).cell hz0 (nn _)
                  have HS6 := (HSk.out.below hb5 : Hid (Sq w w5 p cap _ zs bs))
                  clear hb5 HSk hno c1 hz0
                  go_wp2
                  go_roundw
                  case rel => exact ⟨I + 1, _, _, by omega, by go_num, HS6⟩
                  case measure => simp [intOf]; omega
              · have hj0 : (0 : Int) ≤ (j : Int) := by omega
                have hj1 : ¬ (j : Int) < (zs.length : Int) := by omega
                go_wp2_with fail
                refine (qAtNo_S HSk.out.qp (j : Int) b2 b3 (.inr (by rw [encL_len]; omega))).mono ?_
                rintro e w5 ⟨rfl, hb5⟩
                have c15 : w5.cell? ⟨BO, 1, none⟩ = some (.int .i64 (j : Int)) := (But.of_below hb5).cell c1 (nn _)
                have HS6 := (HSk.out.below hb5 : Hid (Sq w w5 p cap _ zs bs))
                clear hb5 HSk hno hsome c1
                go_wp2
                go_roundw
                case rel => exact ⟨I + 1, _, _, by omega, by go_num, HS6⟩
                case measure => simp [intOf]; omega
        · as_aux_lemma =>
            obtain ⟨ao, lc, rfl, hlc, hno, hsome⟩ := HSk.out.os
            have hL := qLen_S HSk.out.qp
            rw [encL_len] at hL
            have HL : Hid (Calls Try.prog 23 #[.pointer p] wk fun e w' => e = .returned (.int .i64 (zs.length : Int)) ∧ Below wk.heap.size wk w') := hL
            clear hL
            go_wp2_with fail
            refine HL.out.mono ?_
            rintro e w5 ⟨rfl, hb5⟩
            have HS6 := (HSk.out.below hb5 : Hid (Sq w w5 p cap _ zs bs))
            have hll : ((zs.length : Int) != (zs.length : Int)) = false := by simp
            clear hb5 HSk hno hsome HL
            go_wp2
            go_roundw
            case rel => exact ⟨I + 1, _, _, by omega, by go_num, HS6⟩
            case measure => simp [intOf]; omega
        · as_aux_lemma =>
            obtain ⟨ao, lc, rfl, hlc, hno, hsome⟩ := HSk.out.os
            go_wp2_with fail
            refine (qCap_S HSk.out.qp).mono ?_
            rintro e w5 ⟨rfl, hb5⟩
            have HS6 := (HSk.out.below hb5 : Hid (Sq w w5 p cap _ zs bs))
            have hll : ((cap : Int) != (cap : Int)) = false := by simp
            clear hb5 HSk hno hsome
            go_wp2
            go_roundw
            case rel => exact ⟨I + 1, _, _, by omega, by go_num, HS6⟩
            case measure => simp [intOf]; omega
        · as_aux_lemma =>
            go_wp2_with fail
            refine (qClear_S HSk.out.qp).mono ?_
            rintro e w5 ⟨rfl, hq5, hb5⟩
            have HS6 : Hid (Sq w w5 p cap (.slice none 0 0) [] (bs.take 1)) := HSk.out.pop (os_nil _ _) (fun _ h => by cases h) hq5 (fun _ h => List.mem_of_mem_take h) hb5
            clear hb5 HSk hq5
            go_wp2
            go_roundw
            case rel => exact ⟨I + 1, _, _, by omega, by go_num, HS6⟩
            case measure => simp [intOf]; omega
        · as_aux_lemma =>
            obtain ⟨ao, lc, rfl, hlc, hno, hsome⟩ := HSk.out.os
            go_wp2_with fail
            refine (gone_S zs (by omega) HSk.out.qp).mono ?_
            rintro e w5 ⟨vn, vt, rfl, hrn, hrt, hb5⟩
            obtain ⟨an, cn, rfl, hnn⟩ : ∃ a c, vn = .slice a zs.length c ∧ (0 < zs.length → ∃ g, a = some ⟨g, 0, none⟩ ∧ ∀ j, j < zs.length → w5.cell? ⟨g, j, none⟩ = some (.int .i64 (j : Int))) := by
              have hcs := @World.ownsRow.cells _ _ _ _ _ _ _ hrn
              rcases hrn.2 with ⟨rfl, e⟩ | ⟨g, c, _, rfl, _⟩
              · exact ⟨none, 0, by rw [e], fun h => by omega⟩
              · refine ⟨_, c, rfl, fun _ => ⟨g, rfl, fun j hj => ?_⟩⟩
                have := hcs (g := g) rfl j (.int .i64 (j : Int)) (by unfold upto; simp [hj])
                rwa [Addr.add_lit, Nat.zero_add] at this
            obtain ⟨at', ct, rfl, htt⟩ : ∃ a c, vt = .slice a zs.length c ∧ (0 < zs.length → ∃ g, a = some ⟨g, 0, none⟩ ∧ ∀ j x, zs[j]? = some x → w5.cell? ⟨g, j, none⟩ = some (.string x)) := by
              have hcs := @World.ownsRow.cells _ _ _ _ _ _ _ hrt
              rcases hrt.2 with ⟨rfl, e⟩ | ⟨g, c, _, rfl, _⟩
              · exact ⟨none, 0, by rw [e], fun h => by omega⟩
              · refine ⟨_, c, rfl, fun _ => ⟨g, rfl, fun j x hj => ?_⟩⟩
                have hjl : j < zs.length := (List.getElem?_eq_some_iff.1 hj).1
                have := hcs (g := g) rfl j (.string x) (by unfold upto; rw [List.getElem?_map, List.getElem?_map, List.getElem?_range hjl]; simp only [Option.map_some, hj, Option.getD_some])
                rwa [Addr.add_lit, Nat.zero_add] at this
            have HNN : Hid (0 < zs.length → ∃ g, an = some ⟨g, 0, none⟩ ∧ ∀ j, j < zs.length → w5.cell? ⟨g, j, none⟩ = some (.int .i64 (j : Int))) := hnn
            have HTT : Hid (0 < zs.length → ∃ g, at' = some ⟨g, 0, none⟩ ∧ ∀ j x, zs[j]? = some x → w5.cell? ⟨g, j, none⟩ = some (.string x)) := htt
            have HS5 : Hid (Sq w w5 p cap (.slice ao zs.length lc) zs bs) := HSk.out.below hb5
            have hll : ((zs.length : Int) != (zs.length : Int)) = false := by simp
            clear hnn htt hrn hrt hb5 HSk hno hsome
            go_wp2
            go_loopw [205] (fun i wz => ∃ k : Nat, k ≤ zs.length ∧ i = .int .i64 (k : Int) ∧ Hid (But [] w5 wz)) (fun i _ => zs.length - (intOf i).toNat)
            case atStart => exact ⟨0, by omega, rfl, But.refl _ _⟩
            case round =>
              obtain ⟨k, hk, rfl, HBz⟩ := hrel
              by_cases hkl : k < zs.length
              · obtain ⟨gn, rfl, hcn⟩ := HNN.out (by omega)
                obtain ⟨gt, rfl, hct⟩ := HTT.out (by omega)
                have hx : zs[k]? = some zs[k] := List.getElem?_eq_getElem hkl
                have n0 := HBz.out.cell (hcn k hkl) (nn _)
                have t0 := HBz.out.cell (hct k _ hx) (nn _)
                have hOS := HS5.out.os
                obtain ⟨ao', lc', e', _, hno', hsome'⟩ := hOS
                injection e' with e1 e2 e3
                subst e1 e3
                cases ao with
                | none => have := hno' rfl; omega
                | some ad =>
                  obtain ⟨g, off, rfl, hgB, hg, hc, hs⟩ := hsome' ad rfl
                  have l0 := HBz.out.cell (hc k _ hx) (nn _)
                  clear hc hs hsome' hcn hct hno' hx
                  generalize zs[k] = x at *
                  have hki : (k : Int) < (zs.length : Int) := by omega
                  have hkk : ((k : Int) != (k : Int)) = false := by simp
                  go_wp2_with fail
                  go_quiet (fail)
                  go_wp2
                  go_roundw
                  case rel => exact ⟨k + 1, by omega, by go_num, HBz.out.drewN _⟩
                  case measure => simp [intOf]; omega
              · have hki : ¬ (k : Int) < (zs.length : Int) := by omega
                have HS6 : Hid (Sq w wr p cap (.slice ao zs.length lc) zs bs) := HS5.out.below HBz.out.to_below
                clear HS5 HBz HNN HTT
                go_wp2
                go_roundw
                case rel => exact ⟨I + 1, _, _, by omega, by go_num, HS6⟩
                case measure => simp [intOf]; omega
      · have hge : ¬ (I : Int) < (ps.length : Int) := by omega
        have HBf : Hid (Below w.heap.size w wr) := HS.out.bel
        clear HS
        go_wp2
        go_ret
        exact ⟨rfl, HBf.out⟩

end Rg
end Go.Proofs.Ytjhlflochheolaa
