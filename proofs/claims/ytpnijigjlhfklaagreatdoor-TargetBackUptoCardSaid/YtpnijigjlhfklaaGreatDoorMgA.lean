/- Several texts as one. -/
import Derived.Test.YtpnijigjlhfklaaGreatDoorGPze
/-
  Plain: a target that was read, printed, is read again as the same.
-/
set_option linter.unusedVariables false
set_option linter.unusedSimpArgs false
set_option maxRecDepth 100000
namespace Go.Proofs.YtpnijigjlhfklaaGreatDoor
namespace Tg
open Oc

theorem all_bytes (P : UInt8 → Bool) (h : ∀ n : Nat, n < 256 → P (UInt8.ofNat n) = true) (c : UInt8) : P c = true := by
  have := h c.toNat c.toNat_lt
  rwa [UInt8.ofNat_toNat] at this
theorem low_val (c : UInt8) : valI ((lowB c).toNat : Int) = valI (c.toNat : Int) := by
  have := all_bytes (fun c => decide (valI ((lowB c).toNat : Int) = valI (c.toNat : Int))) (by decide +kernel) c
  simpa using this
theorem low_hx (c : UInt8) : hx (lowB c) = hx c := by
  have := all_bytes (fun c => decide (hx (lowB c) = hx c)) (by decide +kernel) c
  simpa using this
theorem low_name (c : UInt8) : nameOk (lowB c) = nameOk c := by
  have := all_bytes (fun c => decide (nameOk (lowB c) = nameOk c)) (by decide +kernel) c
  simpa using this
theorem low_low (c : UInt8) : lowB (lowB c) = lowB c := by
  have := all_bytes (fun c => decide (lowB (lowB c) = lowB c)) (by decide +kernel) c
  simpa using this
theorem low_37 (c : UInt8) : (lowB c == 37) = (c == 37) := by
  have := all_bytes (fun c => decide ((lowB c == 37) = (c == 37))) (by decide +kernel) c
  simpa using this
theorem low_46 (c : UInt8) : (lowB c == 46) = (c == 46) := by
  have := all_bytes (fun c => decide ((lowB c == 46) = (c == 46))) (by decide +kernel) c
  simpa using this
theorem low_58 (c : UInt8) : (lowB c == 58) = (c == 58) := by
  have := all_bytes (fun c => decide ((lowB c == 58) = (c == 58))) (by decide +kernel) c
  simpa using this
theorem low_91 (c : UInt8) : (lowB c == 91) = (c == 91) := by
  have := all_bytes (fun c => decide ((lowB c == 91) = (c == 91))) (by decide +kernel) c
  simpa using this
theorem low_93 (c : UInt8) : (lowB c == 93) = (c == 93) := by
  have := all_bytes (fun c => decide ((lowB c == 93) = (c == 93))) (by decide +kernel) c
  simpa using this
theorem low_end (c : UInt8) : endB (lowB c) = endB c := by
  have := all_bytes (fun c => decide (endB (lowB c) = endB c)) (by decide +kernel) c
  simpa using this
theorem low_dig (c : UInt8) (h : valI (c.toNat : Int) < 10) : lowB c = c := by
  have := all_bytes (fun c => decide (valI (c.toNat : Int) < 10 → lowB c = c)) (by decide +kernel) c
  exact (of_decide_eq_true this) h
theorem dig_end (c : UInt8) (h : valI (c.toNat : Int) < 10) : endB c = false := by
  have := all_bytes (fun c => decide (valI (c.toNat : Int) < 10 → endB c = false)) (by decide +kernel) c
  exact (of_decide_eq_true this) h
theorem lowL_low (l : List UInt8) : lower (lower l) = lower l := by
  unfold lower; rw [List.map_map]; exact List.map_congr_left fun c _ => low_low c
theorem lowL_len (l : List UInt8) : (lower l).length = l.length := by unfold lower; simp
theorem lowL_nil (l : List UInt8) : (lower l = []) ↔ l = [] := by unfold lower; simp
theorem lowL_app (a b : List UInt8) : lower (a ++ b) = lower a ++ lower b := by unfold lower; simp
theorem lowL_cons (a : UInt8) (b : List UInt8) : lower (a :: b) = lowB a :: lower b := rfl
theorem numOf_low (base : Int) (l : List UInt8) : numOf base (lower l) = numOf base l := by
  unfold numOf lower
  rw [List.foldl_map]
  simp only [low_val]
theorem numR_low (base : Int) (l : List UInt8) (most : Int) : numR base (lower l) most = numR base l most := by
  unfold numR
  rw [numOf_low]
  unfold lower
  rw [List.any_map, List.isEmpty_map]
  simp only [Function.comp_def, low_val]
theorem split_low (b : UInt8) (hb : ∀ c, (lowB c == b) = (c == b)) : ∀ l : List UInt8, splitB b (lower l) = (splitB b l).map lower
  | [] => rfl
  | c :: t => by
    rw [lowL_cons, splitB, splitB, hb, split_low b hb t]
    by_cases h : (c == b) = true
    · rw [if_pos h, if_pos h]; rfl
    · rw [if_neg h, if_neg h]
      cases splitB b t with
      | nil => rfl
      | cons x r => rfl
theorem pre_low (l : List UInt8) : ([58, 58] : List UInt8).isPrefixOf (lower l) = ([58, 58] : List UInt8).isPrefixOf l := by
  match l with
  | [] => rfl
  | [a] => simp [lower, List.isPrefixOf]
  | a :: b :: t =>
    have h1 := low_58 a
    have h2 := low_58 b
    simp only [lower, List.map_cons, List.isPrefixOf]
    rw [show ((58 : UInt8) == lowB a) = (lowB a == 58) from Bool.beq_comm, show ((58 : UInt8) == lowB b) = (lowB b == 58) from Bool.beq_comm, h1, h2, show ((58 : UInt8) == a) = (a == 58) from Bool.beq_comm, show ((58 : UInt8) == b) = (b == 58) from Bool.beq_comm]
theorem index_low : ∀ l : List UInt8, Lib.index (lower l) [58, 58] = Lib.index l [58, 58]
  | [] => rfl
  | c :: t => by
    have h := pre_low (c :: t)
    rw [lowL_cons] at h ⊢
    unfold Lib.index
    rw [h, index_low t]
theorem cut_low (l : List UInt8) : Lib.cut (lower l) [58, 58] = (lower (Lib.cut l [58, 58]).1, lower (Lib.cut l [58, 58]).2.1, (Lib.cut l [58, 58]).2.2) := by
  unfold Lib.cut
  rw [index_low]
  split
  · unfold lower; rw [← List.map_take, ← List.map_drop]
  · rfl
theorem grp1_low (l : List UInt8) : grp1 (lower l) = grp1 l := by unfold grp1; rw [numR_low, lowL_len]
theorem digs_of (l : List UInt8) (m : Int) (h : (numR 10 l m).2 = 0) : ∀ c ∈ l, valI (c.toNat : Int) < 10 := by
  unfold numR at h
  split at h
  · exact absurd h (by decide)
  · rename_i h0
    intro c hc
    by_cases hv : valI (c.toNat : Int) < 10
    · exact hv
    · exfalso
      apply h0
      rw [Bool.or_eq_true, List.any_eq_true]
      exact .inr ⟨c, hc, by simpa using hv⟩
theorem lower_digs (l : List UInt8) (h : ∀ c ∈ l, valI (c.toNat : Int) < 10) : lower l = l := by
  unfold lower
  exact (List.map_congr_left fun c hc => low_dig c (h c hc)).trans (List.map_id l)
theorem dec1_low (l : List UInt8) : dec1 (lower l) = dec1 l := by
  unfold dec1
  rw [numR_low]
  by_cases h : (numR 10 l 255).2 = 0
  · rw [lower_digs l (digs_of l 255 h)]
  · simp [h]
theorem quad_low (l : List UInt8) : quadR (lower l) = quadR l := by
  unfold quadR
  rw [split_low 46 low_46, List.all_map, List.length_map]
  congr 2
  exact funext fun x => dec1_low x
theorem grpG_low (last : Bool) : ∀ L : List (List UInt8), grpG last (L.map lower) = grpG last L
  | [] => rfl
  | x :: r => by
    rw [List.map_cons, grpG, grpG, grp1_low, grpG_low last r, quad_low, List.isEmpty_map]
theorem grpR_low (l : List UInt8) (last : Bool) : grpR (lower l) last = grpR l last := by
  unfold grpR
  rw [split_low 58 low_58, grpG_low]
  by_cases h : l = []
  · rw [if_pos h, if_pos ((lowL_nil l).2 h)]
  · rw [if_neg h, if_neg (fun e => h ((lowL_nil l).1 e))]
theorem addr_low (l : List UInt8) : addrR (lower l) = addrR l := by
  unfold addrR
  rw [cut_low]
  dsimp only
  rw [grpR_low, grpR_low, grpR_low]

theorem trip_low (l : List UInt8) : trip (lower l) = trip l := by
  match l with
  | [] => rfl
  | [_] => rfl
  | [_, _] => rfl
  | p :: a :: b :: t =>
    show (lowB p == 37 && (hx (lowB a) && hx (lowB b))) = (p == 37 && (hx a && hx b))
    rw [low_37, low_hx, low_hx]
theorem zs_low (l : List UInt8) : zs (lower l) = (zs l).map lower := by
  match l with
  | [] => show zs [] = _; rw [zs_nil]; rfl
  | c :: t =>
    by_cases h : trip (c :: t) = true
    · have h' : trip (lower (c :: t)) = true := by rw [trip_low]; exact h
      rw [zs_trip _ h', zs_trip _ h, List.map_cons]
      have e1 : (lower (c :: t)).take 3 = lower ((c :: t).take 3) := by unfold lower; rw [List.map_take]
      have e2 : (lower (c :: t)).drop 3 = lower ((c :: t).drop 3) := by unfold lower; rw [List.map_drop]
      rw [e1, e2, zs_low ((c :: t).drop 3)]
    · have h0 : trip (c :: t) = false := by simpa using h
      have h' : trip (lowB c :: lower t) = false := by rw [← lowL_cons, trip_low]; exact h0
      rw [lowL_cons, zs_one _ _ h', zs_one _ _ h0, List.map_cons, zs_low t]
      rfl
termination_by l.length
decreasing_by
  · simp; omega
  · simp
theorem goodZ_low (z : List UInt8) : goodZ nameOk (lower z) = goodZ nameOk z := by
  unfold goodZ
  rw [lowL_len]
  cases z with
  | nil => rfl
  | cons a t => show (_ || nameOk (lowB a)) = _; rw [low_name]; rfl
theorem name_low (l : List UInt8) : allOk nameOk (lower l) = allOk nameOk l := by
  unfold allOk
  rw [zs_low, List.all_map]
  congr 1
  exact funext fun z => goodZ_low z

theorem bk_digit (d : Nat) (h : d < 10) : valI ((UInt8.ofNat (48 + d)).toNat : Int) = (d : Int) := by
  have e : (UInt8.ofNat (48 + d)).toNat = 48 + d := by rw [UInt8.toNat_ofNat']; omega
  rw [e, valI_d (by omega)]
  omega
theorem bk_num : ∀ u : Nat, numOf 10 (Lib.decDigits u) = (u : Int) := by
  intro u
  induction u using Nat.strongRecOn with
  | _ u ih =>
    by_cases h : u < 10
    · rw [Lib.decDigits_one h]
      show (0 : Int) * 10 + valI _ = _
      rw [bk_digit u h]
      omega
    · rw [Lib.decDigits, dif_neg h, numOf_snoc, ih (u / 10) (by omega), bk_digit _ (by omega)]
      omega
theorem bk_digits : ∀ u : Nat, ∀ c ∈ Lib.decDigits u, valI (c.toNat : Int) < 10 := by
  intro u
  induction u using Nat.strongRecOn with
  | _ u ih =>
    by_cases h : u < 10
    · rw [Lib.decDigits_one h]
      intro c hc
      have hc := List.mem_singleton.1 hc
      subst hc
      rw [bk_digit u h]
      omega
    · rw [Lib.decDigits, dif_neg h]
      intro c hc
      rcases List.mem_append.1 hc with hc | hc
      · exact ih (u / 10) (by omega) c hc
      · have hc := List.mem_singleton.1 hc
        subst hc
        rw [bk_digit (u % 10) (by omega)]
        omega
theorem bk_ne (u : Nat) : Lib.decDigits u ≠ [] := by
  rw [Lib.decDigits]
  split <;> simp
theorem bk_len : ∀ (k u : Nat), u < 10 ^ (k + 1) → (Lib.decDigits u).length ≤ k + 1
  | 0, u, h => by rw [Lib.decDigits_one (by simpa using h)]; simp
  | k + 1, u, h => by
    by_cases h0 : u < 10
    · rw [Lib.decDigits_one h0]; simp
    · rw [Lib.decDigits, dif_neg h0, List.length_append]
      have := bk_len k (u / 10) (by rw [Nat.pow_succ] at h; omega)
      simp; omega
theorem itoa_dec (p : Int) (h : 0 ≤ p) : Lib.itoa p = Lib.decDigits p.toNat := by unfold Lib.itoa; rw [if_neg (by omega)]
theorem itoa_num (p : Int) (h0 : 0 ≤ p) (h1 : p ≤ 65535) : numR 10 (Lib.itoa p) 65535 = (p, 0) := by
  rw [itoa_dec p h0]
  unfold numR
  rw [if_neg, bk_num, if_neg (by omega), show ((p.toNat : Int)) = p by omega]
  simp only [Bool.or_eq_true, List.any_eq_true, not_or]
  constructor
  · cases e : Lib.decDigits p.toNat with
    | nil => exact absurd e (bk_ne _)
    | cons a l => simp
  · rintro ⟨c, hc, h⟩
    have h := of_decide_eq_true h
    have := bk_digits _ c hc
    omega
theorem itoa_short (p : Int) (h0 : 0 ≤ p) (h1 : p ≤ 65535) : (Lib.itoa p).length ≤ 5 := by
  rw [itoa_dec p h0]; exact bk_len 4 p.toNat (by omega)
theorem itoa_ne (p : Int) (h0 : 0 ≤ p) : Lib.itoa p ≠ [] := by rw [itoa_dec p h0]; exact bk_ne _
theorem itoa_end (p : Int) (h0 : 0 ≤ p) : ∀ c ∈ Lib.itoa p, endB c = false := by
  rw [itoa_dec p h0]; intro c hc; exact dig_end c (bk_digits _ c hc)

theorem cutA_mid (b : UInt8) (A B : List UInt8) (h : ∀ c ∈ A, c ≠ b) : cutA b (A ++ b :: B) = A ∧ cutB b (A ++ b :: B) = B ∧ has b (A ++ b :: B) = true := by
  unfold cutA cutB has
  have h' : ∀ c ∈ A, (c != b) = true := fun c hc => by simpa using h c hc
  refine ⟨?_, ?_, by simp⟩
  · rw [List.takeWhile_append_of_pos h']; simp
  · rw [List.dropWhile_append_of_pos h']; simp
theorem cutA_none (b : UInt8) (A : List UInt8) (h : ∀ c ∈ A, c ≠ b) : cutA b A = A ∧ cutB b A = [] ∧ has b A = false := by
  unfold cutA cutB has
  have h' : ∀ c ∈ A, (c != b) = true := fun c hc => by simpa using h c hc
  refine ⟨?_, ?_, ?_⟩
  · have := List.takeWhile_append_of_pos (l₂ := []) h'; simpa using this
  · have := List.dropWhile_append_of_pos (l₂ := []) h'; simp at this; rw [this]; rfl
  · rw [List.contains_eq_any_beq, List.any_eq_false]
    intro c hc
    have := h c hc
    simp
    exact fun e => this e.symm
theorem cutA_in (b : UInt8) (l : List UInt8) : ∀ c ∈ cutA b l, c ≠ b := by
  intro c hc
  unfold cutA at hc
  have := List.all_takeWhile (p := (· != b)) (l := l)
  rw [List.all_eq_true] at this
  simpa using this c hc
theorem cut_join (b : UInt8) (l : List UInt8) (h : has b l = true) : l = cutA b l ++ b :: cutB b l := by
  unfold cutA cutB
  unfold has at h
  induction l with
  | nil => simp at h
  | cons x t ih =>
    by_cases e : x = b
    · subst e; simp
    · have hx : (x != b) = true := by simpa using e
      rw [List.takeWhile_cons_of_pos (p := (· != b)) hx, List.dropWhile_cons_of_pos (p := (· != b)) hx, List.cons_append, ← ih]
      rw [List.contains_cons] at h
      rcases Bool.or_eq_true_iff.1 h with h | h
      · exact absurd (by simpa using h : b = x).symm e
      · exact h
theorem cut_not (b : UInt8) (l : List UInt8) (h : has b l = false) : cutA b l = l ∧ cutB b l = [] := by
  have hn : ∀ c ∈ l, c ≠ b := by
    intro c hc e
    subst e
    unfold has at h
    rw [List.contains_eq_any_beq, List.any_eq_false] at h
    exact h c hc (by simp)
  exact ⟨(cutA_none b l hn).1, (cutA_none b l hn).2.1⟩

theorem tail_ok {host port : List UInt8} {hs : Bool} {h : List UInt8} {p : Int} (e : tailR host port hs = (h, p, 0)) : h = lower host ∧ (p = -1 ∨ 0 ≤ p ∧ p ≤ 65535) := by
  unfold tailR at e
  split at e
  · injection e with e1 e2; injection e2 with e3 e4; exact ⟨e1.symm, .inl e3.symm⟩
  · split at e
    · injection e with e1 e2; injection e2 with e3 e4; exact absurd e4 (by decide)
    · rename_i hn
      injection e with e1 e2
      injection e2 with e3 e4
      refine ⟨e1.symm, .inr ?_⟩
      have h0 : (numR 10 port 65535).2 = 0 := by
        by_cases x : (numR 10 port 65535).2 = 0
        · exact x
        · exact absurd (.inl x) hn
      have hd := digs_of port 65535 h0
      rw [← e3]
      unfold numR at h0 ⊢
      split at h0
      · exact absurd h0 (by decide)
      · split at h0
        · exact absurd h0 (by decide)
        · rename_i x1 x2
          rw [if_neg x1, if_neg x2]
          refine ⟨?_, by dsimp only; omega⟩
          dsimp only
          clear h0 x1 x2 hn e3 e4 e1 hd
          suffices H : ∀ (l : List UInt8) (n : Int), 0 ≤ n → 0 ≤ l.foldl (fun n c => n * 10 + valI (c.toNat : Int)) n by exact H port 0 (by omega)
          intro l
          induction l with
          | nil => intro n hn; exact hn
          | cons c t ih => intro n hn; rw [List.foldl_cons]; exact ih _ (by have := (valI_bd (c := (c.toNat : Int)) (by omega)).1; omega)
theorem tail_bk (host : List UInt8) (p : Int) (h0 : 0 ≤ p) (h1 : p ≤ 65535) : tailR host (Lib.itoa p) true = (lower host, p, 0) := by
  unfold tailR
  rw [itoa_num p h0 h1, if_neg (fun e => e.elim (by decide) (itoa_ne p h0)), if_neg (fun e => e.elim (fun e => e rfl) (fun e => by have := itoa_short p h0 h1; omega))]
theorem tail_no (host port : List UInt8) : tailR host port false = (lower host, -1, 0) := by unfold tailR; rw [if_pos (.inl rfl)]

theorem auth_bk (a h : List UInt8) (p : Int) (e : authP a = (h, p, 0)) : authP (autR h p) = (h, p, 0) ∧ ((∀ c ∈ a, endB c = false) → ∀ c ∈ autR h p, endB c = false) ∧ autR h p ≠ [] := by
  rw [auth_hp] at e
  rw [auth_hp]
  have hend : ∀ (H : List UInt8), h = lower H → (∀ c ∈ H, c ∈ a) → (p = -1 ∨ 0 ≤ p ∧ p ≤ 65535) → (∀ c ∈ a, endB c = false) → ∀ c ∈ autR h p, endB c = false := by
    intro H hh hin hp ha c hc
    have h1 : ∀ c ∈ h, endB c = false := by
      intro c hc
      rw [hh] at hc
      unfold lower at hc
      obtain ⟨x, hx, rfl⟩ := List.mem_map.1 hc
      rw [low_end]
      exact ha x (hin x hx)
    unfold autR at hc
    split at hc
    · exact h1 c hc
    · rename_i hn
      rcases hp with hp | hp
      · exact absurd hp hn
      · rcases List.mem_append.1 hc with hc | hc
        · exact h1 c hc
        · rcases List.mem_cons.1 hc with hc | hc
          · subst hc; decide
          · exact itoa_end p hp.1 c hc
  unfold hpR at e
  split at e
  · rename_i h91
    split at e
    · injection e with e1 e2; injection e2 with e3 e4; exact absurd e4 (by decide)
    · rename_i hn
      have n1 : has 93 (a.drop 1) = true := by
        cases hb : has 93 (a.drop 1) with
        | true => rfl
        | false => exact absurd (.inl hb) hn
      have n2 : addrR (cutA 93 (a.drop 1)) = true := by
        cases hb : addrR (cutA 93 (a.drop 1)) with
        | true => rfl
        | false => exact absurd (.inr (.inl hb)) hn
      obtain ⟨t, rfl⟩ : ∃ t, a = 91 :: t := by
        cases a with
        | nil => simp at h91
        | cons x t => simp at h91; exact ⟨t, by rw [h91]⟩
      rw [show (91 :: t).drop 1 = t from rfl] at *
      have hj := cut_join 93 t n1
      have hA := cutA_in 93 t
      generalize cutA 93 t = A at *
      generalize cutB 93 t = B at *
      have htk : (91 :: t).take (A.length + 2) = 91 :: (A ++ [93]) := by
        rw [hj]
        show 91 :: (A ++ 93 :: B).take (A.length + 1) = _
        rw [List.take_append, List.take_of_length_le (by omega), show A.length + 1 - A.length = 1 by omega]
        rfl
      rw [htk] at e
      obtain ⟨hh, hp⟩ := tail_ok e
      have hh' : h = 91 :: (lower A ++ [93]) := by
        rw [hh, lowL_cons, lowL_app]
        have x1 : lowB 91 = 91 := by decide
        have x2 : lower [93] = [93] := by decide
        rw [x1, x2]
      have hA' : ∀ c ∈ lower A, c ≠ 93 := by
        intro c hc
        unfold lower at hc
        obtain ⟨x, hx, rfl⟩ := List.mem_map.1 hc
        have := low_93 x
        have h2 := hA x hx
        intro e
        rw [e] at this
        simp at this
        exact h2 this
      have main : ∀ R : List UInt8, hpR (91 :: (lower A ++ 93 :: R)) = if R ≠ [] ∧ R.head? ≠ some 58 then ([], 0, 52) else tailR (91 :: (lower A ++ [93])) (R.drop 1) (decide (R ≠ [])) := by
        intro R
        have hc := cutA_mid 93 (lower A) R hA'
        unfold hpR
        rw [if_pos (show (91 :: (lower A ++ 93 :: R)).head? = some 91 from rfl), show (91 :: (lower A ++ 93 :: R)).drop 1 = lower A ++ 93 :: R from rfl, hc.1, hc.2.1, hc.2.2, addr_low, n2]
        have htk : (91 :: (lower A ++ 93 :: R)).take ((lower A).length + 2) = 91 :: (lower A ++ [93]) := by
          show 91 :: (lower A ++ 93 :: R).take ((lower A).length + 1) = _
          rw [List.take_append, List.take_of_length_le (by omega), show (lower A).length + 1 - (lower A).length = 1 by omega]
          rfl
        rw [htk]
        by_cases hR : R ≠ [] ∧ R.head? ≠ some 58
        · rw [if_pos hR, if_pos (.inr (.inr hR))]
        · rw [if_neg hR, if_neg (fun x => x.elim (by decide) (fun x => x.elim (by decide) hR))]
      have hlow : lower (91 :: (lower A ++ [93])) = h := by
        rw [hh', lowL_cons, lowL_app, lowL_low]
        have x1 : lowB 91 = 91 := by decide
        have x2 : lower [93] = [93] := by decide
        rw [x1, x2]
      refine ⟨?_, hend (91 :: (A ++ [93])) hh (by
        intro c hc
        rw [hj]
        simp at hc ⊢
        rcases hc with hc | hc | hc
        · exact .inl hc
        · exact .inr (.inl hc)
        · exact .inr (.inr (.inl hc))) hp, ?_⟩
      · unfold autR
        split
        · rename_i hp1
          rw [hh']
          have := main []
          rw [show lower A ++ [93] = lower A ++ 93 :: [] from rfl, this, if_neg (by simp)]
          rw [show ((decide (([] : List UInt8) ≠ []))) = false by decide, tail_no, hlow, hh', hp1]
        · rename_i hp1
          rcases hp with hp | hp
          · exact absurd hp hp1
          · have := main (58 :: Lib.itoa p)
            rw [hh', show 91 :: (lower A ++ [93]) ++ 58 :: Lib.itoa p = 91 :: (lower A ++ 93 :: (58 :: Lib.itoa p)) by simp, this, if_neg (by simp)]
            rw [show (decide ((58 :: Lib.itoa p) ≠ [])) = true by simp, show (58 :: Lib.itoa p).drop 1 = Lib.itoa p from rfl, tail_bk _ p hp.1 hp.2, hlow, hh']
      · unfold autR
        rw [hh']
        split <;> simp
  · rename_i h91
    split at e
    · injection e with e1 e2; injection e2 with e3 e4; exact absurd e4 (by decide)
    · rename_i hn
      have hn := Bool.not_eq_false _ ▸ hn
      rw [Bool.and_eq_true] at hn
      have n1 : cutA 58 a ≠ [] := of_decide_eq_true hn.1
      have n2 := hn.2
      obtain ⟨hh, hp⟩ := tail_ok e
      have hin : ∀ c ∈ cutA 58 a, c ∈ a := fun c hc => (List.takeWhile_prefix _).subset hc
      have hhd : (cutA 58 a).head? = a.head? := by
        unfold cutA
        cases a with
        | nil => rfl
        | cons x t =>
          unfold cutA at n1
          by_cases hx : (x != 58) = true
          · rw [List.takeWhile_cons_of_pos (p := (· != 58)) hx]; rfl
          · rw [List.takeWhile_cons_of_neg (p := (· != 58)) hx] at n1; exact absurd rfl n1
      have hA := cutA_in 58 a
      generalize cutA 58 a = A at *
      have hA' : ∀ c ∈ h, c ≠ 58 := by
        intro c hc
        rw [hh] at hc
        unfold lower at hc
        obtain ⟨x, hx, rfl⟩ := List.mem_map.1 hc
        have := low_58 x
        have h2 := hA x hx
        intro e
        rw [e] at this
        simp at this
        exact h2 this
      have hne : h ≠ [] := by rw [hh]; exact fun e => n1 ((lowL_nil A).1 e)
      have hok : allOk nameOk h = true := by rw [hh, name_low]; exact n2
      have h91' : h.head? ≠ some 91 := by
        rw [← hhd] at h91
        rw [hh]
        cases A with
        | nil => exact absurd rfl n1
        | cons x t =>
          simp at h91
          rw [lowL_cons]
          simp
          intro e
          have := low_91 x
          rw [e] at this
          simp at this
          exact h91 this
      have hl : lower h = h := by rw [hh, lowL_low]
      refine ⟨?_, hend A hh hin hp, ?_⟩
      · unfold autR
        split
        · rename_i hp1
          have hc := cutA_none 58 h hA'
          unfold hpR
          rw [if_neg h91', hc.1, hc.2.1, hc.2.2, if_neg (by simp [hne, hok]), tail_no, hl, hp1]
        · rename_i hp1
          rcases hp with hp | hp
          · exact absurd hp hp1
          · have hc := cutA_mid 58 h (Lib.itoa p) hA'
            have hx : (h ++ 58 :: Lib.itoa p).head? ≠ some 91 := by
              cases h with
              | nil => exact absurd rfl hne
              | cons x t => exact h91'
            unfold hpR
            rw [if_neg hx, hc.1, hc.2.1, hc.2.2, if_neg (by simp [hne, hok]), tail_bk _ p hp.1 hp.2, hl]
      · unfold autR
        split
        · exact hne
        · simp

theorem plc_cut (r : List UInt8) : plcR (cutA 63 r) (cutB 63 r) (has 63 r) = r := by
  unfold plcR
  cases h : has 63 r with
  | true => rw [if_pos rfl]; exact (cut_join 63 r h).symm
  | false => rw [if_neg (by decide)]; exact (cut_not 63 r h).1
theorem plc_parts (p r : List UInt8) (hp : ∀ c ∈ p, c ≠ 63) : cutA 63 (plcR p (cutB 63 r) (has 63 r)) = p ∧ cutB 63 (plcR p (cutB 63 r) (has 63 r)) = cutB 63 r ∧ has 63 (plcR p (cutB 63 r) (has 63 r)) = has 63 r := by
  unfold plcR
  cases h : has 63 r with
  | true => rw [if_pos rfl]; exact cutA_mid 63 p _ hp
  | false =>
    rw [if_neg (by decide)]
    have := cutA_none 63 p hp
    exact ⟨this.1, by rw [this.2.1, (cut_not 63 r h).2], this.2.2⟩

/-- What was read is printed, and read again as the same. -/
theorem par_bk (m l : List UInt8) (y : PRes) (hy : parP m l = y) (h0 : y.err = 0) (m' : List UInt8) (hm : m' = m ∨ m' = (wrtR y.form y.host y.port y.path y.query y.hasq).1) :
    parP m' (wrtR y.form y.host y.port y.path y.query y.hasq).2 = y ∧ y.place = 0 := by
  unfold parP at hy
  split at hy
  · subst hy; exact absurd h0 (by decide)
  rename_i l0
  split at hy
  · -- authority form
    rename_i mc
    unfold conP at hy
    split at hy
    · subst hy; exact absurd h0 (by decide)
    · rename_i hc
      have x1 : (authP l).2.2 = 0 := by
        by_cases x : (authP l).2.2 = 0
        · exact x
        · exact absurd (.inl x) hc
      have x2 : (authP l).2.1 ≠ -1 := fun x => hc (.inr x)
      have ha := auth_bk l (authP l).1 (authP l).2.1 (by rw [← x1])
      subst hy
      have ew : wrtR 3 (authP l).1 (authP l).2.1 [] [] false = (conL, autR (authP l).1 (authP l).2.1) := by
        unfold wrtR; rw [if_neg (by decide), if_neg (by decide), if_pos rfl]
      dsimp only at hm ⊢
      rw [ew] at hm ⊢
      have hm' : m' = conL := hm.elim (fun h => h.trans mc) id
      refine ⟨?_, rfl⟩
      unfold parP
      rw [if_neg ha.2.2, if_pos hm']
      unfold conP
      rw [ha.1, if_neg (fun x => x.elim (fun x => x rfl) x2)]
  rename_i mc
  split at hy
  · -- origin form
    rename_i hs
    unfold placeP at hy
    rw [List.drop_zero] at hy
    split at hy
    · rename_i hz
      subst hy; exact absurd h0 hz
    · rename_i hz
      have hne : cutA 63 l ≠ [] := by
        cases l with
        | nil => exact absurd rfl l0
        | cons x t => simp at hs; subst hs; unfold cutA; rw [List.takeWhile_cons_of_pos (by decide)]; simp
      have hsl : slashed (cutA 63 l) = cutA 63 l := by unfold slashed; rw [if_neg hne]
      subst hy
      have ew : wrtR 1 [] (-1) (slashed (cutA 63 l)) (cutB 63 l) (has 63 l) = (getL, l) := by
        unfold wrtR; rw [if_pos rfl, hsl, plc_cut]
      dsimp only at hm ⊢
      rw [ew] at hm ⊢
      refine ⟨?_, rfl⟩
      have hm' : m' ≠ conL := by
        rcases hm with h | h
        · rw [h]; exact mc
        · rw [h]; exact (by decide : getL ≠ conL)
      unfold parP
      rw [if_neg l0, if_neg hm', if_pos hs]
      unfold placeP
      rw [List.drop_zero, if_neg hz]
  rename_i hs
  split at hy
  · rename_i ho
    subst hy
    have ew : wrtR 4 [] (-1) [] [] false = (optL, [42]) := by
      unfold wrtR; rw [if_neg (by decide), if_neg (by decide), if_neg (by decide), if_pos rfl]
    dsimp only at hm ⊢
    rw [ew] at hm ⊢
    have hm' : m' = optL := hm.elim (fun h => h.trans ho.1) id
    refine ⟨?_, rfl⟩
    unfold parP
    rw [if_neg (by simp), if_neg (by rw [hm']; decide), if_neg (by decide), if_pos ⟨hm', rfl⟩]
  rename_i ho
  split at hy
  · subst hy; exact absurd h0 (by decide)
  rename_i hh
  unfold absP at hy
  split at hy
  · rename_i hz
    subst hy; exact absurd h0 hz
  rename_i hz
  have hz : (authP (absT l)).2.2 = 0 := by
    by_cases x : (authP (absT l)).2.2 = 0
    · exact x
    · exact absurd x hz
  have ha := auth_bk (absT l) (authP (absT l)).1 (authP (absT l)).2.1 (by rw [← hz])
  have hend : ∀ c ∈ absT l, endB c = false := by
    intro c hc
    unfold absT hdLen at hc
    have hc : c ∈ (l.drop 7).takeWhile (fun c => !endB c) := by
      have e : (l.drop 7).take ((l.drop 7).takeWhile (fun c => !endB c)).length = (l.drop 7).takeWhile (fun c => !endB c) := (List.prefix_iff_eq_take.1 (List.takeWhile_prefix _)).symm
      rw [e] at hc; exact hc
    have := List.all_takeWhile (p := fun c => !endB c) (l := l.drop 7)
    rw [List.all_eq_true] at this
    simpa using this c hc
  have ha2 := ha.2.1 hend
  generalize hr : l.drop (7 + hdLen (l.drop 7)) = r at *
  have hrh : r = [] ∨ ∃ c t, r = c :: t ∧ endB c = true := by
    rw [← hr, ← List.drop_drop]
    generalize l.drop 7 = d
    unfold hdLen
    induction d with
    | nil => exact .inl rfl
    | cons x t ih =>
      by_cases hx : (!endB x) = true
      · rw [List.takeWhile_cons_of_pos (p := fun c => !endB c) hx]; exact ih
      · rw [List.takeWhile_cons_of_neg (p := fun c => !endB c) hx]; exact .inr ⟨x, t, rfl, by simpa using hx⟩
  generalize (authP (absT l)).1 = H at *
  generalize (authP (absT l)).2.1 = p at *
  unfold placeP at hy
  rw [hr] at hy
  split at hy
  · rename_i hq
    subst hy; exact absurd h0 hq
  rename_i hq
  subst hy
  dsimp only at hm ⊢
  have hsl : ∀ c ∈ slashed (cutA 63 r), c ≠ 63 := by
    unfold slashed
    split
    · intro c hc; simp at hc; subst hc; decide
    · exact cutA_in 63 r
  have hs47 : (slashed (cutA 63 r)).head? = some 47 := by
    unfold slashed
    split
    · rfl
    · rename_i hne
      rcases hrh with h | ⟨c, t, h, hc⟩
      · rw [h] at hne; exact absurd rfl hne
      · rw [h] at hne ⊢
        unfold endB at hc
        rcases Bool.or_eq_true_iff.1 hc with hc | hc
        · have hc : c = 47 := by simpa using hc
          subst hc
          unfold cutA
          rw [List.takeWhile_cons_of_pos (by decide)]; rfl
        · have hc : c = 63 := by simpa using hc
          subst hc
          unfold cutA at hne
          rw [List.takeWhile_cons_of_neg (by decide)] at hne
          exact absurd rfl hne
  have hpl := plc_parts (slashed (cutA 63 r)) r hsl
  have hp47 : (plcR (slashed (cutA 63 r)) (cutB 63 r) (has 63 r)).head? = some 47 := by
    unfold plcR
    cases hsx : slashed (cutA 63 r) with
    | nil => rw [hsx] at hs47; simp at hs47
    | cons x t => rw [hsx] at hs47; split <;> exact hs47
  have hplace : (placeR (plcR (slashed (cutA 63 r)) (cutB 63 r) (has 63 r))).2 = 0 := by
    have hq : (placeR r).2 = 0 := by
      by_cases x : (placeR r).2 = 0
      · exact x
      · exact absurd x hq
    unfold placeR at hq ⊢
    rw [hpl.1, hpl.2.1]
    have hs : (chk pathOk 53 (slashed (cutA 63 r))).2 = 0 := by
      unfold slashed
      split
      · have : chk pathOk 53 [47] = (0, 0) := chk_ok pathOk 53 [47] (by decide +kernel)
        rw [this]
      · by_cases x : (chk pathOk 53 (cutA 63 r)).2 = 0
        · exact x
        · rw [if_pos x] at hq; exact absurd hq x
    rw [if_neg (by rw [hs]; exact fun x => x rfl)]
    by_cases x : (chk pathOk 53 (cutA 63 r)).2 = 0
    · rw [if_neg (by rw [x]; exact fun x => x rfl)] at hq
      by_cases z : (chk queryOk 54 (cutB 63 r)).2 = 0
      · rw [if_neg (by rw [z]; exact fun x => x rfl)]
      · rw [if_pos z] at hq; exact absurd hq z
    · rw [if_pos x] at hq; exact absurd hq x
  generalize hP : plcR (slashed (cutA 63 r)) (cutB 63 r) (has 63 r) = P at *
  have ew : wrtR 2 H p (slashed (cutA 63 r)) (cutB 63 r) (has 63 r) = (getL, httpL ++ autR H p ++ P) := by
    unfold wrtR; rw [if_neg (by decide), if_pos rfl, hP]
  rw [ew] at hm ⊢
  dsimp only at hm ⊢
  refine ⟨?_, rfl⟩
  have hm' : m' ≠ conL := by
    rcases hm with h | h
    · rw [h]; exact mc
    · rw [h]; decide
  have hd7 : (httpL ++ autR H p ++ P).drop 7 = autR H p ++ P := by rw [List.append_assoc]; rfl
  have ht7 : (httpL ++ autR H p ++ P).take 7 = httpL := by rw [List.append_assoc]; rfl
  have hdl : hdLen (autR H p ++ P) = (autR H p).length := by
    unfold hdLen
    rw [List.takeWhile_append_of_pos (fun c hc => by rw [ha2 c hc]; rfl)]
    cases P with
    | nil => simp
    | cons x t => simp at hp47; subst hp47; rw [List.takeWhile_cons_of_neg (by decide)]; simp
  have hat : absT (httpL ++ autR H p ++ P) = autR H p := by
    unfold absT
    rw [hd7, hdl]
    simp
  unfold parP
  rw [if_neg (by simp [httpL]), if_neg hm', if_neg (by simp [httpL]), if_neg (fun x => by have := x.2; simp [httpL] at this), if_neg (fun x => by
    rcases x with x | x
    · simp [httpL] at x; omega
    · rw [ht7] at x; exact x (by decide))]
  unfold absP
  rw [hat, ha.1, if_neg (fun x => x rfl), hd7, hdl]
  unfold placeP
  have hdd : (httpL ++ autR H p ++ P).drop (7 + (autR H p).length) = P := by
    rw [← List.drop_drop, hd7]; simp
  rw [hdd, if_neg (by rw [hplace]; exact fun x => x rfl), hpl.1, hpl.2.1, hpl.2.2]
  have hs2 : slashed (slashed (cutA 63 r)) = slashed (cutA 63 r) := by
    cases hsx : slashed (cutA 63 r) with
    | nil => rw [hsx] at hs47; simp at hs47
    | cons x t => unfold slashed; rw [if_neg (by simp)]
  rw [hs2]

theorem auth_small (a h : List UInt8) (p : Int) (e : authP a = (h, p, 0)) : h.length ≤ a.length ∧ -1 ≤ p ∧ p ≤ 65535 := by
  rw [auth_hp] at e
  unfold hpR at e
  split at e
  · split at e
    · injection e with e1 e2; injection e2 with e3 e4; exact absurd e4 (by decide)
    · obtain ⟨hh, hp⟩ := tail_ok e
      refine ⟨?_, by omega, by omega⟩
      rw [hh, lowL_len, List.length_take]; omega
  · split at e
    · injection e with e1 e2; injection e2 with e3 e4; exact absurd e4 (by decide)
    · obtain ⟨hh, hp⟩ := tail_ok e
      refine ⟨?_, by omega, by omega⟩
      rw [hh, lowL_len]
      exact (List.takeWhile_prefix _).length_le
theorem slashed_len (p : List UInt8) : (slashed p).length ≤ p.length + 1 := by
  unfold slashed
  split <;> simp
theorem par_small (m l : List UInt8) (y : PRes) (hy : parP m l = y) (h0 : y.err = 0) : y.host.length ≤ l.length ∧ y.path.length ≤ l.length ∧ y.query.length ≤ l.length ∧ -1 ≤ y.port ∧ y.port ≤ 65535 := by
  unfold parP at hy
  split at hy
  · subst hy; exact absurd h0 (by decide)
  rename_i l0
  have l1 : 1 ≤ l.length := by
    cases l with
    | nil => exact absurd rfl l0
    | cons x t => simp
  have place : ∀ (form port : Int) (host : List UInt8) (k : Nat), host.length ≤ l.length → -1 ≤ port → port ≤ 65535 → (k = 0 → l.head? = some 47) → placeP form port host l k = y → y.host.length ≤ l.length ∧ y.path.length ≤ l.length ∧ y.query.length ≤ l.length ∧ -1 ≤ y.port ∧ y.port ≤ 65535 := by
    intro form port host k b1 b2 b3 hk hy
    unfold placeP at hy
    split at hy
    · rename_i hz; subst hy; exact absurd h0 hz
    · subst hy
      dsimp only
      refine ⟨b1, ?_, ?_, b2, b3⟩
      · by_cases k0 : k = 0
        · have h47 := hk k0
          subst k0
          rw [List.drop_zero]
          have hne : cutA 63 l ≠ [] := by
            cases l with
            | nil => exact absurd rfl l0
            | cons x t => simp at h47; subst h47; unfold cutA; rw [List.takeWhile_cons_of_pos (by decide)]; simp
          unfold slashed
          rw [if_neg hne]
          exact cutA_len _ _
        · by_cases hc : cutA 63 (l.drop k) = []
          · unfold slashed; rw [if_pos hc]; exact l1
          · unfold slashed
            rw [if_neg hc]
            have := cutA_len 63 (l.drop k)
            rw [List.length_drop] at this
            omega
      · have := cutB_len 63 (l.drop k)
        rw [List.length_drop] at this
        omega
  split at hy
  · unfold conP at hy
    split at hy
    · subst hy; exact absurd h0 (by decide)
    · rename_i hc
      have x1 : (authP l).2.2 = 0 := by
        by_cases x : (authP l).2.2 = 0
        · exact x
        · exact absurd (.inl x) hc
      have ha := auth_small l (authP l).1 (authP l).2.1 (by rw [← x1])
      subst hy
      exact ⟨ha.1, Nat.zero_le _, Nat.zero_le _, ha.2.1, ha.2.2⟩
  split at hy
  · rename_i hs
    exact place 1 (-1) [] 0 (Nat.zero_le _) (by decide) (by decide) (fun _ => hs) hy
  split at hy
  · subst hy
    exact ⟨Nat.zero_le _, Nat.zero_le _, Nat.zero_le _, by decide, by decide⟩
  split at hy
  · subst hy; exact absurd h0 (by decide)
  unfold absP at hy
  split at hy
  · rename_i hz; subst hy; exact absurd h0 hz
  rename_i hz
  have hz : (authP (absT l)).2.2 = 0 := by
    by_cases x : (authP (absT l)).2.2 = 0
    · exact x
    · exact absurd x hz
  have ha := auth_small (absT l) (authP (absT l)).1 (authP (absT l)).2.1 (by rw [← hz])
  have hl : (absT l).length ≤ l.length := by unfold absT; rw [List.length_take, List.length_drop]; omega
  exact place 2 _ _ (7 + hdLen (l.drop 7)) (by omega) ha.2.1 ha.2.2 (fun h => by omega) hy

end Tg
end Go.Proofs.YtpnijigjlhfklaaGreatDoor

/-
  The law TargetBack.
-/
set_option linter.unusedVariables false
set_option linter.unusedSimpArgs false
set_option maxRecDepth 100000
namespace Go.Proofs.YtpnijigjlhfklaaGreatDoor
open Go.RowKit Go.Shelf
namespace Tg
open Oc

set_option maxHeartbeats 4000000 in
theorem walk_TargetBack (m : ByteArray) (hm : m.size ≤ 1048576) (s : ByteArray) (hs : s.size ≤ 1048576) (w : World) (he : HE w) :
    Calls Tryz.prog 3 #[.string m, .string s] w fun e w' => e = .returned (.bool true) ∧ Below w.heap.size w w' := by
  have HA : Hid (∀ w, HE w → _) := fun w h => awake_any w h.1
  have HD : Hid (∀ w, HE w → _) := fun w h => Parse_any m s (by omega) (by omega) w h
  have HR : Hid (∀ w, _) := fun w => rParse_any m s (by omega) (by omega) w
  have HM : Hid (HE w) := he
  clear he
  generalize hQ : parP m.data.toList s.data.toList = Q at *
  obtain ⟨q1, q2, q3, q4, q5, q6, q7, q8⟩ := Q
  by_cases h8 : q8 = 0
  · subst h8
    have hsm := par_small _ _ _ hQ rfl
    have b1 := par_bk _ _ _ hQ rfl m.data.toList (.inl rfl)
    have b2 := par_bk _ _ _ hQ rfl _ (.inr rfl)
    dsimp only at hsm b1 b2
    rw [size_list] at hsm
    obtain ⟨s1, s2, s3, s4, s5⟩ := hsm
    have hl := wrtR_len q1 q2 q3 q4 q5 q6 (by omega) (by omega)
    have HP : Hid (∀ w, HE w → Calls Tryz.prog 9 #[.agg #[.int .i64 q1, .string (str q2), .int .i64 q3, .string (str q4), .string (str q5), .bool q6]] w fun e w' => e = .returned (.tuple #[.string (str (wrtR q1 q2 q3 q4 q5 q6).2), .int .i64 0]) ∧ Below w.heap.size w w') := fun w h => by
      have := Print_any q1 q3 (str q2) (str q4) (str q5) q6 (by rw [str_size]; omega) (by rw [str_size]; omega) (by rw [str_size]; omega) (by omega) (by omega) w h
      simp only [str_list] at this
      rw [b2.1] at this
      unfold prnR at this
      rw [if_pos ⟨rfl, rfl, rfl, rfl, rfl, rfl, rfl⟩] at this
      exact this
    have HD2 : Hid (∀ w, HE w → _) := fun w h => Parse_any m (str (wrtR q1 q2 q3 q4 q5 q6).2) (by omega) (by rw [str_size]; omega) w h
    rw [str_list, b1.1] at HD2
    have h7 := b1.2
    subst h7
    clear b1 b2 hl HR hQ
    unfold prV tgt at HD HD2
    dsimp only at HD HD2
    generalize str (wrtR q1 q2 q3 q4 q5 q6).2 = T at *
    generalize str q2 = Q2 at *
    generalize str q4 = Q4 at *
    generalize str q5 = Q5 at *
    clear s1 s2 s3 s4 s5
    go_enter Tryz.func3, Tryz.ntmps3
    go_wp2_with fail
    refine (HD.out _ HM.out).mono ?_
    rintro e w1 ⟨rfl, h1⟩
    have H1 : Hid (Below w.heap.size w w1) := h1
    clear h1
    go_wp2_with fail
    obtain ⟨w2, hw2⟩ : ∃ w2, w2 = w1.alloc (.cells #[.int .i64 q1, .string Q2, .int .i64 q3, .string Q4, .string Q5, .bool q6] 23) := ⟨_, rfl⟩
    have H2 : Hid (Below w.heap.size w w2) := by rw [hw2]; exact H1.out.alloc H1.out.size _
    have c1 : Hid (w2.heap[w1.heap.size]? = some (.cells #[.int .i64 q1, .string Q2, .int .i64 q3, .string Q4, .string Q5, .bool q6] 23 (0, 0))) := by rw [hw2]; exact World.alloc_heap_new w1 _
    have hz : w1.heap.size < w2.heap.size := by rw [hw2]; simp
    rw [← hw2]
    clear hw2
    refine (HP.out _ (HM.out.below H2.out)).mono ?_
    rintro e w3 ⟨rfl, h3⟩
    have H3 : Hid (Below w2.heap.size w2 w3) := h3
    clear h3
    go_wp2_with fail
    refine (HD2.out _ (HM.out.below (H2.out.trans (H3.out.mono H2.out.size)))).mono ?_
    rintro e w4 ⟨rfl, h4⟩
    have H4 : Hid (Below w2.heap.size w2 w4) := bel_trans H3.out h4
    clear h4
    go_wp2_with fail
    obtain ⟨w5, hw5⟩ : ∃ w5, w5 = w4.alloc (.cells #[.int .i64 q1, .string Q2, .int .i64 q3, .string Q4, .string Q5, .bool q6] 23) := ⟨_, rfl⟩
    have H5 : Hid (Below w2.heap.size w2 w5) := by rw [hw5]; exact H4.out.alloc H4.out.size _
    have c2 : Hid (w5.heap[w4.heap.size]? = some (.cells #[.int .i64 q1, .string Q2, .int .i64 q3, .string Q4, .string Q5, .bool q6] 23 (0, 0))) := by rw [hw5]; exact World.alloc_heap_new w4 _
    rw [← hw5]
    clear hw5
    refine (HA.out _ (HM.out.below (H2.out.trans (H5.out.mono H2.out.size)))).mono ?_
    rintro e w6 ⟨rfl, h6⟩
    have H6 : Hid (Below w2.heap.size w2 w6) := bel_trans H5.out h6
    have R1 := (H6.out.block _ hz).trans c1.out
    have R0 := (h6.block _ (Array.getElem?_eq_some_iff.1 c2.out).1).trans c2.out
    clear h6 c1 c2
    have a0 := Lib.cell_of_heap R1 0
    have a1 := Lib.cell_of_heap R1 1
    have a2 := Lib.cell_of_heap R1 2
    have a3 := Lib.cell_of_heap R1 3
    have a4 := Lib.cell_of_heap R1 4
    have a5 := Lib.cell_of_heap R1 5
    have b0 := Lib.cell_of_heap R0 0
    have b1 := Lib.cell_of_heap R0 1
    have b2 := Lib.cell_of_heap R0 2
    have b3 := Lib.cell_of_heap R0 3
    have b4 := Lib.cell_of_heap R0 4
    have b5 := Lib.cell_of_heap R0 5
    simp at a0 a1 a2 a3 a4 a5 b0 b1 b2 b3 b4 b5
    clear R1 R0
    go_wp2
    go_ret
    exact ⟨rfl, H2.out.trans (H6.out.mono H2.out.size)⟩
  · clear hQ
    unfold prV tgt at HD HR
    dsimp only at HD HR
    generalize str q2 = Q2 at *
    generalize str q4 = Q4 at *
    generalize str q5 = Q5 at *
    have h8' : (q8 == 0) = false := by simp [h8]
    go_enter Tryz.func3, Tryz.ntmps3
    go_wp2_with fail
    refine (HD.out _ HM.out).mono ?_
    rintro e w1 ⟨rfl, h1⟩
    have H1 : Hid (Below w.heap.size w w1) := h1
    clear h1
    go_wp2_with fail
    refine (HR.out _).mono ?_
    rintro e w2 ⟨rfl, h2⟩
    have H2 : Hid (Below w.heap.size w w2) := (H1.out.alloc H1.out.size _).trans (h2.mono (by have := H1.out.size; simp; omega))
    clear h2
    go_wp2_with fail
    have H2a : Hid (Below w.heap.size w (w2.alloc (.cells #[.int .i64 q1, .string Q2, .int .i64 q3, .string Q4, .string Q5, .bool q6] 27))) := H2.out.alloc H2.out.size _
    refine (HA.out _ (HM.out.below H2a.out)).mono ?_
    rintro e w3 ⟨rfl, h3⟩
    have H3 : Hid (Below w.heap.size w w3) := H2a.out.trans (h3.mono H2a.out.size)
    clear h3
    go_wp2
    go_ret
    exact ⟨rfl, H3.out⟩

end Tg
end Go.Proofs.YtpnijigjlhfklaaGreatDoor
