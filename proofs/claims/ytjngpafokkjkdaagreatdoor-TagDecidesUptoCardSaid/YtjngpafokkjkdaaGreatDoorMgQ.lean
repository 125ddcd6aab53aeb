/- Several texts as one. -/
import Derived.Test.YtjngpafokkjkdaaGreatDoorMgP
import Derived.Test.YtjngpafokkjkdaaGreatDoorMgG
import Derived.BigQuiet
import Derived.Deep.QuietTactic
import Derived.OneCell
/-
  The date of a moment, and a date's moment.
-/
set_option linter.unusedVariables false
set_option linter.unusedSimpArgs false
namespace Go.Proofs.YtjngpafokkjkdaaGreatDoor
open Go.RowKit
namespace Bs

theorem Tb.alloc {w : World} (h : Tb w) (o : Obj) : Tb (w.alloc o) := h.bel ((But.refl [] w).alloc o).to_below

/-- The block is none of the tables. -/
def NotTb (P : Nat) : Prop := 2 < P ∧ 0 < P ∧ 1 < P ∧ 3 < P
theorem Tb.notTb {w : World} (h : Tb w) {P : Nat} (hP : w.heap.size ≤ P) : NotTb P := by
  have := h.l0
  have := h.l1
  have := h.l2
  have := h.l3
  unfold NotTb
  omega

theorem Tb.butP {P : Nat} {w w' : World} (h : Tb w) (b : But [P] w w') (hn : NotTb P) : Tb w' := by
  have hl : ∀ k, k < P → k ∉ [P] := fun k hk e => by simp at e; omega
  have hs := b.size
  obtain ⟨n0, n1, n2, n3⟩ := hn
  have l0 := h.l0
  have l1 := h.l1
  have l2 := h.l2
  have l3 := h.l3
  exact ⟨by omega, by omega, by omega, by omega, fun i hi => b.cell (h.pm i hi) (hl _ n0), fun i hi => b.cell (h.sd i hi) (hl _ n1), fun i hi => b.cell (h.ld i hi) (hl _ n2), fun i hi => b.cell (h.mo i hi) (hl _ n3)⟩

set_option maxHeartbeats 400000 in
theorem modulo_any (n by' : Int) (hn : I64 n) (h1 : 1 ≤ by') (h2 : by' ≤ 1000000) (w : World) :
    Calls Tryz.prog 91 #[.int .i64 n, .int .i64 by'] w fun e w' => e = .returned (.int .i64 (n % by')) ∧ w' = w := by
  obtain ⟨n0, n1⟩ := hn
  have a1 : -by' < n.tmod by' := Int.lt_tmod_of_pos n (by omega)
  have a2 : n.tmod by' < by' := Int.tmod_lt_of_pos n (by omega)
  have a3 : (n.tmod by' + by').tmod by' = n % by' := by
    rw [tr (by omega), Int.add_emod_right]
    have e : n % by' = (by' * n.tdiv by' + n.tmod by') % by' := by rw [Int.mul_tdiv_add_tmod]
    rw [e, Int.mul_add_emod_self_left]
  have a4 := Int.emod_nonneg n (show by' ≠ 0 by omega)
  have a5 := Int.emod_lt_of_pos n (show 0 < by' by omega)
  have A3 : Hid (_ = _) := a3
  have a6 : 0 ≤ (n.tmod by' + by').tmod by' ∧ (n.tmod by' + by').tmod by' < by' := by rw [a3]; omega
  clear a3
  have hz : ¬ by' = 0 := by omega
  go_enter Tryz.func91, Tryz.ntmps91
  go_wp2
  go_ret
  first | exact ⟨ret_int A3.out, rfl⟩ | exact ⟨ret_int (by rw [← A3.out]; exact (tr (by omega)).symm), rfl⟩

set_option maxHeartbeats 400000 in
theorem weekday_any (n : Int) (h0 : -1000000000 ≤ n) (h1 : n ≤ 1000000000) (w : World) :
    Calls Tryz.prog 88 #[.int .i64 n] w fun e w' => e = .returned (.int .i64 (wday n)) ∧ w' = w := by
  go_enter Tryz.func88, Tryz.ntmps88
  go_wp2_with fail
  refine (modulo_any (n + 3) 7 ⟨by omega, by omega⟩ (by omega) (by omega) w).mono ?_
  rintro e w' ⟨rfl, rfl⟩
  go_wp2
  go_ret
  exact ⟨rfl, rfl⟩

set_option maxHeartbeats 400000 in
theorem momentOf_any (D h m s : Int) (h0 : -1000000 ≤ D) (h1 : D ≤ 3000000) (h2 : 0 ≤ h) (h3 : h ≤ 100) (h4 : 0 ≤ m) (h5 : m ≤ 100) (h6 : 0 ≤ s) (h7 : s ≤ 100) (w : World) :
    Calls Tryz.prog 93 #[.int .i64 D, .int .i64 h, .int .i64 m, .int .i64 s] w fun e w' => e = .returned (.int .i64 (D * 86400 + h * 3600 + m * 60 + s)) ∧ w' = w := by
  go_enter Tryz.func93, Tryz.ntmps93
  go_wp2
  go_ret
  exact ⟨rfl, rfl⟩

set_option maxHeartbeats 400000 in
theorem yearOf_any (n : Int) (h0 : 0 ≤ n) (h1 : n ≤ 4000000) (w : World) :
    Calls Tryz.prog 86 #[.int .i64 n] w fun e w' => e = .returned (.tuple #[.int .i64 (yrOf n).1, .int .i64 (yrOf n).2]) ∧ w' = w := by
  have e1 : n.tdiv 146097 = n / 146097 := tq h0
  have e2 : n.tmod 146097 = n % 146097 := tr h0
  unfold yrOf
  dsimp only
  generalize hr : n / 146097 = r at *
  generalize ha : n % 146097 = a at *
  have a0 : 0 ≤ a ∧ a < 146097 := by omega
  have r0 : 0 ≤ r ∧ r ≤ 100 := by omega
  have e3 : a.tdiv 36524 = a / 36524 := tq a0.1
  generalize hc : min (a / 36524) 3 = c
  have c0 : 0 ≤ c ∧ c ≤ 3 := by omega
  generalize hx1 : a / 36524 = x1 at *
  have hb0 : 0 ≤ a - c * 36524 ∧ a - c * 36524 ≤ 36524 := by omega
  have e4 : (a - c * 36524).tdiv 1461 = (a - c * 36524) / 1461 := tq hb0.1
  have e5 : (a - c * 36524).tmod 1461 = (a - c * 36524) % 1461 := tr hb0.1
  generalize hf : (a - c * 36524) / 1461 = f at *
  generalize hg : (a - c * 36524) % 1461 = g at *
  have f0 : 0 ≤ f ∧ f ≤ 24 := by omega
  have g0 : 0 ≤ g ∧ g ≤ 1460 := by omega
  have e6 : g.tdiv 365 = g / 365 := tq g0.1
  generalize hx2 : g / 365 = x2 at *
  generalize hx : min x2 3 = x at *
  have x0 : 0 ≤ x ∧ x ≤ 3 := by omega
  go_enter Tryz.func86, Tryz.ntmps86
  go_wp2
  all_goals go_ret2
  all_goals
    refine ⟨ret_pair ?_ ?_, rfl⟩
    · omega
    · omega

def dv7 (y m d h i s k : Int) : Value := .agg #[.int .i64 y, .int .i64 m, .int .i64 d, .int .i64 h, .int .i64 i, .int .i64 s, .int .i64 k]
def splitV (t : Int) : Value := dv7 (ymd (t / 86400)).1 (ymd (t / 86400)).2.1 (ymd (t / 86400)).2.2 (t % 86400 / 3600) (t % 86400 % 3600 / 60) (t % 86400 % 60) (wday (t / 86400))
def splitR (t : Int) : Value × Int := if isM t then (splitV t, 0) else (dv7 0 0 0 0 0 0 0, 40)
theorem ret_vi {a b : Value} {k : IntKind} {c d : Int} (h : a = b) (h' : c = d) : Ending.returned (.tuple #[a, .int k c]) = .returned (.tuple #[b, .int k d]) := by rw [h, h']

set_option maxRecDepth 100000 in
set_option maxHeartbeats 1000000 in
theorem Split_any (t : Int) (ht : I64 t) (w : World) (tb : Tb w) :
    Calls Tryz.prog 60 #[.int .i64 t] w fun e w' => e = .returned (.tuple #[(splitR t).1, .int .i64 (splitR t).2]) ∧ Below w.heap.size w w' := by
  obtain ⟨t0, t1⟩ := ht
  have tb1 := tb.alloc (.cells #[.int .i64 0, .int .i64 0, .int .i64 0, .int .i64 0, .int .i64 0, .int .i64 0, .int .i64 0] 104)
  have HM : Hid (∀ y k, I64 y → I64 k → Calls Tryz.prog 87 #[.int .i64 y, .int .i64 k] (w.alloc (.cells #[.int .i64 0, .int .i64 0, .int .i64 0, .int .i64 0, .int .i64 0, .int .i64 0, .int .i64 0] 104)) fun e w' => e = .returned (.int .i64 (md y k)) ∧ w' = (w.alloc (.cells #[.int .i64 0, .int .i64 0, .int .i64 0, .int .i64 0, .int .i64 0, .int .i64 0, .int .i64 0] 104))) := fun y k hy hk => MonthDays_any y k hy hk _ tb1
  clear tb1 tb
  by_cases h1 : t < -62135596800
  · unfold splitR
    rw [if_neg (by unfold isM; omega)]
    go_enter Tryz.func60, Tryz.ntmps60
    go_wp2
    exact bodyPost_ret (v := .tuple #[dv7 0 0 0 0 0 0 0, .int .i64 40]) (by simp [results, Tryz.results60, go_sem, dv7]) rfl ⟨rfl, ((But.refl [] w).alloc _).to_below⟩
  by_cases h2 : 253402300799 < t
  · unfold splitR
    rw [if_neg (by unfold isM; omega)]
    go_enter Tryz.func60, Tryz.ntmps60
    go_wp2
    exact bodyPost_ret (v := .tuple #[dv7 0 0 0 0 0 0 0, .int .i64 40]) (by simp [results, Tryz.results60, go_sem, dv7]) rfl ⟨rfl, ((But.refl [] w).alloc _).to_below⟩
  unfold splitR
  rw [if_pos (by unfold isM; omega)]
  have e1 : (t + 62135596800) / 86400 = t / 86400 + 719162 := by omega
  have e2 : (t + 62135596800) % 86400 = t % 86400 := by omega
  have hyr := yrOf_jan (t / 86400 + 719162) (by omega)
  have hY : ∀ k l : Int, 1 ≤ k → k ≤ 12 → 0 ≤ l → l < md (yrOf (t / 86400 + 719162)).1 k → cum (yrOf (t / 86400 + 719162)).1 k + l = (yrOf (t / 86400 + 719162)).2 → 1 ≤ (yrOf (t / 86400 + 719162)).1 → (yrOf (t / 86400 + 719162)).1 ≤ 9999 → ymd (t / 86400) = ((yrOf (t / 86400 + 719162)).1, k, l + 1) := fun k l k1 k2 l1 l2 hc y1 y2 => ymd_eq ⟨y1, y2, by omega, by omega⟩ (by unfold dn; omega)
  have d1 : -719162 ≤ t / 86400 := by omega
  have d2 : t / 86400 ≤ 2932896 := by omega
  have r1 : 0 ≤ t % 86400 ∧ t % 86400 < 86400 := by omega
  have y1 : 1 ≤ (yrOf (t / 86400 + 719162)).1 := by
    by_cases h : 1 ≤ (yrOf (t / 86400 + 719162)).1
    · exact h
    · have := jan_mono (a := (yrOf (t / 86400 + 719162)).1 + 1) (b := 1) (by omega)
      rw [jan_succ, jan_one] at this
      omega
  have y2 : (yrOf (t / 86400 + 719162)).1 ≤ 9999 := by
    by_cases h : (yrOf (t / 86400 + 719162)).1 ≤ 9999
    · exact h
    · have := jan_mono (a := 10000) (b := (yrOf (t / 86400 + 719162)).1) (by omega)
      rw [jan_end] at this
      omega
  have HYR : Hid (∀ w, Calls Tryz.prog 86 #[.int .i64 (t / 86400 + 719162)] w fun e w' => e = .returned (.tuple #[.int .i64 (yrOf (t / 86400 + 719162)).1, .int .i64 (yrOf (t / 86400 + 719162)).2]) ∧ w' = w) := fun w => yearOf_any _ (by omega) (by omega) w
  have HWD : Hid (∀ w, Calls Tryz.prog 88 #[.int .i64 (t / 86400)] w fun e w' => e = .returned (.int .i64 (wday (t / 86400))) ∧ w' = w) := fun w => weekday_any _ (by omega) (by omega) w
  unfold splitV
  have r4 : 0 ≤ t % 86400 / 3600 ∧ t % 86400 / 3600 ≤ 23 := by omega
  have r5 : 0 ≤ t % 86400 % 3600 := by omega
  generalize (yrOf (t / 86400 + 719162)).1 = Y at *
  generalize (yrOf (t / 86400 + 719162)).2 = L at *
  generalize t / 86400 = D at *
  generalize t % 86400 = R at *
  have l1 : L < 366 := by
    have := feb_or Y
    have := hyr.2.2
    rw [yd_feb] at this
    omega
  have HY : Hid (∀ k l : Int, _) := hY
  clear hY
  go_enter Tryz.func60, Tryz.ntmps60
  go_wp2_with fail
  refine (HYR.out _).mono ?_
  rintro e w' ⟨rfl, rfl⟩
  go_wp2
  go_loop [8, 9] (fun a i => ∃ k l : Int, 1 ≤ k ∧ k ≤ 12 ∧ 0 ≤ l ∧ l ≤ L ∧ Hid (cum Y k + l = L) ∧ a = .int .i64 l ∧ i = .int .i64 k) (fun _ i => (13 - intOf i).toNat)
  case atStart => exact ⟨1, L, by omega, by omega, by omega, by omega, (by rw [cum_one]; omega : cum Y 1 + L = L), rfl, rfl⟩
  case round =>
    obtain ⟨k, l, k1, k2, l0, l2, hc, rfl, rfl⟩ := hrel
    have mr := md_le Y k
    by_cases hk : md Y k ≤ l
    · have hs := cum_succ Y k k1 k2
      have hk13 : k + 1 ≤ 12 := by
        by_cases h : k = 12
        · subst h
          have h13 := cum_13 Y
          have := hc.out
          have := hyr.2.2
          simp only [show (12 : Int) + 1 = 13 from rfl] at hs
          omega
        · omega
      have hc' : cum Y (k + 1) + (l - md Y k) = L := by have := hc.out; omega
      have HC' : Hid _ := hc'
      clear hc' hs hc
      go_wp2_with fail
      refine (HM.out Y k ⟨by omega, by omega⟩ ⟨by omega, by omega⟩).mono ?_
      rintro e w' ⟨rfl, rfl⟩
      go_wp2_with fail
      refine (HM.out Y k ⟨by omega, by omega⟩ ⟨by omega, by omega⟩).mono ?_
      rintro e w' ⟨rfl, rfl⟩
      go_wp2
      exact ⟨⟨k + 1, l - md Y k, by omega, by omega, by omega, by omega, HC', rfl, rfl⟩, by simp [intOf]; omega⟩
    · have HD : Hid (ymd D = (Y, k, l + 1)) := HY.out k l k1 k2 l0 (by omega) hc.out y1 y2
      go_wp2_with fail
      refine (HM.out Y k ⟨by omega, by omega⟩ ⟨by omega, by omega⟩).mono ?_
      rintro e w' ⟨rfl, rfl⟩
      go_wp2_with fail
      have e3 : D + 719162 - 719162 = D := by omega
      try rw [e3]
      refine (HWD.out _).mono ?_
      rintro e w' ⟨rfl, rfl⟩
      go_wp2
      exact bodyPost_ret (v := .tuple #[dv7 Y k (l + 1) (R / 3600) (R % 3600 / 60) (R % 60) (wday D), .int .i64 0]) (by simp [results, Tryz.results60, go_sem, dv7]) rfl ⟨by rw [HD.out], ((But.refl [] w).alloc _).to_below⟩

end Bs
end Go.Proofs.YtjngpafokkjkdaaGreatDoor

/-
  The pieces of a date in memory, and the functions that take them.
-/
set_option linter.unusedVariables false
set_option linter.unusedSimpArgs false
namespace Go.Proofs.YtjngpafokkjkdaaGreatDoor
open Go.RowKit
namespace Bs

def iv (st : List Int) : List Value := st.map fun x => Value.int .i64 x
theorem iv_length (st : List Int) : (iv st).length = st.length := by unfold iv; simp
theorem iv_set (st : List Int) (i : Nat) (x : Int) : (iv st).set i (.int .i64 x) = iv (st.set i x) := by unfold iv; rw [List.map_set]

/-- The pieces lie in block P. -/
structure Pcs (w : World) (P : Nat) (st : List Int) : Prop where
  len : st.length = 14
  blk : w.heap[P]? = some (.cells (iv st).toArray 110 (0, 0))
theorem Pcs.cell {w : World} {P : Nat} {st : List Int} (h : Pcs w P st) (i : Nat) (hi : i < 14) : w.cell? ⟨P, i, none⟩ = some (.int .i64 (g st i)) := by
  have := h.len
  have e : (iv st)[i]? = some (.int .i64 (g st i)) := by
    unfold iv g
    rw [List.getElem?_map, List.getD_eq_getElem?_getD, List.getElem?_eq_getElem (by omega)]
    rfl
  simp [World.cell?, h.blk, e]
theorem Pcs.lt {w : World} {P : Nat} {st : List Int} (h : Pcs w P st) : P < w.heap.size := (Array.getElem?_eq_some_iff.1 h.blk).1
theorem Pcs.but {bs : List Nat} {w w' : World} {P : Nat} {st : List Int} (h : Pcs w P st) (b : But bs w w') (hn : P ∉ bs) : Pcs w' P st := ⟨h.len, b.heap h.blk hn⟩
theorem Pcs.set {w : World} {P : Nat} {st : List Int} (h : Pcs w P st) (i : Nat) (hi : i < 14) (x : Int) : Pcs (w.setCell ⟨P, i, none⟩ (.int .i64 x)) P (st.set i x) := by
  refine ⟨by rw [List.length_set]; exact h.len, ?_⟩
  have hl := h.lt
  have hb := h.blk
  rw [← iv_set]
  unfold World.setCell
  rw [Array.getElem?_modify, if_pos rfl, hb]
  simp
theorem Pcs.free {w : World} {P : Nat} {st : List Int} (h : Pcs w P st) (i : Nat) : w.frozen? ⟨P, i, none⟩ = false := by
  simp [World.frozen?, h.blk]

def pp (P i : Nat) : Value := .pointer (some ⟨P, i, none⟩)
def fnm (k : Nat) : Nat := if k = 0 then 107 else if k = 1 then 108 else 109

/-- The value is the function that takes this piece. -/
def Tk (w : World) (P : Nat) : TK → Value → Prop
  | .ex t, v => ∃ a, v = .func (.func 121) #[] #[pp a 0] ∧ w.cell? ⟨a, 0, none⟩ = some (.string (str t)) ∧ a ≠ P
  | .dg n f, v => ∃ a b, v = .func (.func 120) #[] #[pp a 0, pp b 0] ∧ w.cell? ⟨a, 0, none⟩ = some (pp P (2 * f)) ∧ w.cell? ⟨b, 0, none⟩ = some (.int .i64 (n : Int)) ∧ a ≠ P ∧ b ≠ P
  | .nm k f, v => ∃ a b c, v = .func (.func 119) #[] #[pp a 0, pp b 0, pp c 0] ∧ w.cell? ⟨a, 0, none⟩ = some (.int .i64 ((nms k).length : Int)) ∧ w.cell? ⟨b, 0, none⟩ = some (.func (.func (fnm k)) #[] #[]) ∧ w.cell? ⟨c, 0, none⟩ = some (pp P (2 * f)) ∧ a ≠ P ∧ b ≠ P ∧ c ≠ P
  | .lo f, v => ∃ a b c d, v = .func (.func 122) #[] #[pp a 0, pp b 0] ∧ w.cell? ⟨a, 0, none⟩ = some (.func (.func 120) #[] #[pp c 0, pp d 0]) ∧ w.cell? ⟨b, 0, none⟩ = some (pp P (2 * f)) ∧ w.cell? ⟨c, 0, none⟩ = some (pp P (2 * f)) ∧ w.cell? ⟨d, 0, none⟩ = some (.int .i64 2) ∧ a ≠ P ∧ b ≠ P ∧ c ≠ P ∧ d ≠ P
theorem Tk.but {w w' : World} {P : Nat} {t : TK} {v : Value} (h : Tk w P t v) (b : But [P] w w') : Tk w' P t v := by
  have nm : ∀ a, a ≠ P → a ∉ [P] := fun a ha e => by simp at e; exact ha e
  cases t with
  | ex t => obtain ⟨a, e, h1, n1⟩ := h; exact ⟨a, e, b.cell h1 (nm _ n1), n1⟩
  | dg n f => obtain ⟨a, c, e, h1, h2, n1, n2⟩ := h; exact ⟨a, c, e, b.cell h1 (nm _ n1), b.cell h2 (nm _ n2), n1, n2⟩
  | nm k f => obtain ⟨a, c, d, e, h1, h2, h3, n1, n2, n3⟩ := h; exact ⟨a, c, d, e, b.cell h1 (nm _ n1), b.cell h2 (nm _ n2), b.cell h3 (nm _ n3), n1, n2, n3⟩
  | lo f => obtain ⟨a, c, d, x, e, h1, h2, h3, h4, n1, n2, n3, n4⟩ := h; exact ⟨a, c, d, x, e, b.cell h1 (nm _ n1), b.cell h2 (nm _ n2), b.cell h3 (nm _ n3), b.cell h4 (nm _ n4), n1, n2, n3, n4⟩
theorem Tk.below {w w' : World} {P : Nat} {t : TK} {v : Value} (h : Tk w P t v) (b : Below w.heap.size w w') : Tk w' P t v := h.but (But.of_below b).nil

/-- What a taker says, and leaves. -/
def Took (r : Except Nat (Nat × List Int)) (P : Nat) (e : Ending) (w' : World) : Prop :=
  match r with
  | .ok (b, st) => e = .returned (.tuple #[.int .i64 (b : Int), .bool true]) ∧ Pcs w' P st
  | .error b => e = .returned (.tuple #[.int .i64 (b : Int), .bool false]) ∧ ∃ st, Pcs w' P st

theorem lget {l : List UInt8} {j : Nat} (h : j < l.length) : l[j]? = some (l.getD j 0) := by
  rw [List.getD_eq_getElem?_getD, List.getElem?_eq_getElem h]
  rfl
theorem str_at (l : List UInt8) (j : Nat) (h : j < (str l).size) : (((str l)[j]).toNat : Int) = ((l.getD j 0).toNat : Int) := by
  rw [← at_lt, str_list]

end Bs
end Go.Proofs.YtjngpafokkjkdaaGreatDoor

/-
  The function that takes just these bytes.
-/
set_option linter.unusedVariables false
set_option linter.unusedSimpArgs false
namespace Go.Proofs.YtjngpafokkjkdaaGreatDoor
open Go.RowKit
namespace Bs

def exR : Except Nat Nat → Int × Bool
  | .ok b => ((b : Int), true)
  | .error b => ((b : Int), false)
theorem exs_step (l t : List UInt8) (i a : Nat) (hi : i < t.length) : exs l (t.drop i) a = if l[a]? = some (t.getD i 0) then exs l (t.drop (i + 1)) (a + 1) else .error a := by
  rw [List.drop_eq_getElem_cons hi, List.getD_eq_getElem?_getD, List.getElem?_eq_getElem hi]
  rfl
theorem exs_end (l t : List UInt8) (a : Nat) : exs l (t.drop t.length) a = .ok a := by
  rw [List.drop_length]
  rfl

set_option maxRecDepth 100000 in
set_option maxHeartbeats 1000000 in
theorem exactly1_any (l t : List UInt8) (at' a : Nat) (hl : l.length ≤ 140737488355328) (ht : t.length ≤ 100) (ha : at' ≤ l.length) (w : World) (c : w.cell? ⟨a, 0, none⟩ = some (.string (str t))) :
    Calls Tryz.prog 121 #[.string (str l), .int .i64 (at' : Int), pp a 0] w fun e w' => e = .returned (.tuple #[.int .i64 (exR (exs l t at')).1, .bool (exR (exs l t at')).2]) ∧ But [] w w' := by
  have hs : (str l).size = l.length := str_size l
  have hs2 : (str t).size = t.length := str_size t
  unfold pp
  go_enter Tryz.func121, Tryz.ntmps121
  go_wp2
  go_loopw [1, 10] (fun x i wr => ∃ k q : Nat, k ≤ t.length ∧ q ≤ l.length ∧ x = .int .i64 (q : Int) ∧ i = .int .i64 (k : Int) ∧ Hid (exs l (t.drop k) q = exs l t at') ∧ Hid (But [] w wr) ∧ wr.cell? ⟨a, 0, none⟩ = some (.string (str t))) (fun _ i _ => t.length - (intOf i).toNat)
  case atStart => exact ⟨0, at', by omega, ha, rfl, rfl, (rfl : exs l (t.drop 0) at' = exs l t at'), But.refl _ _, c⟩
  case round =>
    obtain ⟨k, q, hk, hq, rfl, rfl, he, hb, hc⟩ := hrel
    by_cases hkt : k < t.length
    · have hst := exs_step l t k q hkt
      have e2 := str_at t k (by omega)
      by_cases hql : q = l.length
      · rw [if_neg (by rw [hql, List.getElem?_eq_none (Nat.le_refl _)]; intro h; cases h), he.out] at hst
        have HS : Hid _ := hst
        clear hst
        have hd : ((q : Int) == (l.length : Int)) = true := by simp [hql]
        go_wp2_with fail
        go_quiet (fail)
        go_wp2
        go_ret2
        exact ⟨by rw [HS.out]; rfl, hb.out.drewN _⟩
      · have hg := lget (l := l) (j := q) (by omega)
        have e1 := str_at l q (by omega)
        have hd : ((q : Int) == (l.length : Int)) = false := by simp; omega
        by_cases hx : l.getD q 0 = t.getD k 0
        · rw [if_pos (by rw [hg, hx]), he.out] at hst
          have HS : Hid (_ = _) := hst.symm
          clear hst hg
          have hne : (((l.getD q 0).toNat : Int) != ((t.getD k 0).toNat : Int)) = false := by rw [hx]; simp
          clear hx
          generalize ((l.getD q 0).toNat : Int) = X at *
          generalize ((t.getD k 0).toNat : Int) = Y at *
          go_wp2_with fail
          go_quiet (fail)
          go_wp2
          go_roundw
          case rel => exact ⟨k + 1, q + 1, by omega, by omega, by go_num, by go_num, HS, hb.out.drewN _, ((But.refl [] _).drewN _).cell hc (fun e => by cases e)⟩
          case measure => simp only [intOf]; omega
        · rw [if_neg (by rw [hg]; intro h; exact hx (Option.some.inj h)), he.out] at hst
          have HS : Hid _ := hst
          clear hst hg
          have hne : (((l.getD q 0).toNat : Int) != ((t.getD k 0).toNat : Int)) = true := by
            rw [bne_iff_ne]
            intro h
            exact hx (UInt8.toNat_inj.1 (by omega))
          clear hx
          generalize ((l.getD q 0).toNat : Int) = X at *
          generalize ((t.getD k 0).toNat : Int) = Y at *
          go_wp2_with fail
          go_quiet (fail)
          go_wp2
          go_ret2
          exact ⟨by rw [HS.out]; rfl, hb.out.drewN _⟩
    · obtain rfl : k = t.length := by omega
      have hst := exs_end l t q
      rw [he.out] at hst
      have HS : Hid _ := hst
      clear hst
      go_wp2
      go_ret2
      exact ⟨by rw [HS.out]; rfl, hb.out⟩

end Bs
end Go.Proofs.YtjngpafokkjkdaaGreatDoor
