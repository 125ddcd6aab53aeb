/- Several texts as one. -/
import Derived.Test.YtjhlflochheolaaMgE
import Derived.ArgAppend
import Derived.Laws.CopyOwn
/-
  The law's own list: a slice of texts of the call's own, cut at the front and appended to.
-/
set_option maxRecDepth 100000
set_option linter.unusedVariables false
set_option linter.unusedSimpArgs false
namespace Go.Proofs.Ytjhlflochheolaa
open Go.RowKit
namespace Rg

def enc (zs : List ByteArray) : List Value := zs.map Value.string
theorem enc_get {zs : List ByteArray} {j : Nat} {u : Value} (h : (enc zs)[j]? = some u) : ∃ x, zs[j]? = some x ∧ u = .string x := by
  unfold enc at h
  rw [List.getElem?_map] at h
  cases hz : zs[j]? with
  | none => rw [hz] at h; cases h
  | some x => rw [hz] at h; cases h; exact ⟨x, rfl, rfl⟩
theorem enc_len (zs : List ByteArray) : (enc zs).length = zs.length := by unfold enc; simp

def OS (w : World) (B : Nat) (v : Value) (zs : List ByteArray) : Prop :=
  ∃ ao cap, v = .slice ao zs.length cap ∧ zs.length ≤ cap ∧ (ao = none → cap = 0) ∧ ∀ ad, ao = some ad → ∃ g off, ad = ⟨g, off, none⟩ ∧ B ≤ g ∧ g < w.heap.size ∧ (∀ j x, zs[j]? = some x → w.cell? ⟨g, off + j, none⟩ = some (.string x)) ∧
    ∀ j, zs.length ≤ j → j < cap → (w.cell? ⟨g, off + j, none⟩).isSome = true ∧ w.frozen? ⟨g, off + j, none⟩ = false

theorem os_nil (w : World) (B : Nat) : OS w B (.slice none 0 0) [] := ⟨none, 0, rfl, Nat.le_refl _, fun _ => rfl, fun _ e => by cases e⟩

theorem OS.but {w w' : World} {B : Nat} {v : Value} {zs : List ByteArray} (h : OS w B v zs) {bs : List Nat} (b : But bs w w') (hn : ∀ g, v.ownBlock = some g → g ∉ bs) : OS w' B v zs := by
  obtain ⟨ao, cap, rfl, h1, h2, h3⟩ := h
  refine ⟨ao, cap, rfl, h1, h2, fun ad e => ?_⟩
  obtain ⟨g, off, rfl, hB, hg, hc, hs⟩ := h3 ad e
  subst e
  have hnb : g ∉ bs := hn g rfl
  have hblk := b.block g hg hnb
  refine ⟨g, off, rfl, hB, Nat.lt_of_lt_of_le hg b.size, fun j x hj => b.cell (hc j x hj) hnb, fun j h4 h5 => ?_⟩
  rw [World.cell?_of_block (w := w) hblk, World.frozen?_of_block (w := w) hblk]
  exact hs j h4 h5

theorem OS.lt {w : World} {B : Nat} {v : Value} {zs : List ByteArray} (h : OS w B v zs) : ∀ g, v.ownBlock = some g → B ≤ g ∧ g < w.heap.size := by
  obtain ⟨ao, cap, rfl, h1, h2, h3⟩ := h
  intro g hg
  cases ao with
  | none => cases hg
  | some ad =>
    obtain ⟨g', off, rfl, hB, hlt, _⟩ := h3 ad rfl
    have : g' = g := by simpa [Value.ownBlock] using hg
    subst this
    exact ⟨hB, hlt⟩

theorem OS.of_own {w : World} {B : Nat} {v : Value} {zs : List ByteArray} (h : w.ownsRow B 9 1 v zs.length (enc zs)) : OS w B v zs := by
  rcases h.2 with ⟨rfl, e⟩ | ⟨g, cap, cur, rfl, hb, hg, h1, h2, h3, h4⟩
  · obtain rfl : zs = [] := List.eq_nil_of_length_eq_zero e
    exact os_nil w B
  · refine ⟨some ⟨g, 0, none⟩, cap, rfl, h1, (fun e => by cases e), fun ad e => ?_⟩
    injection e with e
    subst e
    refine ⟨g, 0, rfl, hb, (Array.getElem?_eq_some_iff.1 hg).1, fun j x hj => ?_, fun j h5 h6 => ?_⟩
    · have := World.ownsRow.cells h (g := g) rfl j _ (by unfold enc; rw [List.getElem?_map, hj]; rfl)
      rwa [Addr.add_lit] at this
    · rw [Nat.zero_add]
      simp [World.cell?, World.frozen?, hg]
      omega

theorem heap_setCells (b : Nat) : ∀ (vs : List Value) (o : Nat) (w : World) (k : Nat), k ≠ b → (w.setCells b o vs).heap[k]? = w.heap[k]?
  | [], _, _, _, _ => rfl
  | v :: vs, o, w, k, h => (heap_setCells b vs (o + 1) _ k h).trans (Below.heap_setCell w ⟨b, o, none⟩ v k h)

set_option maxHeartbeats 1000000 in
theorem wp_appL {ops : Array Oper} {rest : List Oper} {o : Oper} {a : Act} {Q : Exit → Act → World → Prop} (hgd : o.guard = none) (s x : Operand)
    (ho : o.op = .call { callee := .builtin .append, args := #[s, x], argTypes := #[50, 50] }) (v : Value) (zs : List ByteArray) (W : World) (B : Nat) (z : ByteArray)
    (hs : a.eval s = v) (hO : OS W B v zs) (hB : B ≤ W.heap.size) (hx : a.eval x = .slice (some ⟨W.heap.size, 0, none⟩) 1 1) (hlen : zs.length ≤ 65536)
    (h : ∀ v' w', Hid (OS w' B v' (zs ++ [z])) → Hid (But v.ownBlock.toList W w') → Hid (∀ g, v'.ownBlock = some g → v.ownBlock = some g ∨ W.heap.size ≤ g) → wpList Try.prog ops Q rest (a.put o.dst v') w') : wpList Try.prog ops Q (o :: rest) a (W.alloc (.cells #[.string z] 9)) := by
  obtain ⟨i0, hi, hz0, hz1, hz2⟩ := info_parts infoQ_S
  obtain ⟨ao, cap, rfl, h1, h2, h3⟩ := hO
  have hnew : ∀ j u, ([Value.string z])[j]? = some u → (W.alloc (.cells #[.string z] 9)).cell? ((⟨W.heap.size, 0, none⟩ : Addr).add j) = some u := by
    intro j u hj
    match j, hj with
    | 0, hj => simp at hj; subst hj; simp [Addr.add]
  have hone : ∀ u ∈ [Value.string z], u.oneCell' = true := by intro u hu; simp at hu; subst hu; rfl
  have grow : ∀ v' w', w'.ownsRow (W.alloc (.cells #[.string z] 9)).heap.size 9 1 v' (zs.length + 1) (enc zs ++ [.string z]) → (W.alloc (.cells #[.string z] 9)).grownBy w' none → wpList Try.prog ops Q rest (a.put o.dst v') w' := by
    intro v' w' hown hg
    have hown' : w'.ownsRow B 9 1 v' (zs ++ [z]).length (enc (zs ++ [z])) := by
      have e : enc (zs ++ [z]) = enc zs ++ [.string z] := by unfold enc; rw [List.map_append]; rfl
      rw [e, List.length_append]
      exact ⟨hown.1, hown.2.imp id fun ⟨g, cp, cur, e, hb, r⟩ => ⟨g, cp, cur, e, Nat.le_trans hB (Nat.le_trans (by simp) hb), r⟩⟩
    refine h v' w' (OS.of_own hown') (((But.refl _ W).alloc _).grown hg (fun k hk => by cases hk)) (fun g hg' => .inr ?_)
    have := (hown.lt g hg').1
    rw [World.size_alloc] at this
    omega
  cases ao with
  | none =>
    have hc0 := h2 rfl
    subst hc0
    have hz : zs = [] := List.eq_nil_of_length_eq_zero (by omega)
    subst hz
    exact wpList_append_grows _ hgd s x 50 ho 9 i0 (.string ⟨#[]⟩) 1 16 Try.underlying50 hi hz0 hz1 hz2 rfl (by decide) none 0 0 [] hs (fun _ => ⟨rfl, rfl⟩) rfl (fun b e => by cases e) ⟨W.heap.size, 0, none⟩ 1 1 [.string z] hx rfl hnew hone (by omega) (by unfold maxLen; omega) (by omega) grow
  | some ad =>
    obtain ⟨g, off, rfl, hgB, hg, hc, hsp⟩ := h3 ad rfl
    have hblk : (W.alloc (.cells #[.string z] 9)).heap[g]? = W.heap[g]? := Below.heap_alloc _ _ _ hg
    refine wpList_append_arg _ hgd s x 50 ho 9 i0 (.string ⟨#[]⟩) 1 16 Try.underlying50 hi hz0 hz1 hz2 rfl (by decide) g off zs.length cap (enc zs) hs (by rw [enc_len]; omega) (fun j u hj => ?_) ⟨W.heap.size, 0, none⟩ 1 1 [.string z] hx rfl hnew hone (fun hr j hj => ?_) (by unfold maxLen; omega) (by omega) (fun hr => ?_) (fun _ => grow)
    · obtain ⟨x', hx', rfl⟩ := enc_get hj
      rw [World.cell?_of_block (w := W) hblk]
      exact hc j x' hx'
    · obtain rfl : j = 0 := by simpa using hj
      rw [World.cell?_of_block (w := W) hblk, World.frozen?_of_block (w := W) hblk]
      simp only [Nat.mul_one, Nat.add_zero]
      exact hsp _ (Nat.le_refl _) (by omega)
    · have hbut : But [g] W ((W.alloc (.cells #[.string z] 9)).setCells g (off + zs.length * 1) [.string z]) :=
        ((But.refl [g] W).alloc _).setCell (p := ⟨g, off + zs.length * 1, none⟩) (by simp) _
      have hcell : ∀ j x', (zs ++ [z])[j]? = some x' → ((W.alloc (.cells #[.string z] 9)).setCells g (off + zs.length * 1) [.string z]).cell? ⟨g, off + j, none⟩ = some (.string x') := by
        intro j x' hj
        by_cases hjl : j < zs.length
        · rw [List.getElem?_append_left hjl] at hj
          rw [World.cell?_setCells_out _ _ _ _ _ (fun _ _ => .inl (by simp only; omega)), World.cell?_of_block (w := W) hblk]
          exact hc j x' hj
        · rw [List.getElem?_append_right (by omega)] at hj
          have hj0 : j - zs.length = 0 := by
            rcases Nat.eq_zero_or_pos (j - zs.length) with e | e
            · exact e
            · rw [List.getElem?_eq_none (by simp; omega)] at hj; cases hj
          rw [hj0] at hj
          simp at hj
          subst hj
          obtain rfl : j = zs.length := by omega
          have := World.cell?_setCells_in g [.string z] (off + zs.length * 1) (W.alloc (.cells #[.string z] 9)) (fun j hj => by
            obtain rfl : j = 0 := by simpa using hj
            rw [World.cell?_of_block (w := W) hblk]
            simp only [Nat.mul_one, Nat.add_zero]
            exact (hsp _ (Nat.le_refl _) (by omega)).1) 0 (by simp)
          simpa using this
      refine h _ _ ⟨some ⟨g, off, none⟩, cap, by rw [List.length_append]; rfl, by rw [List.length_append]; exact hr, (fun e => by cases e), fun ad e => ?_⟩ hbut (fun g' hg' => .inl hg')
      injection e with e
      subst e
      refine ⟨g, off, rfl, hgB, Nat.lt_of_lt_of_le hg hbut.size, hcell, fun j h5 h6 => ?_⟩
      rw [List.length_append] at h5
      simp at h5
      rw [World.cell?_setCells_out _ _ _ _ _ (fun _ _ => .inr (by simp; omega)), World.frozen?_setCells, World.cell?_of_block (w := W) hblk, World.frozen?_of_block (w := W) hblk]
      exact hsp j (by omega) h6

end Rg
end Go.Proofs.Ytjhlflochheolaa

/-
  The queue's Push where nothing fits.
-/
set_option maxRecDepth 100000
set_option linter.unusedVariables false
set_option linter.unusedSimpArgs false
namespace Go.Proofs.Ytjhlflochheolaa
open Go.RowKit
namespace Rg

set_option maxHeartbeats 2000000 in
theorem qPushNo_S {w : World} {p : Option Addr} {bs : List Nat} {cap : Nat} {xs : List (List Value)} (HQ : QP w 9 1 87 p bs cap xs) (x : ByteArray) (hfull : xs.length = cap) : Calls Try.prog 19 #[.pointer p, .string x] w fun e w' => e = .returned (.int .i64 21) ∧ Below w.heap.size w w' := by
  have HQ' : Hid (QP w 9 1 87 p bs cap xs) := HQ
  clear HQ
  have HF : Hid (xs.length = cap) := hfull
  clear hfull
  go_enter Try.func19, Try.ntmps19
  go_wp2_with fail
  refine (qLen_S HQ'.out).mono ?_
  rintro e w1 ⟨rfl, hb⟩
  have HB1 : Hid (Below w.heap.size w w1) := hb
  clear hb
  go_wp2_with fail
  refine (qCap_S (HQ'.out.below HB1.out)).mono ?_
  rintro e w2 ⟨rfl, hb⟩
  have HB2 : Hid (Below w.heap.size w w2) := bel_trans HB1.out hb
  clear hb
  rw [HF.out]
  go_wp2
  go_ret
  exact ⟨rfl, HB2.out⟩

/-- A queue holds at most so many. -/
theorem QP.le_S {w : World} {p : Option Addr} {bs : List Nat} {cap : Nat} {xs : List (List Value)} (HQ : QP w 9 1 87 p bs cap xs) : xs.length ≤ cap := by
  rcases HQ with ⟨_, _, rfl, rfl⟩ | ⟨qp, sv, head, n, cs, _, _, H, _⟩
  · simp
  · have := H.hc; have := H.hn; omega

set_option maxHeartbeats 2000000 in
theorem qPushNo_I {w : World} {p : Option Addr} {bs : List Nat} {cap : Nat} {xs : List (List Value)} (HQ : QP w 3 1 92 p bs cap xs) (x : Int) (hfull : xs.length = cap) : Calls Try.prog 28 #[.pointer p, .int .i64 x] w fun e w' => e = .returned (.int .i64 21) ∧ Below w.heap.size w w' := by
  have HQ' : Hid (QP w 3 1 92 p bs cap xs) := HQ
  clear HQ
  have HF : Hid (xs.length = cap) := hfull
  clear hfull
  go_enter Try.func28, Try.ntmps28
  go_wp2_with fail
  refine (qLen_I HQ'.out).mono ?_
  rintro e w1 ⟨rfl, hb⟩
  have HB1 : Hid (Below w.heap.size w w1) := hb
  clear hb
  go_wp2_with fail
  refine (qCap_I (HQ'.out.below HB1.out)).mono ?_
  rintro e w2 ⟨rfl, hb⟩
  have HB2 : Hid (Below w.heap.size w w2) := bel_trans HB1.out hb
  clear hb
  rw [HF.out]
  go_wp2
  go_ret
  exact ⟨rfl, HB2.out⟩

/-- A queue holds at most so many. -/
theorem QP.le_I {w : World} {p : Option Addr} {bs : List Nat} {cap : Nat} {xs : List (List Value)} (HQ : QP w 3 1 92 p bs cap xs) : xs.length ≤ cap := by
  rcases HQ with ⟨_, _, rfl, rfl⟩ | ⟨qp, sv, head, n, cs, _, _, H, _⟩
  · simp
  · have := H.hc; have := H.hn; omega

end Rg
end Go.Proofs.Ytjhlflochheolaa

/-
  The queue: list, a copy of what waits.
-/
set_option maxRecDepth 100000
set_option linter.unusedVariables false
set_option linter.unusedSimpArgs false
namespace Go.Proofs.Ytjhlflochheolaa
open Go.RowKit
namespace Rg

theorem flat_one {α : Type} (d : α) (cs : List α) (f : Nat → Nat) (count : Nat) (h : ∀ i, i < count → f i < cs.length) : ((List.range count).map fun i => (cs.drop (f i)).take 1).flatten = (List.range count).map fun i => cs.getD (f i) d := by
  induction count with
  | zero => rfl
  | succ k ih =>
    rw [List.range_succ, List.map_append, List.map_append, List.flatten_append, ih (fun i hi => h i (by omega))]
    congr 1
    have hk := h k (by omega)
    simp only [List.map_cons, List.map_nil, List.flatten_cons, List.flatten_nil, List.append_nil]
    rw [List.drop_eq_getElem_cons hk, List.getD_eq_getElem?_getD, List.getElem?_eq_getElem hk]
    rfl
theorem wait_flat {cap head count n : Nat} {cs : List Value} (hh : head < cap) (hn : n ≤ cap) (hc : count ≤ n) (hg : n < cap → head + count = n) (hl : cs.length = n) :
    (wait cap head count 1 cs).flatten = (cs.drop head).take (min (n - head) count) ++ cs.take (count - min (n - head) count) := by
  have hg' : cap ≤ n ∨ head + count = n := by
    by_cases c : n < cap
    · exact .inr (hg c)
    · exact .inl (by omega)
  clear hg
  have hp : ∀ i, i < count → pl cap head i * 1 < cs.length := by
    intro i hi
    unfold pl
    split <;> omega
  unfold wait
  rw [flat_one (.int .i64 0) cs (fun i => pl cap head i * 1) count hp]
  apply List.ext_getElem?
  intro i
  by_cases hi : i < count
  · have h1 := hp i hi
    rw [List.getElem?_map, List.getElem?_range hi, Option.map_some, List.getD_eq_getElem?_getD, List.getElem?_eq_getElem h1, Option.getD_some, ← List.getElem?_eq_getElem h1]
    rw [List.getElem?_append]
    by_cases c : i < min (n - head) count
    · rw [if_pos (by rw [List.length_take, List.length_drop]; omega), List.getElem?_take_of_lt c, List.getElem?_drop]
      congr 1
      unfold pl
      split
      · omega
      · omega
    · rw [if_neg (by rw [List.length_take, List.length_drop]; omega), List.length_take, List.length_drop, List.getElem?_take_of_lt (by omega)]
      congr 1
      unfold pl
      split
      · omega
      · omega
  · rw [List.getElem?_eq_none (by simp; omega), List.getElem?_eq_none (by simp; omega)]
theorem fill_two_v (z : Value) (n k : Nat) (p1 p2 : List Value) (h1 : p1.length = k) (h2 : k + p2.length = n) : splice (splice (List.replicate n z) 0 p1) k p2 = p1 ++ p2 := by
  subst h1
  subst h2
  unfold splice
  simp

theorem htL_I : Try.prog.underlying 59 = some (.slice (Try.prog.elem 59)) := by simp [Program.elem, Try.underlying59]
theorem sizeL_I : (Try.prog.info? 3).map (·.size) = some 1 := by kernel_rfl
theorem szL_I (w : World) : (sizeOf (Try.prog.elem 59)).run Try.prog w = .ok 1 w := by
  obtain ⟨i0, hi, hz0, hz1, hz2⟩ := info_parts infoQ_I
  have he : Try.prog.elem 59 = 3 := by simp [Program.elem, Try.underlying59]
  rw [he]
  simp [sizeOf, typeInfo, hi, hz1]
theorem cutL_I (w : World) (a : Option Addr) (n cap i : Nat) (hi : i ≤ n) (hc : n ≤ cap) : (Instr.slice 59 (.slice a n cap) (some (.int .i64 (i : Int))) none none).run Try.prog w = .ok (.slice (if cap = i then a else a.map (·.add (i * 1))) (n - i) (cap - i)) w := by
  rw [run_slice_l (P := Try.prog) w 59 a n cap htL_I .i64 (i : Int) (by omega) (by omega), szL_I]
  simp only [Result.andThen, Int.toNat_natCast]
  rfl
theorem run_mkL_I (W : World) (n : Nat) (hn : n ≤ 65536) : (Instr.makeSlice 59 (.int .i64 (n : Int)) (.int .i64 (n : Int))).run Try.prog W = .ok (.slice (some ⟨W.heap.size, 0, none⟩) n n) (W.alloc (.cells (List.replicate n (.int .i64 0 : Value)).toArray 3 (0, 0))) := by
  obtain ⟨i0, hi, hz0, hz1, hz2⟩ := info_parts infoQ_I
  have hr := run_make (P := Try.prog) W 59 3 i0 (.int .i64 0) Try.underlying59 hi hz0 .i64 .i64 (n : Int) (n : Int) (by omega) (Int.le_refl _) (by rw [hz2]; omega) (by omega)
  simp only [Int.toNat_natCast, hz1] at hr
  rw [hr]
  congr 3
  apply Array.toList_inj.1
  show (madeCells #[(.int .i64 0 : Value)] (n * 1)).toList = _
  rw [toList_madeCells_one, Nat.mul_one]

set_option maxHeartbeats 4000000 in
theorem qList_I {w : World} {p : Option Addr} {bs : List Nat} {cap : Nat} {xs : List (List Value)} (HQ : QP w 3 1 92 p bs cap xs) (h1 : ∀ u ∈ xs.flatten, Value.oneCell' u = true) : Calls Try.prog 48 #[.pointer p] w fun e w' => ∃ v, e = .returned v ∧ w'.ownsRow w.heap.size 3 1 v xs.length xs.flatten ∧ Below w.heap.size w w' := by
  have HQ' : Hid (QP w 3 1 92 p bs cap xs) := HQ
  by_cases hx : xs = []
  · subst hx
    clear HQ
    go_enter Try.func48, Try.ntmps48
    go_wp2_with fail
    refine (qLen_I HQ'.out).mono ?_
    rintro e w1 ⟨rfl, hb⟩
    have HB : Hid (Below w.heap.size w w1) := hb
    clear hb
    go_wp2
    go_ret
    exact ⟨_, rfl, World.ownsRow_nil _ _ _ _, HB.out⟩
  have H1 : Hid (∀ u ∈ xs.flatten, Value.oneCell' u = true) := h1
  clear h1
  rcases HQ with ⟨_, _, _, e⟩ | ⟨qp, sv, head, n, cs, rfl, hbs, H, hxs⟩
  · exact absurd e hx
  clear hbs
  have hk : 1 ≤ xs.length := by
    cases xs with
    | nil => exact absurd rfl hx
    | cons a b => simp
  clear hx
  have hle := H.hc
  obtain ⟨g, c, rfl⟩ : ∃ g c, sv = .slice (some ⟨g, 0, none⟩) n c := by
    rcases H.own.2 with ⟨_, e⟩ | ⟨g, c, _, e, _⟩
    · omega
    · exact ⟨g, c, e⟩
  have hmn : n ≤ c := by
    rcases H.own.2 with ⟨e, _⟩ | ⟨g', c', _, e, _, _, h, _⟩
    · cases e
    · injection e with _ _ e3
      omega
  have hcl : cs.length = n := by have := H.own.1; omega
  have HF : Hid (xs.flatten = _) := (congrArg List.flatten hxs).trans (wait_flat H.hh H.hn H.hc H.grow hcl)
  have hhn : head < n := by
    have h1 := H.hh
    have h2 := H.hn
    by_cases c : n < cap
    · have := H.grow c
      omega
    · omega
  have hn6 : n ≤ 65536 := Nat.le_trans H.hn H.cap2
  have HH : Hid (IsQ w 3 1 92 qp (.slice (some ⟨g, 0, none⟩) n c) cap head xs.length n cs) := H
  clear H hxs
  obtain ⟨K, hK⟩ : ∃ K, K = xs.length := ⟨_, rfl⟩
  obtain ⟨k1, hk1⟩ : ∃ k1, k1 = min (n - head) K := ⟨_, rfl⟩
  rw [← hK] at HF hk hle HH
  rw [← hk1] at HF
  have HK : Hid (K = xs.length) := hK
  have hk1a : k1 ≤ K := by omega
  have hk1b : k1 ≤ n - head := by omega
  have HK1 : Hid (k1 = min (n - head) K) := hk1
  obtain ⟨X1, hX1⟩ : ∃ X1, X1 = (cs.drop head).take k1 := ⟨_, rfl⟩
  obtain ⟨X2, hX2⟩ : ∃ X2, X2 = cs.take (K - k1) := ⟨_, rfl⟩
  have l1 : X1.length = k1 := by rw [hX1, List.length_take, List.length_drop]; omega
  have l2 : X2.length = K - k1 := by rw [hX2, List.length_take]; omega
  rw [← hX1, ← hX2] at HF
  have HC1 : Hid (∀ j v, X1[j]? = some v → w.cell? ⟨g, head + j, none⟩ = some v) := (fun j v hj => by
    have hj1 := (List.getElem?_eq_some_iff.1 hj).1
    rw [HH.out.own.cellAt _ (by omega)]
    rw [hX1, List.getElem?_take_of_lt (by omega), List.getElem?_drop] at hj
    exact hj)
  have HC2 : Hid (∀ j v, X2[j]? = some v → w.cell? ⟨g, j, none⟩ = some v) := (fun j v hj => by
    have hj1 := (List.getElem?_eq_some_iff.1 hj).1
    rw [HH.out.own.cellAt _ (by omega)]
    rw [hX2, List.getElem?_take_of_lt (by omega)] at hj
    exact hj)
  have O1 : Hid (∀ v ∈ X1, Value.oneCell' v = true) := (fun v hv => H1.out v (by rw [HF.out]; exact List.mem_append_left _ hv))
  have O2 : Hid (∀ v ∈ X2, Value.oneCell' v = true) := (fun v hv => H1.out v (by rw [HF.out]; exact List.mem_append_right _ hv))
  have hgw : g < w.heap.size := (HH.out.own.lt g rfl).2
  have hqw : qp < w.heap.size := (Array.getElem?_eq_some_iff.1 HH.out.str).1
  clear hX1 hX2 hk1 hK
  go_enter Try.func48, Try.ntmps48
  go_wp2_with fail
  refine (qLen_I HQ'.out).mono ?_
  rintro e w1 ⟨rfl, hb⟩
  rw [← HK.out]
  have HB1 : Hid (Below w.heap.size w w1) := hb
  clear hb HQ'
  obtain ⟨c0, c1, c2, c3, cf⟩ := row4q (HH.out.below HB1.out).str
  have hne : ((K : Int) == 0) = false := by simp; omega
  have hmk := run_mkL_I w1 K (by omega)
  obtain ⟨w2, hw2⟩ : ∃ w2, w2 = w1.alloc (.cells (List.replicate K (.int .i64 0 : Value)).toArray 3 (0, 0)) := ⟨_, rfl⟩
  rw [← hw2] at hmk
  have HG2 : Hid (w2.heap[w1.heap.size]? = some (.cells (List.replicate K (.int .i64 0 : Value)).toArray 3 (0, 0))) := (by rw [hw2]; exact heap_alloc_new _ _ : w2.heap[w1.heap.size]? = _)
  have HB2 : Hid (Below w.heap.size w w2) := (by rw [hw2]; exact HB1.out.alloc HB1.out.size _ : Below w.heap.size w w2)
  have hg1 : w.heap.size ≤ w1.heap.size := HB1.out.size
  clear hw2
  generalize w1.heap.size = vb at *
  have e1 : ∀ W : World, (Instr.slice 59 (.slice (some ⟨g, 0, none⟩) n c) (some (.int .i64 (head : Int))) none none).run Try.prog W = .ok (.slice (some ⟨g, head, none⟩) (n - head) (c - head)) W := fun W => by
    rw [cutL_I W _ _ _ _ (by omega) hmn, if_neg (by omega)]
    simp [Addr.add]
    try omega
  obtain ⟨a3, ha3, e2⟩ : ∃ a3, (0 < K - k1 → a3 = some ⟨vb, k1, none⟩) ∧ ∀ W : World, (Instr.slice 59 (.slice (some ⟨vb, 0, none⟩) K K) (some (.int .i64 (k1 : Int))) none none).run Try.prog W = .ok (.slice a3 (K - k1) (K - k1)) W := by
    refine ⟨_, ?_, fun W => cutL_I W _ _ _ _ hk1a (Nat.le_refl _)⟩
    intro h
    rw [if_neg (by omega)]
    simp [Addr.add]
    try omega
  have HA3 : Hid (0 < K - k1 → a3 = some ⟨vb, k1, none⟩) := ha3
  clear ha3
  go_wp2_with fail
  have HD2 : Hid (Below w.heap.size w w2.drew) := HB2.out.drew
  have d0 : w2.drew.cell? ⟨qp, 0, none⟩ = some (.slice (some ⟨g, 0, none⟩) n c) := (But.of_below HD2.out).cell (row4q HH.out.str).1 (fun e => by cases e)
  have d2 : w2.drew.cell? ⟨qp, 2, none⟩ = some (.int .i64 (head : Int)) := (But.of_below HD2.out).cell (row4q HH.out.str).2.2.1 (fun e => by cases e)
  clear c0 c1 c2 c3 cf hmk
  go_region_law (refine step_copy_splice rfl (.tmp 13) (.tmp 22) 59 59 rfl 3 Try.underlying59 sizeL_I (some ⟨vb, 0, none⟩) (some ⟨g, head, none⟩) K K (n - head) (c - head) (by simp [Act.eval, Act.put]) (by simp [Act.eval, Act.put]) vb 0 (List.replicate K (.int .i64 0 : Value)) 3 HG2.out X1 (by rw [l1]; exact HK1.out) (fun _ => ⟨rfl, _, rfl, fun j v hj => (But.of_below HD2.out).cell (by rw [Addr.add_lit]; exact HC1.out j v hj) (fun e => by cases e)⟩) (by simp [l1]; omega) O1.out w.heap.size w HD2.out hg1 ?_; intro w4 HG4 HB4)
  all_goals
    have HB4' : Hid (Below w.heap.size w w4) := HB4
    have HD4 : Hid (Below w.heap.size w w4.drew) := HB4.drew
    have m0 : w4.drew.cell? ⟨qp, 0, none⟩ = some (.slice (some ⟨g, 0, none⟩) n c) := (But.of_below HD4.out).cell (row4q HH.out.str).1 (fun e => by cases e)
    have l3 : (splice (List.replicate K (.int .i64 0 : Value)) 0 X1).length = K := by rw [length_splice _ _ _ (by simp [l1]; omega)]; simp
    clear d0 d2 HB4
    go_simp
    go_wp2_with fail
    go_region_law (refine step_copy_splice rfl (.tmp 26) (.tmp 30) 59 59 rfl 3 Try.underlying59 sizeL_I a3 (some ⟨g, 0, none⟩) (K - k1) (K - k1) n c (by simp [Act.eval, Act.put]) (by simp [Act.eval, Act.put]) vb k1 (splice (List.replicate K (.int .i64 0 : Value)) 0 X1) 3 HG4.out X2 (by rw [l2]; exact (Nat.min_eq_right (by omega)).symm) (fun h => ⟨HA3.out (by omega), _, rfl, fun j v hj => (But.of_below HD4.out).cell (by rw [Addr.add_lit, Nat.zero_add]; exact HC2.out j v hj) (fun e => by cases e)⟩) (by rw [l3, l2]; omega) O2.out w.heap.size w HD4.out hg1 ?_; intro w6 HG6 HB6)
    all_goals
      have HB6' : Hid (Below w.heap.size w w6) := HB6
      clear HB6 m0
      go_simp
      go_wp2
      go_ret
      have hfin := HG6.out
      rw [fill_two_v _ K k1 X1 X2 l1 (by omega), ← HF.out] at hfin
      have hfl : xs.flatten.length = K := by rw [HF.out, List.length_append]; omega
      refine ⟨.slice (some ⟨vb, 0, none⟩) K K, rfl, ⟨by rw [hfl, ← HK.out, Nat.mul_one], .inr ⟨vb, K, _, by rw [← HK.out], hg1, hfin, by rw [← HK.out]; exact Nat.le_refl _, by unfold maxLen; omega, by simp [hfl], by rw [← HK.out, Nat.mul_one]; exact List.take_of_length_le (by simp [hfl])⟩⟩, HB6'.out⟩

theorem htL_S : Try.prog.underlying 50 = some (.slice (Try.prog.elem 50)) := by simp [Program.elem, Try.underlying50]
theorem sizeL_S : (Try.prog.info? 9).map (·.size) = some 1 := by kernel_rfl
theorem szL_S (w : World) : (sizeOf (Try.prog.elem 50)).run Try.prog w = .ok 1 w := by
  obtain ⟨i0, hi, hz0, hz1, hz2⟩ := info_parts infoQ_S
  have he : Try.prog.elem 50 = 9 := by simp [Program.elem, Try.underlying50]
  rw [he]
  simp [sizeOf, typeInfo, hi, hz1]
theorem cutL_S (w : World) (a : Option Addr) (n cap i : Nat) (hi : i ≤ n) (hc : n ≤ cap) : (Instr.slice 50 (.slice a n cap) (some (.int .i64 (i : Int))) none none).run Try.prog w = .ok (.slice (if cap = i then a else a.map (·.add (i * 1))) (n - i) (cap - i)) w := by
  rw [run_slice_l (P := Try.prog) w 50 a n cap htL_S .i64 (i : Int) (by omega) (by omega), szL_S]
  simp only [Result.andThen, Int.toNat_natCast]
  rfl
theorem run_mkL_S (W : World) (n : Nat) (hn : n ≤ 65536) : (Instr.makeSlice 50 (.int .i64 (n : Int)) (.int .i64 (n : Int))).run Try.prog W = .ok (.slice (some ⟨W.heap.size, 0, none⟩) n n) (W.alloc (.cells (List.replicate n (.string ⟨#[]⟩ : Value)).toArray 9 (0, 0))) := by
  obtain ⟨i0, hi, hz0, hz1, hz2⟩ := info_parts infoQ_S
  have hr := run_make (P := Try.prog) W 50 9 i0 (.string ⟨#[]⟩) Try.underlying50 hi hz0 .i64 .i64 (n : Int) (n : Int) (by omega) (Int.le_refl _) (by rw [hz2]; omega) (by omega)
  simp only [Int.toNat_natCast, hz1] at hr
  rw [hr]
  congr 3
  apply Array.toList_inj.1
  show (madeCells #[(.string ⟨#[]⟩ : Value)] (n * 1)).toList = _
  rw [toList_madeCells_one, Nat.mul_one]

set_option maxHeartbeats 4000000 in
theorem qList_S {w : World} {p : Option Addr} {bs : List Nat} {cap : Nat} {xs : List (List Value)} (HQ : QP w 9 1 87 p bs cap xs) (h1 : ∀ u ∈ xs.flatten, Value.oneCell' u = true) : Calls Try.prog 55 #[.pointer p] w fun e w' => ∃ v, e = .returned v ∧ w'.ownsRow w.heap.size 9 1 v xs.length xs.flatten ∧ Below w.heap.size w w' := by
  have HQ' : Hid (QP w 9 1 87 p bs cap xs) := HQ
  by_cases hx : xs = []
  · subst hx
    clear HQ
    go_enter Try.func55, Try.ntmps55
    go_wp2_with fail
    refine (qLen_S HQ'.out).mono ?_
    rintro e w1 ⟨rfl, hb⟩
    have HB : Hid (Below w.heap.size w w1) := hb
    clear hb
    go_wp2
    go_ret
    exact ⟨_, rfl, World.ownsRow_nil _ _ _ _, HB.out⟩
  have H1 : Hid (∀ u ∈ xs.flatten, Value.oneCell' u = true) := h1
  clear h1
  rcases HQ with ⟨_, _, _, e⟩ | ⟨qp, sv, head, n, cs, rfl, hbs, H, hxs⟩
  · exact absurd e hx
  clear hbs
  have hk : 1 ≤ xs.length := by
    cases xs with
    | nil => exact absurd rfl hx
    | cons a b => simp
  clear hx
  have hle := H.hc
  obtain ⟨g, c, rfl⟩ : ∃ g c, sv = .slice (some ⟨g, 0, none⟩) n c := by
    rcases H.own.2 with ⟨_, e⟩ | ⟨g, c, _, e, _⟩
    · omega
    · exact ⟨g, c, e⟩
  have hmn : n ≤ c := by
    rcases H.own.2 with ⟨e, _⟩ | ⟨g', c', _, e, _, _, h, _⟩
    · cases e
    · injection e with _ _ e3
      omega
  have hcl : cs.length = n := by have := H.own.1; omega
  have HF : Hid (xs.flatten = _) := (congrArg List.flatten hxs).trans (wait_flat H.hh H.hn H.hc H.grow hcl)
  have hhn : head < n := by
    have h1 := H.hh
    have h2 := H.hn
    by_cases c : n < cap
    · have := H.grow c
      omega
    · omega
  have hn6 : n ≤ 65536 := Nat.le_trans H.hn H.cap2
  have HH : Hid (IsQ w 9 1 87 qp (.slice (some ⟨g, 0, none⟩) n c) cap head xs.length n cs) := H
  clear H hxs
  obtain ⟨K, hK⟩ : ∃ K, K = xs.length := ⟨_, rfl⟩
  obtain ⟨k1, hk1⟩ : ∃ k1, k1 = min (n - head) K := ⟨_, rfl⟩
  rw [← hK] at HF hk hle HH
  rw [← hk1] at HF
  have HK : Hid (K = xs.length) := hK
  have hk1a : k1 ≤ K := by omega
  have hk1b : k1 ≤ n - head := by omega
  have HK1 : Hid (k1 = min (n - head) K) := hk1
  obtain ⟨X1, hX1⟩ : ∃ X1, X1 = (cs.drop head).take k1 := ⟨_, rfl⟩
  obtain ⟨X2, hX2⟩ : ∃ X2, X2 = cs.take (K - k1) := ⟨_, rfl⟩
  have l1 : X1.length = k1 := by rw [hX1, List.length_take, List.length_drop]; omega
  have l2 : X2.length = K - k1 := by rw [hX2, List.length_take]; omega
  rw [← hX1, ← hX2] at HF
  have HC1 : Hid (∀ j v, X1[j]? = some v → w.cell? ⟨g, head + j, none⟩ = some v) := (fun j v hj => by
    have hj1 := (List.getElem?_eq_some_iff.1 hj).1
    rw [HH.out.own.cellAt _ (by omega)]
    rw [hX1, List.getElem?_take_of_lt (by omega), List.getElem?_drop] at hj
    exact hj)
  have HC2 : Hid (∀ j v, X2[j]? = some v → w.cell? ⟨g, j, none⟩ = some v) := (fun j v hj => by
    have hj1 := (List.getElem?_eq_some_iff.1 hj).1
    rw [HH.out.own.cellAt _ (by omega)]
    rw [hX2, List.getElem?_take_of_lt (by omega)] at hj
    exact hj)
  have O1 : Hid (∀ v ∈ X1, Value.oneCell' v = true) := (fun v hv => H1.out v (by rw [HF.out]; exact List.mem_append_left _ hv))
  have O2 : Hid (∀ v ∈ X2, Value.oneCell' v = true) := (fun v hv => H1.out v (by rw [HF.out]; exact List.mem_append_right _ hv))
  have hgw : g < w.heap.size := (HH.out.own.lt g rfl).2
  have hqw : qp < w.heap.size := (Array.getElem?_eq_some_iff.1 HH.out.str).1
  clear hX1 hX2 hk1 hK
  go_enter Try.func55, Try.ntmps55
  go_wp2_with fail
  refine (qLen_S HQ'.out).mono ?_
  rintro e w1 ⟨rfl, hb⟩
  rw [← HK.out]
  have HB1 : Hid (Below w.heap.size w w1) := hb
  clear hb HQ'
  obtain ⟨c0, c1, c2, c3, cf⟩ := row4q (HH.out.below HB1.out).str
  have hne : ((K : Int) == 0) = false := by simp; omega
  have hmk := run_mkL_S w1 K (by omega)
  obtain ⟨w2, hw2⟩ : ∃ w2, w2 = w1.alloc (.cells (List.replicate K (.string ⟨#[]⟩ : Value)).toArray 9 (0, 0)) := ⟨_, rfl⟩
  rw [← hw2] at hmk
  have HG2 : Hid (w2.heap[w1.heap.size]? = some (.cells (List.replicate K (.string ⟨#[]⟩ : Value)).toArray 9 (0, 0))) := (by rw [hw2]; exact heap_alloc_new _ _ : w2.heap[w1.heap.size]? = _)
  have HB2 : Hid (Below w.heap.size w w2) := (by rw [hw2]; exact HB1.out.alloc HB1.out.size _ : Below w.heap.size w w2)
  have hg1 : w.heap.size ≤ w1.heap.size := HB1.out.size
  clear hw2
  generalize w1.heap.size = vb at *
  have e1 : ∀ W : World, (Instr.slice 50 (.slice (some ⟨g, 0, none⟩) n c) (some (.int .i64 (head : Int))) none none).run Try.prog W = .ok (.slice (some ⟨g, head, none⟩) (n - head) (c - head)) W := fun W => by
    rw [cutL_S W _ _ _ _ (by omega) hmn, if_neg (by omega)]
    simp [Addr.add]
    try omega
  obtain ⟨a3, ha3, e2⟩ : ∃ a3, (0 < K - k1 → a3 = some ⟨vb, k1, none⟩) ∧ ∀ W : World, (Instr.slice 50 (.slice (some ⟨vb, 0, none⟩) K K) (some (.int .i64 (k1 : Int))) none none).run Try.prog W = .ok (.slice a3 (K - k1) (K - k1)) W := by
    refine ⟨_, ?_, fun W => cutL_S W _ _ _ _ hk1a (Nat.le_refl _)⟩
    intro h
    rw [if_neg (by omega)]
    simp [Addr.add]
    try omega
  have HA3 : Hid (0 < K - k1 → a3 = some ⟨vb, k1, none⟩) := ha3
  clear ha3
  go_wp2_with fail
  have HD2 : Hid (Below w.heap.size w w2.drew) := HB2.out.drew
  have d0 : w2.drew.cell? ⟨qp, 0, none⟩ = some (.slice (some ⟨g, 0, none⟩) n c) := (But.of_below HD2.out).cell (row4q HH.out.str).1 (fun e => by cases e)
  have d2 : w2.drew.cell? ⟨qp, 2, none⟩ = some (.int .i64 (head : Int)) := (But.of_below HD2.out).cell (row4q HH.out.str).2.2.1 (fun e => by cases e)
  clear c0 c1 c2 c3 cf hmk
  go_region_law (refine step_copy_splice rfl (.tmp 13) (.tmp 22) 50 50 rfl 9 Try.underlying50 sizeL_S (some ⟨vb, 0, none⟩) (some ⟨g, head, none⟩) K K (n - head) (c - head) (by simp [Act.eval, Act.put]) (by simp [Act.eval, Act.put]) vb 0 (List.replicate K (.string ⟨#[]⟩ : Value)) 9 HG2.out X1 (by rw [l1]; exact HK1.out) (fun _ => ⟨rfl, _, rfl, fun j v hj => (But.of_below HD2.out).cell (by rw [Addr.add_lit]; exact HC1.out j v hj) (fun e => by cases e)⟩) (by simp [l1]; omega) O1.out w.heap.size w HD2.out hg1 ?_; intro w4 HG4 HB4)
  all_goals
    have HB4' : Hid (Below w.heap.size w w4) := HB4
    have HD4 : Hid (Below w.heap.size w w4.drew) := HB4.drew
    have m0 : w4.drew.cell? ⟨qp, 0, none⟩ = some (.slice (some ⟨g, 0, none⟩) n c) := (But.of_below HD4.out).cell (row4q HH.out.str).1 (fun e => by cases e)
    have l3 : (splice (List.replicate K (.string ⟨#[]⟩ : Value)) 0 X1).length = K := by rw [length_splice _ _ _ (by simp [l1]; omega)]; simp
    clear d0 d2 HB4
    go_simp
    go_wp2_with fail
    go_region_law (refine step_copy_splice rfl (.tmp 26) (.tmp 30) 50 50 rfl 9 Try.underlying50 sizeL_S a3 (some ⟨g, 0, none⟩) (K - k1) (K - k1) n c (by simp [Act.eval, Act.put]) (by simp [Act.eval, Act.put]) vb k1 (splice (List.replicate K (.string ⟨#[]⟩ : Value)) 0 X1) 9 HG4.out X2 (by rw [l2]; exact (Nat.min_eq_right (by omega)).symm) (fun h => ⟨HA3.out (by omega), _, rfl, fun j v hj => (But.of_below HD4.out).cell (by rw [Addr.add_lit, Nat.zero_add]; exact HC2.out j v hj) (fun e => by cases e)⟩) (by rw [l3, l2]; omega) O2.out w.heap.size w HD4.out hg1 ?_; intro w6 HG6 HB6)
    all_goals
      have HB6' : Hid (Below w.heap.size w w6) := HB6
      clear HB6 m0
      go_simp
      go_wp2
      go_ret
      have hfin := HG6.out
      rw [fill_two_v _ K k1 X1 X2 l1 (by omega), ← HF.out] at hfin
      have hfl : xs.flatten.length = K := by rw [HF.out, List.length_append]; omega
      refine ⟨.slice (some ⟨vb, 0, none⟩) K K, rfl, ⟨by rw [hfl, ← HK.out, Nat.mul_one], .inr ⟨vb, K, _, by rw [← HK.out], hg1, hfin, by rw [← HK.out]; exact Nat.le_refl _, by unfold maxLen; omega, by simp [hfl], by rw [← HK.out, Nat.mul_one]; exact List.take_of_length_le (by simp [hfl])⟩⟩, HB6'.out⟩

end Rg
end Go.Proofs.Ytjhlflochheolaa
