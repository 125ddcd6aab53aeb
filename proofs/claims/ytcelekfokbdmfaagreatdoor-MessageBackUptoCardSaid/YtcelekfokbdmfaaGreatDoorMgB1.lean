import Derived.Test.YtcelekfokbdmfaaGreatDoorMgZ
import Derived.Test.YtcelekfokbdmfaaGreatDoorMgA1
import Derived.Test.YtcelekfokbdmfaaGreatDoorMgN
import Derived.Test.YtcelekfokbdmfaaGreatDoorMgV
import Derived.Test.YtcelekfokbdmfaaGreatDoorMgT
set_option linter.unusedVariables false
set_option linter.unusedSimpArgs false
set_option maxRecDepth 100000
namespace Go.Proofs.YtcelekfokbdmfaaGreatDoor
open Go.RowKit Go.Shelf
namespace Ck
open Oc Tg _root_.Go.Proofs.YtcelekfokbdmfaaGreatDoor.Fd
def Deb (w : World) : Prop := w.cell? ⟨3, 15, none⟩ = some (.int .u8 4)
theorem Deb.below {w w' : World} (h : Deb w) (b : Below w.heap.size w w') : Deb w' := (b.cell (World.block_lt_of_cell? w _ h)).trans h
theorem prtsLen : ∀ {t : List Prm} {x : List UInt8}, prts t = some x → x.length ≤ 2 * sumP t
  | [], x, h => by cases h; exact Nat.zero_le _
  | p :: r, x, h => by
    unfold prts at h
    cases hp : prt1 p with
    | none => rw [hp] at h; cases h
    | some a =>
      rw [hp] at h
      obtain ⟨b, hb, rfl⟩ := Option.map_eq_some_iff.1 h
      have h1 := prt1_len hp
      have h2 := prtsLen hb
      show (a ++ b).length ≤ 2 * (szP p + sumP r)
      rw [List.length_append]
      omega
def sizeP (n : Int) (t : List Prm) : List UInt8 × Int :=
  if n < 0 ∨ 1099511627776 < n then ([], 1) else match prts t with
    | none => ([], 15)
    | some x => if 254 < (hexd n.toNat ++ x).length then ([], 100) else (hexd n.toNat ++ x, 0)
theorem sizeP_nil (n : Nat) (h : n ≤ 1099511627776) : sizeP (n : Int) [] = (hexd n, 0) := by
  have hl := hexd_len 10 n (Nat.lt_of_le_of_lt h (by decide))
  unfold sizeP
  rw [if_neg (by omega)]
  simp only [prts, List.append_nil, Int.toNat_natCast]
  rw [if_neg (by omega)]
set_option maxHeartbeats 2000000 in
theorem PrintSize_any (n : Int) (v : Value) (t : List Prm) (w : World) (h : RdP v t w) (hl : t.length ≤ 16777216) (hS : sumP t ≤ 8388608) (tb : Tab w) (td : Deb w) :
    Calls Tryz.prog 105 #[.int .i64 n, v] w fun e w' => e = .returned (.tuple #[.string (str (sizeP n t).1), .int .i64 (sizeP n t).2]) ∧ Below w.heap.size w w' := by
  have HP : Hid (Calls Tryz.prog 133 #[v] w fun e w' => e = .returned (.tuple #[.string (str (printR t).1), .int .i64 (printR t).2]) ∧ Below w.heap.size w w') := Print_any v t w h hl hS tb
  have HD : Hid (Deb w) := td
  clear h tb td
  by_cases h0 : n < 0
  · have HE : Hid (sizeP n t = ([], 1)) := (by unfold sizeP; rw [if_pos (.inl h0)] : sizeP n t = _)
    go_enter Tryz.func105, Tryz.ntmps105
    go_wp2
    go_ret2
    rw [HE.out]
    exact ⟨rfl, Below.refl _ _⟩
  by_cases h1 : 1099511627776 < n
  · have HE : Hid (sizeP n t = ([], 1)) := (by unfold sizeP; rw [if_pos (.inr h1)] : sizeP n t = _)
    go_enter Tryz.func105, Tryz.ntmps105
    go_wp2
    go_ret2
    rw [HE.out]
    exact ⟨rfl, Below.refl _ _⟩
  obtain ⟨k, rfl⟩ : ∃ k : Nat, n = (k : Int) := ⟨n.toNat, by omega⟩
  have hk : k ≤ 1099511627776 := by omega
  have HF : Hid (∀ w, Deb w → Calls Tryz.prog 134 #[.int .i64 (k : Int), .int .i64 16] w fun e w' => e = .returned (.string (str (hexd k))) ∧ Below w.heap.size w w') := fun w h => FormatInt_any k hk w h
  have hlen := hexd_len 10 k (Nat.lt_of_le_of_lt hk (by decide))
  cases hp : prts t with
  | none =>
    have HE : Hid (sizeP k t = ([], 15)) := (by unfold sizeP; rw [if_neg (by omega), hp] : sizeP k t = _)
    have HR : Hid (printR t = ([], 15)) := (by unfold printR; rw [hp] : printR t = _)
    clear hp
    go_enter Tryz.func105, Tryz.ntmps105
    go_wp2_with fail
    refine HP.out.mono ?_
    rintro e w1 ⟨rfl, hb1⟩
    have HB1 : Hid (Below w.heap.size w w1) := hb1
    clear hb1
    rw [HR.out]
    go_wp2
    go_ret2
    rw [HE.out]
    exact ⟨rfl, HB1.out⟩
  | some x =>
    have HR : Hid (printR t = (x, 0)) := (by unfold printR; rw [hp] : printR t = _)
    have hxl : x.length ≤ 16777216 := by
      have := prtsLen hp
      omega
    have HE : Hid (sizeP k t = if 254 < (hexd k ++ x).length then ([], 100) else (hexd k ++ x, 0)) := (by unfold sizeP; rw [if_neg (by omega), hp]; rfl : sizeP k t = _)
    clear hp
    have hs1 := str_size (hexd k)
    have hs2 := str_size x
    have HA : Hid (str (hexd k) ++ str x = str (hexd k ++ x)) := str_app _ _
    have hz : (str (hexd k)).size + (str x).size ≤ 9223372036854775807 := by omega
    have hsz : (str (hexd k) ++ str x).size = (hexd k ++ x).length := by rw [HA.out, str_size]
    have hz2 : ¬ 9223372036854775807 < (str (hexd k)).size + (str x).size := by omega
    generalize hexd k ++ x = L at *
    generalize str (hexd k) = X at *
    go_enter Tryz.func105, Tryz.ntmps105
    go_wp2_with fail
    refine HP.out.mono ?_
    rintro e w1 ⟨rfl, hb1⟩
    have HB1 : Hid (Below w.heap.size w w1) := hb1
    have HD1 : Hid (Deb w1) := HD.out.below hb1
    clear hb1
    rw [HR.out]
    dsimp only
    generalize str x = Y at *
    go_wp2_with fail
    refine (HF.out _ HD1.out).mono ?_
    rintro e w2 ⟨rfl, hb2⟩
    have HB2 : Hid (Below w.heap.size w w2) := bel_trans HB1.out hb2
    clear hb2
    by_cases hbig : 254 < L.length
    · rw [if_pos hbig] at HE
      have hb' : ((254 : Int) < ((X ++ Y).size : Int)) := by rw [hsz]; omega
      go_wp2
      go_ret2
      rw [HE.out]
      exact ⟨rfl, HB2.out⟩
    · rw [if_neg hbig] at HE
      have hb' : ¬ ((254 : Int) < ((X ++ Y).size : Int)) := by rw [hsz]; omega
      go_wp2
      go_ret2
      rw [HE.out]
      exact ⟨by rw [← HA.out]; rfl, HB2.out⟩
def lineC (n : Nat) : List UInt8 := hexd n ++ [13, 10]
def chunkC (t : List UInt8) : List UInt8 := if t = [] then [] else lineC t.length ++ t ++ [13, 10]
set_option maxHeartbeats 2000000 in
theorem writeSize_bd (B b : Nat) (l : List UInt8) (n : Nat) (hn : n ≤ 1099511627776) (w : World) (h : Bd B b (Lib.byteCells l) w) (hl : l.length ≤ 100000000000) (hB : B ≤ w.heap.size) (tb : Tab w) (td : Deb w) :
    Calls Tryz.prog 75 #[.pointer (some ⟨b, 0, none⟩), .int .i64 (n : Int)] w fun e w' => e = .returned (.tuple #[]) ∧ Bd B b (Lib.byteCells (l ++ lineC n)) w' ∧ Fr B b w w' := by
  have hlen := hexd_len 10 n (Nat.lt_of_le_of_lt hn (by decide))
  have HP : Hid (Calls Tryz.prog 105 #[.int .i64 (n : Int), .slice none 0 0] w fun e w' => e = .returned (.tuple #[.string (str (hexd n)), .int .i64 0]) ∧ Below w.heap.size w w') := by
    have := PrintSize_any (n : Int) (.slice none 0 0) [] w ⟨none, 0, rfl, .inl rfl⟩ (by simp) (by simp [sumP]) tb td
    rw [sizeP_nil n hn] at this
    exact this
  have HH : Hid (Bd B b (Lib.byteCells l) w) := h
  clear h tb td
  have h1 : (Lib.byteCells l).length + (str (hexd n)).size ≤ 140737488355328 := by rw [Fd.cells_len, str_size]; omega
  have h2 : (Lib.byteCells l ++ Lib.strCells (str (hexd n))).length + (⟨#[13, 10]⟩ : ByteArray).size ≤ 140737488355328 := by rw [cells_str, ← cells_app, Fd.cells_len, List.length_append]; show _ + 2 ≤ _; omega
  have HE : Hid (Lib.byteCells (l ++ lineC n) = Lib.byteCells l ++ Lib.strCells (str (hexd n)) ++ Lib.strCells ⟨#[13, 10]⟩) := (by
    show _ = _ ++ Lib.strCells (str [13, 10])
    rw [cells_str, cells_str, ← cells_app, ← cells_app]
    unfold lineC
    rw [List.append_assoc] : _ = _)
  have H1 : Hid ((Lib.byteCells l).length + (str (hexd n)).size ≤ 140737488355328) := h1
  have H2 : Hid ((Lib.byteCells l ++ Lib.strCells (str (hexd n))).length + (⟨#[13, 10]⟩ : ByteArray).size ≤ 140737488355328) := h2
  clear h1 h2
  generalize str (hexd n) = X at *
  go_enter Tryz.func75, Tryz.ntmps75
  go_wp2_with fail
  refine HP.out.mono ?_
  rintro e w1 ⟨rfl, hb1⟩
  have HB1 : Hid (Bd B b (Lib.byteCells l) w1) := HH.out.below hb1
  have HF1 : Hid (Fr B b w w1) := Fr.of_below hb1 hB
  have hs1 := hb1.size
  clear hb1
  go_wp2_with fail
  refine (WriteString_bd B b _ X w1 HB1.out H1.out (by omega)).mono ?_
  rintro e w2 ⟨rfl, hb2, hf2⟩
  have HB2 : Hid (Bd B b (Lib.byteCells l ++ Lib.strCells X) w2) := hb2
  have HF2 : Hid (Fr B b w w2) := HF1.out.trans hf2
  have hs2 := hf2.size
  clear hb2 hf2
  go_wp2_with fail
  refine (WriteString_bd B b _ _ w2 HB2.out H2.out (by omega)).mono ?_
  rintro e w3 ⟨rfl, hb3, hf3⟩
  have HB3 : Hid (Bd B b (Lib.byteCells (l ++ lineC n)) w3) := (by rw [HE.out]; exact hb3 : Bd _ _ _ _)
  have HF3 : Hid (Fr B b w w3) := HF2.out.trans hf3
  clear hb3 hf3
  go_wp2
  go_end0
  exact ⟨rfl, HB3.out, HF3.out⟩
end Ck
end Go.Proofs.YtcelekfokbdmfaaGreatDoor
set_option linter.unusedVariables false
set_option linter.unusedSimpArgs false
set_option maxRecDepth 100000
namespace Go.Proofs.YtcelekfokbdmfaaGreatDoor
open Go.RowKit Go.Shelf
namespace Ck
open Oc Tg _root_.Go.Proofs.YtcelekfokbdmfaaGreatDoor.Fd
set_option maxHeartbeats 2000000 in
theorem writeChunk_bd (B b : Nat) (l : List UInt8) (s : ByteArray) (hn : s.size ≤ 1099511627776) (w : World) (h : Bd B b (Lib.byteCells l) w) (hl : l.length ≤ 100000000000) (hB : B ≤ w.heap.size) (tb : Tab w) (td : Deb w) :
    Calls Tryz.prog 74 #[.pointer (some ⟨b, 0, none⟩), .string s] w fun e w' => e = .returned (.tuple #[]) ∧ Bd B b (Lib.byteCells (l ++ chunkC s.data.toList)) w' ∧ Fr B b w w' := by
  by_cases h0 : s.size = 0
  · have he : s.toList.isEmpty = true := empty_of h0
    have hl0 : s.data.toList = [] := List.length_eq_zero_iff.1 (by rw [size_list]; exact h0)
    have HE : Hid (l ++ chunkC s.data.toList = l) := (by unfold chunkC; rw [if_pos hl0, List.append_nil] : _ = _)
    have HH : Hid (Bd B b (Lib.byteCells l) w) := h
    clear h tb td hl0
    go_enter Tryz.func74, Tryz.ntmps74
    go_wp2
    refine bodyPost_ret (results_none rfl _ _ _) rfl ?_
    rw [HE.out]
    exact ⟨rfl, HH.out, Fr.refl _ _ _⟩
  have hne : s.toList.isEmpty = false := by
    cases hb : s.toList.isEmpty with
    | false => rfl
    | true =>
      rw [List.isEmpty_iff, ByteArray.toList_eq] at hb
      exact absurd (by rw [← size_list, hb]; rfl) h0
  have hll : s.data.toList.length = s.size := size_list s
  have hl0 : s.data.toList ≠ [] := fun e => h0 (by rw [← hll, e]; rfl)
  have hlen := hexd_len 10 s.size (Nat.lt_of_le_of_lt hn (by decide))
  have HS : Hid (Calls Tryz.prog 75 #[.pointer (some ⟨b, 0, none⟩), .int .i64 (s.size : Int)] w fun e w' => e = .returned (.tuple #[]) ∧ Bd B b (Lib.byteCells (l ++ lineC s.size)) w' ∧ Fr B b w w') := writeSize_bd B b l s.size hn w h hl hB tb td
  clear h tb td
  have hcl : (lineC s.size).length ≤ 13 := by unfold lineC; rw [List.length_append]; simp; omega
  have H1 : Hid ((Lib.byteCells (l ++ lineC s.size)).length + s.size ≤ 140737488355328) := (by rw [Fd.cells_len, List.length_append]; omega : _ ≤ _)
  have H2 : Hid ((Lib.byteCells (l ++ lineC s.size) ++ Lib.strCells s).length + (⟨#[13, 10]⟩ : ByteArray).size ≤ 140737488355328) := (by rw [List.length_append, Fd.cells_len, List.length_append, Lib.strCells_length]; show _ + 2 ≤ _; omega : _ ≤ _)
  have HE : Hid (Lib.byteCells (l ++ chunkC s.data.toList) = Lib.byteCells (l ++ lineC s.size) ++ Lib.strCells s ++ Lib.strCells ⟨#[13, 10]⟩) := (by
    show _ = _ ++ Lib.strCells (str [13, 10])
    have hs : Lib.strCells s = Lib.byteCells s.data.toList := by rw [← cells_str, str_self]
    rw [hs, cells_str, ← cells_app, ← cells_app]
    unfold chunkC
    rw [if_neg hl0, hll]
    simp only [List.append_assoc] : _ = _)
  clear hcl hl0 hll hlen
  go_enter Tryz.func74, Tryz.ntmps74
  go_wp2_with fail
  refine HS.out.mono ?_
  rintro e w1 ⟨rfl, hb1, hf1⟩
  have HB1 : Hid (Bd B b (Lib.byteCells (l ++ lineC s.size)) w1) := hb1
  have HF1 : Hid (Fr B b w w1) := hf1
  have hs1 := hf1.size
  clear hb1 hf1
  go_wp2_with fail
  refine (WriteString_bd B b _ s w1 HB1.out H1.out (by omega)).mono ?_
  rintro e w2 ⟨rfl, hb2, hf2⟩
  have HB2 : Hid (Bd B b (Lib.byteCells (l ++ lineC s.size) ++ Lib.strCells s) w2) := hb2
  have HF2 : Hid (Fr B b w w2) := HF1.out.trans hf2
  have hs2 := hf2.size
  clear hb2 hf2
  go_wp2_with fail
  refine (WriteString_bd B b _ _ w2 HB2.out H2.out (by omega)).mono ?_
  rintro e w3 ⟨rfl, hb3, hf3⟩
  have HB3 : Hid (Bd B b (Lib.byteCells (l ++ chunkC s.data.toList)) w3) := (by rw [HE.out]; exact hb3 : Bd _ _ _ _)
  have HF3 : Hid (Fr B b w w3) := HF2.out.trans hf3
  clear hb3 hf3
  go_wp2
  go_end0
  exact ⟨rfl, HB3.out, HF3.out⟩
def okT (p : Fl) : Bool := isName p.1 && isValue p.2 && trails p.1
def trailG (t : List Fl) : List UInt8 := t.flatMap fun p => lineP p ++ [13, 10]
def trailP (t : List Fl) : List UInt8 × Int := if t.all okT then (trailG t ++ [13, 10], 0) else ([], 101)
theorem okT_chk {p : Fl} : okT p = (decide (chkZ p = 0) && trails p.1) := by
  unfold okT
  rcases chk_cases p with ⟨h, h1, h2⟩ | ⟨h, h1, h2⟩ | ⟨h, h1⟩
  · rw [h, h1, h2]; rfl
  · rw [h, h1, h2]; rfl
  · rw [h, h1]; simp
theorem trailG_snoc (t : List Fl) (k : Nat) (h : k < t.length) : trailG (t.take (k + 1)) = trailG (t.take k) ++ lineP (Fd.nth t k) ++ [13, 10] := by
  have : t.take (k + 1) = t.take k ++ [Fd.nth t k] := by
    rw [List.take_add_one]
    congr 1
    rw [List.getElem?_eq_getElem h]
    unfold Fd.nth
    rw [List.getD_eq_getElem?_getD, List.getElem?_eq_getElem h]
    rfl
  rw [this]
  unfold trailG
  rw [List.flatMap_append]
  simp
theorem szSum : ∀ (t : List Fl) (k : Nat), k < t.length → szF (Fd.nth t k) ≤ sumF t
  | [], k, h => by simp at h
  | p :: t, 0, _ => by
    show szF p ≤ sumF (p :: t)
    simp [sumF]
  | p :: t, k + 1, h => by
    have := szSum t k (by simpa using h)
    show szF (Fd.nth t k) ≤ sumF (p :: t)
    simp only [sumF, List.map_cons, List.sum_cons] at this ⊢
    omega
theorem all_of (t : List Fl) (h : ∀ j, j < t.length → okT (Fd.nth t j) = true) : t.all okT = true := by
  rw [List.all_eq_true]
  intro p hp
  obtain ⟨j, hj, rfl⟩ := List.mem_iff_getElem.1 hp
  have := h j hj
  unfold Fd.nth at this
  rw [List.getD_eq_getElem?_getD, List.getElem?_eq_getElem hj] at this
  exact this
theorem not_all (t : List Fl) (j : Nat) (hj : j < t.length) (h : okT (Fd.nth t j) = false) : t.all okT = false := by
  rw [List.all_eq_false]
  refine ⟨t[j], List.getElem_mem hj, ?_⟩
  unfold Fd.nth at h
  rw [List.getD_eq_getElem?_getD, List.getElem?_eq_getElem hj] at h
  simpa using h
set_option maxHeartbeats 4000000 in
theorem printTrailers_any (v : Value) (t : List Fl) (hs : sumF t ≤ 1048576) (w : World) (hr : RdF v t w) (tab : Tab w) :
    Calls Tryz.prog 73 #[v] w fun e w' => e = .returned (.tuple #[.string (str (trailP t).1), .int .i64 (trailP t).2]) ∧ Below w.heap.size w w' := by
  have hlen := len_sumF t
  have HR : Hid (RdF v t w) := hr
  have HT : Hid (Tab w) := tab
  obtain ⟨a, c, rfl, _⟩ := hr
  clear tab
  have HBD : Hid (Bd (w.heap.size + 1) w.heap.size (Lib.byteCells (trailG (t.take 0))) (w.alloc (.cells #[.pointer none, .slice none 0 0] 103))) := Bd.new w (w.heap.size + 1)
  go_enter Tryz.func73, Tryz.ntmps73
  go_wp2
  go_loopw [11] (fun i wr => ∃ (k : Nat), k ≤ t.length ∧ i = .int .i64 k ∧ Hid (∀ j, j < k → okT (Fd.nth t j) = true) ∧ Hid ((trailG (t.take k)).length ≤ k * 1048600) ∧ Hid (Bd (w.heap.size + 1) w.heap.size (Lib.byteCells (trailG (t.take k))) wr) ∧ Hid (Below w.heap.size w wr) ∧ Hid (w.heap.size + 1 ≤ wr.heap.size)) (fun i _ => t.length - (intOf i).toNat)
  case atStart => exact ⟨0, Nat.zero_le _, rfl, (fun j hj => by omega : ∀ j, j < 0 → _), (by simp [trailG] : _ ≤ _), HBD, (Below.refl _ w).alloc (Nat.le_refl _) _, (by simp : _ ≤ _)⟩
  case round =>
    obtain ⟨k, hk, rfl, hok, hal, hB, hW, hS⟩ := hrel
    by_cases hlt : k < t.length
    · obtain ⟨a', c', e', hcs⟩ := HR.out.below hW.out
      injection e' with e1 _ e2
      subst e1 e2
      rcases hcs with h | ⟨g, o, rfl, hlc, hcell⟩
      · rw [h] at hlt; simp at hlt
      obtain ⟨p0, p1⟩ := hcell k hlt
      have hz := szSum t k hlt
      have hll := lineP_len (Fd.nth t k)
      have HSn : Hid (trailG (t.take (k + 1)) = trailG (t.take k) ++ lineP (Fd.nth t k) ++ [13, 10]) := trailG_snoc t k hlt
      have NX : okT (Fd.nth t k) = true → Hid (∀ j, j < k + 1 → okT (Fd.nth t j) = true) := fun h j hj => by
        by_cases hjk : j = k
        · subst hjk; exact h
        · exact hok.out j (by omega)
      have BD : okT (Fd.nth t k) = false → Hid (trailP t = ([], 101)) := fun h => (by unfold trailP; rw [not_all t k hlt h]; rfl : trailP t = _)
      have hp1 : (Fd.nth t k).1.length ≤ 1048576 := by unfold szF at hz; omega
      have hp2 : (Fd.nth t k).2.length ≤ 1048576 := by unfold szF at hz; omega
      have HPL : Hid (∀ w, Tab w → Calls Tryz.prog 60 #[.agg #[.string (str (Fd.nth t k).1), .string (str (Fd.nth t k).2)]] w fun e w' => e = .returned (.tuple #[.string (str (printL (Fd.nth t k)).1), .int .i64 (printL (Fd.nth t k)).2]) ∧ Below w.heap.size w w') := fun w tb => PrintLine_any (Fd.nth t k) (by omega) (by omega) w tb
      have HMT : Hid (∀ w, Tab w → Calls Tryz.prog 104 #[.string (str (Fd.nth t k).1)] w fun e w' => e = .returned (.bool (trails (Fd.nth t k).1)) ∧ Below w.heap.size w w') := fun w tb => MayTrail_any _ (by unfold maxLen; omega) w tb
      clear hcell
      have hok2 : okT (Fd.nth t k) = (decide (chkZ (Fd.nth t k) = 0) && trails (Fd.nth t k).1) := okT_chk
      generalize okT (Fd.nth t k) = ok at *
      generalize Fd.nth t k = p at *
      have hx : (lineP p).length ≤ 1048576 := by omega
      have hxs : (str (lineP p)).size ≤ 1048576 := by rw [str_size]; exact hx
      generalize trails p.1 = tr at *
      generalize str p.1 = N at *
      generalize str p.2 = V at *
      have hb1 : Below wr.heap.size wr (wr.alloc (.cells #[.string N, .string V] 63)) := (Below.refl _ wr).alloc (Nat.le_refl _) _
      have HBW : Hid (Below w.heap.size w (wr.alloc (.cells #[.string N, .string V] 63))) := bel_trans hW.out hb1
      have HB1 : Hid (Bd (w.heap.size + 1) w.heap.size (Lib.byteCells (trailG (t.take k))) (wr.alloc (.cells #[.string N, .string V] 63))) := hB.out.below hb1
      have HS1 : Hid (w.heap.size + 1 ≤ (wr.alloc (.cells #[.string N, .string V] 63)).heap.size) := Nat.le_trans hS.out hb1.size
      have hC0 : (wr.alloc (.cells #[.string N, .string V] 63)).cell? ⟨wr.heap.size, 0, none⟩ = some (.string N) := by simp
      have hlw : wr.heap.size < (wr.alloc (.cells #[.string N, .string V] 63)).heap.size := by simp
      have HC0 : Hid ((wr.alloc (.cells #[.string N, .string V] 63)).cell? ⟨wr.heap.size, 0, none⟩ = some (.string N)) := hC0
      clear hb1 hz hll hp1 hp2 hC0 hlw
      by_cases hz0 : chkZ p = 0
      · rw [show printL p = (lineP p, 0) by unfold printL; rw [if_pos hz0]] at HPL
        dsimp only at HPL
        rw [hz0, show decide ((0 : Int) = 0) = true from rfl, Bool.true_and] at hok2
        clear hz0
        subst hok2
        generalize hLP : lineP p = LP at *
        clear hLP
        go_wp2_with fail
        refine (HPL.out _ (HT.out.below HBW.out (Nat.le_refl _))).mono ?_
        rintro e w2 ⟨rfl, hb2⟩
        have HB2 : Hid (Bd (w.heap.size + 1) w.heap.size (Lib.byteCells (trailG (t.take k))) w2) := HB1.out.below hb2
        have HW2 : Hid (Below w.heap.size w w2) := bel_trans HBW.out hb2
        have HS2 : Hid (w.heap.size + 1 ≤ w2.heap.size) := Nat.le_trans HS1.out hb2.size
        have hC2 : w2.cell? ⟨wr.heap.size, 0, none⟩ = some (.string N) := (hb2.cell (World.block_lt_of_cell? _ _ HC0.out)).trans HC0.out
        have HTw : Hid (Tab w2) := HT.out.below HW2.out (Nat.le_refl _)
        clear hb2 HC0 HB1 HBW HS1
        cases ok with
        | false =>
          have bd := BD rfl
          clear NX BD
          go_wp2_with fail
          refine (HMT.out _ HTw.out).mono ?_
          rintro e w3 ⟨rfl, hb3⟩
          have HW3 : Hid (Below w.heap.size w w3) := bel_trans HW2.out hb3
          clear hb3
          go_wp2
          go_ret2
          exact ⟨by rw [bd.out]; rfl, HW3.out⟩
        | true =>
          have nx := NX rfl
          clear NX BD
          go_wp2_with fail
          refine (HMT.out _ HTw.out).mono ?_
          rintro e w3 ⟨rfl, hb3⟩
          have HB3 : Hid (Bd (w.heap.size + 1) w.heap.size (Lib.byteCells (trailG (t.take k))) w3) := HB2.out.below hb3
          have HW3 : Hid (Below w.heap.size w w3) := bel_trans HW2.out hb3
          have HS3 : Hid (w.heap.size + 1 ≤ w3.heap.size) := Nat.le_trans HS2.out hb3.size
          clear hb3 hC2
          go_wp2_with fail
          refine (WriteString_bd _ _ _ _ _ HB3.out (by rw [Fd.cells_len]; have := hal.out; omega) HS3.out).mono ?_
          rintro e w4 ⟨rfl, hB4, hF4⟩
          have HB4 : Hid (Bd (w.heap.size + 1) w.heap.size (Lib.byteCells (trailG (t.take k) ++ LP)) w4) := by
            show Bd _ _ _ _
            rw [cells_app, ← cells_str LP]
            exact hB4
          have HF4 : Hid (Fr (w.heap.size + 1) w.heap.size w3 w4) := hF4
          have HS4 : Hid (w.heap.size + 1 ≤ w4.heap.size) := Nat.le_trans HS3.out hF4.size
          clear hB4 hF4
          go_wp2_with fail
          refine (WriteString_bd _ _ _ _ _ HB4.out (by rw [Fd.cells_len, List.length_append]; have := hal.out; show _ + 2 ≤ _; omega) HS4.out).mono ?_
          rintro e w5 ⟨rfl, hB5, hF5⟩
          have HB5 : Hid (Bd (w.heap.size + 1) w.heap.size (Lib.byteCells (trailG (t.take (k + 1)))) w5) := by
            show Bd _ _ _ _
            rw [HSn.out, cells_app (trailG (t.take k) ++ LP), ← cells_str [13, 10]]
            exact hB5
          have hF := HF4.out.trans hF5
          have HW5 : Hid (Below w.heap.size w w5) := HW3.out.trans (hF.below (by omega) (Nat.le_refl _))
          have HS5 : Hid (w.heap.size + 1 ≤ w5.heap.size) := Nat.le_trans HS3.out hF.size
          have HA5 : Hid ((trailG (t.take (k + 1))).length ≤ (k + 1) * 1048600) := by show _ ≤ _; rw [HSn.out, List.length_append, List.length_append]; have := hal.out; simp; omega
          clear hB5 hF5 hF
          go_wp2
          go_roundw
          case rel => exact ⟨k + 1, by omega, by go_num, nx, HA5, HB5, HW5, HS5⟩
          case measure => simp [intOf]; omega
      · have hzd : decide (chkZ p = 0) = false := by simp [hz0]
        rw [hzd, Bool.false_and] at hok2
        have bd := BD hok2
        rw [show printL p = ([], chkZ p) by unfold printL; rw [if_neg hz0]] at HPL
        dsimp only at HPL
        have hzq : (chkZ p != 0) = true := by simp [hz0]
        clear NX BD hz0 hzd hok2
        generalize chkZ p = z at *
        go_wp2_with fail
        refine (HPL.out _ (HT.out.below HBW.out (Nat.le_refl _))).mono ?_
        rintro e w2 ⟨rfl, hb2⟩
        have HW2 : Hid (Below w.heap.size w w2) := bel_trans HBW.out hb2
        clear hb2
        go_wp2
        go_ret2
        exact ⟨by rw [bd.out]; rfl, HW2.out⟩
    · have hkl : k = t.length := by omega
      have HE : Hid (trailP t = (trailG t ++ [13, 10], 0)) := by
        show _ = _
        unfold trailP
        rw [all_of t (fun j hj => hok.out j (by omega)), if_pos rfl]
      have HB : Hid (Bd (w.heap.size + 1) w.heap.size (Lib.byteCells (trailG t)) wr) := by
        have := hB.out
        rw [hkl, List.take_length] at this
        exact this
      have hal2 : (trailG t).length ≤ t.length * 1048600 := by
        have := hal.out
        rw [hkl, List.take_length] at this
        exact this
      go_wp2_with fail
      refine (WriteString_bd _ _ _ _ _ HB.out (by rw [Fd.cells_len]; show _ + 2 ≤ _; omega) hS.out).mono ?_
      rintro e w2 ⟨rfl, hB2, hF2⟩
      have HB2 : Hid (Bd (w.heap.size + 1) w.heap.size (Lib.byteCells (trailG t ++ [13, 10])) w2) := by
        show Bd _ _ _ _
        rw [cells_app, ← cells_str [13, 10]]
        exact hB2
      have HW2 : Hid (Below w.heap.size w w2) := hW.out.trans (hF2.below (by omega) (Nat.le_refl _))
      have HS2 : Hid (w.heap.size + 1 ≤ w2.heap.size) := Nat.le_trans hS.out hF2.size
      clear hB2 hF2
      go_wp2_with fail
      refine (String_bd _ _ _ _ HB2.out HS2.out).mono ?_
      rintro e w3 ⟨rfl, hb3, _⟩
      have HW3 : Hid (Below w.heap.size w w3) := HW2.out.trans (hb3.mono (by omega))
      clear hb3
      go_wp2
      go_ret2
      exact ⟨by rw [HE.out]; rfl, HW3.out⟩
end Ck
end Go.Proofs.YtcelekfokbdmfaaGreatDoor
set_option linter.unusedVariables false
set_option linter.unusedSimpArgs false
set_option maxRecDepth 100000
namespace Go.Proofs.YtcelekfokbdmfaaGreatDoor
open Go.RowKit Go.Shelf
namespace Ck
open Oc Tg _root_.Go.Proofs.YtcelekfokbdmfaaGreatDoor.Fd
def nthI (l : List Int) (j : Nat) : Int := l.getD j 0
theorem nthI_some (l : List Int) (j : Nat) (h : j < l.length) : l[j]? = some (nthI l j) := by
  unfold nthI
  rw [List.getD_eq_getElem?_getD, List.getElem?_eq_getElem h]
  rfl
def lowI1 (l : List Int) : Int := match l.findIdx? (fun x => decide (x < 1)) with | some k => (k : Int) | none => -1
theorem lowI1_at {l : List Int} {k : Nat} (hk : k < l.length) (h : nthI l k < 1) (hno : ∀ j, j < k → ¬ nthI l j < 1) : lowI1 l = k := by
  have : l.findIdx? (fun x => decide (x < 1)) = some k := by
    rw [List.findIdx?_eq_some_iff_getElem]
    have e : ∀ j (hj : j < l.length), l[j] = nthI l j := fun j hj => by unfold nthI; rw [List.getD_eq_getElem?_getD, List.getElem?_eq_getElem hj]; rfl
    refine ⟨hk, by rw [e k hk]; simpa using h, fun j hj => by rw [e j (by omega)]; simpa using hno j hj⟩
  unfold lowI1
  rw [this]
theorem lowI1_no {l : List Int} (h : ∀ j, j < l.length → ¬ nthI l j < 1) : lowI1 l = -1 := by
  have : l.findIdx? (fun x => decide (x < 1)) = none := by
    rw [List.findIdx?_eq_none_iff]
    intro x hx
    obtain ⟨j, hj, rfl⟩ := List.mem_iff_getElem.1 hx
    have := h j hj
    unfold nthI at this
    rw [List.getD_eq_getElem?_getD, List.getElem?_eq_getElem hj] at this
    simpa using this
  unfold lowI1
  rw [this]
set_option maxHeartbeats 1000000 in
theorem Encode1_any (x : Int) (w : World) : Calls Tryz.prog 72 #[.int .i64 x] w fun e w' => e = .returned (.bool (decide (x < 1))) ∧ w' = w := by
  go_enter Tryz.func72, Tryz.ntmps72
  go_wp2
  go_ret
  exact ⟨rfl, rfl⟩
set_option maxHeartbeats 1000000 in
theorem IndexFunc_i (v : Value) (l : List Int) (hl : l.length ≤ 4294967296) (w : World) (hr : RdI w v l) :
    Calls Tryz.prog 103 #[v, .func (.func 72) #[] #[]] w fun e w' => e = .returned (.int .i64 (lowI1 l)) ∧ w' = w := by
  obtain ⟨a, c, rfl, hc, hbd, hr⟩ := hr
  have HR : Hid (l = [] ∨ ∃ g o, a = some ⟨g, o, none⟩ ∧ ∀ j x, l[j]? = some x → w.cell? ⟨g, o + j, none⟩ = some (.int .i64 x)) := hr
  clear hr hbd
  go_enter Tryz.func103, Tryz.ntmps103
  go_wp2
  go_loopw [8] (fun i wr => ∃ k : Nat, k ≤ l.length ∧ i = .int .i64 k ∧ Hid (∀ j, j < k → 1 ≤ nthI l j) ∧ w = wr) (fun i _ => l.length - (intOf i).toNat)
  case atStart => exact ⟨0, Nat.zero_le _, rfl, (fun j hj => by omega : ∀ j, j < 0 → _), rfl⟩
  case round =>
    obtain ⟨k, hk, rfl, hall, rfl⟩ := hrel
    by_cases hlt : k < l.length
    · rcases HR.out with h | ⟨g, o, rfl, hcell⟩
      · rw [h] at hlt; simp at hlt
      have p0 := hcell k _ (nthI_some l k hlt)
      clear hcell
      by_cases hx : nthI l k < 1
      · have HT : Hid (lowI1 l = k) := lowI1_at hlt hx (fun j hj => by have := hall.out j hj; omega)
        have HN : Hid (∀ W, Calls Tryz.prog 72 #[.int .i64 (nthI l k)] W fun e w' => e = .returned (.bool true) ∧ w' = W) := fun W => by
          have := Encode1_any (nthI l k) W
          rw [show decide (nthI l k < 1) = true by simp [hx]] at this
          exact this
        clear hx
        generalize nthI l k = X at *
        go_wp2_with fail
        refine (HN.out _).mono ?_
        rintro e w2 ⟨rfl, hw⟩
        rw [hw]
        clear hw
        go_wp2
        go_ret
        exact ⟨ret_int HT.out.symm, rfl⟩
      · have HF : Hid (∀ j, j < k + 1 → 1 ≤ nthI l j) := (fun j hj => by
          by_cases hjk : j = k
          · subst hjk; omega
          · exact hall.out j (by omega) : ∀ j, j < k + 1 → 1 ≤ nthI l j)
        have HN : Hid (∀ W, Calls Tryz.prog 72 #[.int .i64 (nthI l k)] W fun e w' => e = .returned (.bool false) ∧ w' = W) := fun W => by
          have := Encode1_any (nthI l k) W
          rw [show decide (nthI l k < 1) = false by simp; omega] at this
          exact this
        clear hx
        generalize nthI l k = X at p0 HN
        go_wp2_with fail
        refine (HN.out _).mono ?_
        rintro e w2 ⟨rfl, hw⟩
        rw [hw]
        clear hw
        go_wp2
        go_roundw
        case rel => exact ⟨k + 1, by omega, by go_num, HF, trivial⟩
        case measure => simp [intOf]; omega
    · have HT : Hid (lowI1 l = -1) := lowI1_no (fun j hj => by have := hall.out j (by omega); omega)
      go_wp2
      go_ret
      exact ⟨ret_int HT.out.symm, rfl⟩
set_option maxHeartbeats 1000000 in
theorem ContainsFunc_i (v : Value) (l : List Int) (hl : l.length ≤ 4294967296) (w : World) (hr : RdI w v l) :
    Calls Tryz.prog 71 #[v, .func (.func 72) #[] #[]] w fun e w' => e = .returned (.bool (decide (0 ≤ lowI1 l))) ∧ w' = w := by
  have HI : Hid (Calls Tryz.prog 103 #[v, .func (.func 72) #[] #[]] w fun e w' => e = .returned (.int .i64 (lowI1 l)) ∧ w' = w) := IndexFunc_i v l hl w hr
  obtain ⟨a, c, rfl, _⟩ := hr
  go_enter Tryz.func71, Tryz.ntmps71
  go_wp2_with fail
  refine HI.out.mono ?_
  rintro e w2 ⟨rfl, hw⟩
  rw [hw]
  clear hw
  go_wp2
  go_ret
  exact ⟨rfl, rfl⟩
def cutC : List Int → List UInt8 → List UInt8
  | [], b => chunkC b
  | n :: ns, b => chunkC (b.take n.toNat) ++ cutC ns (b.drop n.toNat)
def encR (body : List UInt8) (sizes : List Int) (t : List Fl) : List UInt8 × Int :=
  if 0 ≤ lowI1 sizes then ([], 1) else if t.all okT then (cutC sizes body ++ lineC 0 ++ (trailG t ++ [13, 10]), 0) else ([], 101)
theorem chunkC_len (t : List UInt8) (h : t.length ≤ 1099511627776) : (chunkC t).length ≤ t.length + 15 := by
  unfold chunkC
  split
  · simp
  · have := hexd_len 10 t.length (Nat.lt_of_le_of_lt h (by decide))
    unfold lineC
    simp only [List.length_append, List.length_cons, List.length_nil]
    omega
theorem cutC_drop (l : List Int) (k : Nat) (h : k < l.length) (b : List UInt8) : cutC (l.drop k) b = chunkC (b.take (nthI l k).toNat) ++ cutC (l.drop (k + 1)) (b.drop (nthI l k).toNat) := by
  have : l.drop k = nthI l k :: l.drop (k + 1) := by
    rw [List.drop_eq_getElem_cons h]
    unfold nthI
    rw [List.getD_eq_getElem?_getD, List.getElem?_eq_getElem h]
    rfl
  rw [this]
  rfl
theorem nthI_mem (l : List Int) (j : Nat) (h : j < l.length) : nthI l j ∈ l := by
  unfold nthI
  rw [List.getD_eq_getElem?_getD, List.getElem?_eq_getElem h]
  exact List.getElem_mem h
theorem lowI1_hit {l : List Int} {j : Nat} (hj : j < l.length) (h : nthI l j < 1) : 0 ≤ lowI1 l := by
  unfold lowI1
  cases hf : l.findIdx? (fun x => decide (x < 1)) with
  | some k => simp
  | none =>
    rw [List.findIdx?_eq_none_iff] at hf
    have := hf _ (nthI_mem l j hj)
    simp at this
    omega
theorem trailG_len : ∀ t : List Fl, (trailG t).length ≤ 2 * sumF t
  | [] => by simp [trailG]
  | p :: t => by
    have ih := trailG_len t
    have h1 := lineP_len p
    have e : trailG (p :: t) = lineP p ++ [13, 10] ++ trailG t := by simp [trailG]
    have e2 : sumF (p :: t) = szF p + sumF t := by simp [sumF]
    have h3 : 3 ≤ szF p := by unfold szF; omega
    rw [e, e2, List.length_append, List.length_append]
    simp only [List.length_cons, List.length_nil]
    omega
set_option maxHeartbeats 4000000 in
theorem Encode_any (body : ByteArray) (hb : body.size ≤ 1048576) (vs : Value) (l : List Int) (hl : l.length ≤ 1048576) (vt : Value) (t : List Fl) (hs : sumF t ≤ 1048576) (w : World) (hi : RdI w vs l) (hr : RdF vt t w) (tab : Tab w) (td : Deb w) :
    Calls Tryz.prog 43 #[.string body, vs, vt] w fun e w' => e = .returned (.tuple #[.string (str (encR body.data.toList l t).1), .int .i64 (encR body.data.toList l t).2]) ∧ Below w.heap.size w w' := by
  have HC : Hid (Calls Tryz.prog 71 #[vs, .func (.func 72) #[] #[]] w fun e w' => e = .returned (.bool (decide (0 ≤ lowI1 l))) ∧ w' = w) := ContainsFunc_i vs l (by omega) w hi
  have HPT : Hid (Calls Tryz.prog 73 #[vt] w fun e w' => e = .returned (.tuple #[.string (str (trailP t).1), .int .i64 (trailP t).2]) ∧ Below w.heap.size w w') := printTrailers_any vt t hs w hr tab
  have HT : Hid (Tab w) := tab
  have HD : Hid (Deb w) := td
  have HI : Hid (RdI w vs l) := hi
  obtain ⟨a, c, rfl, hlc, hbd, _⟩ := hi
  obtain ⟨a2, c2, rfl, _⟩ := hr
  have HBd : Hid (∀ x ∈ l, -9223372036854775808 ≤ x ∧ x ≤ 9223372036854775807) := hbd
  clear tab td hbd
  have hsl : (trailG t).length ≤ 2 * sumF t := trailG_len t
  by_cases h0 : 0 ≤ lowI1 l
  · have HE : Hid (encR body.data.toList l t = ([], 1)) := (by unfold encR; rw [if_pos h0] : _ = _)
    have hd : decide (0 ≤ lowI1 l) = true := by simp [h0]
    rw [hd] at HC
    clear h0 hd
    go_enter Tryz.func43, Tryz.ntmps43
    go_wp2_with fail
    refine HC.out.mono ?_
    rintro e w2 ⟨rfl, hw⟩
    rw [hw]
    clear hw
    go_wp2
    go_ret2
    rw [HE.out]
    exact ⟨rfl, Below.refl _ _⟩
  have hd : decide (0 ≤ lowI1 l) = false := by simp; omega
  rw [hd] at HC
  have HE : Hid (encR body.data.toList l t = if t.all okT then (cutC l body.data.toList ++ lineC 0 ++ (trailG t ++ [13, 10]), 0) else ([], 101)) := (by unfold encR; rw [if_neg h0] : _ = _)
  have HPos : Hid (∀ j, j < l.length → 1 ≤ nthI l j) := (fun j hj => by
    by_cases h : nthI l j < 1
    · exact absurd (lowI1_hit hj h) h0
    · omega : ∀ j, j < l.length → 1 ≤ nthI l j)
  clear h0 hd
  cases hall : t.all okT with
  | false =>
    have HTP : Hid (trailP t = ([], 101)) := (by unfold trailP; rw [hall]; rfl : _ = _)
    rw [hall] at HE
    rw [HTP.out] at HPT
    go_enter Tryz.func43, Tryz.ntmps43
    go_wp2_with fail
    refine HC.out.mono ?_
    rintro e w2 ⟨rfl, hw⟩
    rw [hw]
    clear hw
    go_wp2_with fail
    refine HPT.out.mono ?_
    rintro e w3 ⟨rfl, hb3⟩
    have HB3 : Hid (Below w.heap.size w w3) := hb3
    clear hb3
    go_wp2
    go_ret2
    rw [HE.out]
    exact ⟨rfl, HB3.out⟩
  | true =>
    have HTP : Hid (trailP t = (trailG t ++ [13, 10], 0)) := (by unfold trailP; rw [hall]; rfl : _ = _)
    rw [hall, if_pos rfl] at HE
    rw [HTP.out] at HPT
    dsimp only at HPT
    have hzs : (str (trailG t ++ [13, 10])).size ≤ 3000000 := by rw [str_size, List.length_append]; simp; omega
    have HCS : Hid (Lib.strCells (str (trailG t ++ [13, 10])) = Lib.byteCells (trailG t ++ [13, 10])) := cells_str _
    generalize str (trailG t ++ [13, 10]) = SEC at *
    go_enter Tryz.func43, Tryz.ntmps43
    go_wp2_with fail
    refine HC.out.mono ?_
    rintro e w2 ⟨rfl, hw⟩
    rw [hw]
    clear hw
    go_wp2_with fail
    refine HPT.out.mono ?_
    rintro e w3 ⟨rfl, hb3⟩
    have HB3 : Hid (Below w.heap.size w w3) := hb3
    have HBD : Hid (Bd (w3.heap.size + 1) w3.heap.size (Lib.byteCells []) (w3.alloc (.cells #[.pointer none, .slice none 0 0] 103))) := Bd.new w3 (w3.heap.size + 1)
    have hs3 := hb3.size
    have HB4 : Hid (Below w.heap.size w (w3.alloc (.cells #[.pointer none, .slice none 0 0] 103))) := hb3.alloc hs3 _
    clear hb3
    go_wp2
    go_loopw [0, 25] (fun bv i wr => ∃ (k : Nat) (B : ByteArray) (acc : List UInt8), k ≤ l.length ∧ i = .int .i64 k ∧ bv = .string B ∧ B.size ≤ 1048576 ∧ Hid (cutC l body.data.toList = acc ++ cutC (l.drop k) B.data.toList) ∧ Hid (acc.length + B.size ≤ k * 15 + 1048576) ∧ Hid (Bd (w3.heap.size + 1) w3.heap.size (Lib.byteCells acc) wr) ∧ Hid (Below w.heap.size w wr) ∧ Hid (w3.heap.size + 1 ≤ wr.heap.size)) (fun _ i _ => l.length - (intOf i).toNat)
    case atStart => exact ⟨0, body, [], Nat.zero_le _, rfl, rfl, hb, (by simp : _ = _), (by simp; omega : _ ≤ _), HBD, HB4, (by simp : _ ≤ _)⟩
    case round =>
      obtain ⟨k, B, acc, hk, rfl, rfl, hBs, hst, hal, hB, hW, hS⟩ := hrel
      by_cases hlt : k < l.length
      · have hp := HPos.out k hlt
        have hmx := (HBd.out _ (nthI_mem l k hlt)).2
        obtain ⟨a', c', e', _, _, hcs⟩ := HI.out.below hW.out
        injection e' with e1 _ e2
        subst e1 e2
        rcases hcs with h | ⟨g, o, rfl, hcell⟩
        · rw [h] at hlt; simp at hlt
        have p0 := hcell k _ (nthI_some l k hlt)
        clear hcell
        have HST : Hid (cutC l body.data.toList = acc ++ chunkC (B.data.toList.take (nthI l k).toNat) ++ cutC (l.drop (k + 1)) (B.data.toList.drop (nthI l k).toNat)) := (by rw [hst.out, cutC_drop l k hlt, List.append_assoc] : _ = _)
        clear hst
        generalize nthI l k = X at *
        obtain ⟨m, hm⟩ : ∃ m : Nat, min X ((B.size : Nat) : Int) = (m : Int) := ⟨(min X ((B.size : Nat) : Int)).toNat, by omega⟩
        have hmle : m ≤ B.size := by omega
        have htk : B.data.toList.take X.toNat = (B.extract 0 m).data.toList := by
          rw [take_ext, str_list]
          by_cases hx : X ≤ ((B.size : Nat) : Int)
          · have : X.toNat = m := by omega
            rw [this]
          · rw [List.take_of_length_le (by rw [size_list]; omega), List.take_of_length_le (by rw [size_list]; omega)]
        have hdr : B.data.toList.drop X.toNat = (B.extract m B.size).data.toList := by
          rw [drop_ext]
          by_cases hx : X ≤ ((B.size : Nat) : Int)
          · have : X.toNat = m := by omega
            rw [this]
          · rw [List.drop_eq_nil_of_le (by rw [size_list]; omega), List.drop_eq_nil_of_le (by rw [size_list]; omega)]
        rw [htk, hdr] at HST
        clear htk hdr
        have hs1 : (B.extract 0 m).size = m := by rw [ByteArray.size_extract]; omega
        have hs2 : (B.extract m B.size).size = B.size - m := by rw [ByteArray.size_extract]; omega
        have hcl := chunkC_len (B.extract 0 m).data.toList (by rw [size_list]; omega)
        rw [size_list] at hcl
        have HTw : Hid (Tab wr) := HT.out.below hW.out (Nat.le_refl _)
        have HDw : Hid (Deb wr) := HD.out.below hW.out
        have HCL : Hid ((chunkC (B.extract 0 m).data.toList).length ≤ m + 15) := (by omega : _ ≤ _)
        have HS2 : Hid ((B.extract m B.size).size = B.size - m) := hs2
        clear hcl hs2
        have HWC : Hid (Calls Tryz.prog 74 #[.pointer (some ⟨w3.heap.size, 0, none⟩), .string (B.extract 0 m)] wr fun e w' => e = .returned (.tuple #[]) ∧ Bd (w3.heap.size + 1) w3.heap.size (Lib.byteCells (acc ++ chunkC (B.extract 0 m).data.toList)) w' ∧ Fr (w3.heap.size + 1) w3.heap.size wr w') := writeChunk_bd _ _ acc (B.extract 0 m) (by omega) wr hB.out (by have := hal.out; omega) hS.out HTw.out HDw.out
        go_wp2_with fail
        refine HWC.out.mono ?_
        rintro e w5 ⟨rfl, hB5, hF5⟩
        have HB5 : Hid (Bd (w3.heap.size + 1) w3.heap.size (Lib.byteCells (acc ++ chunkC (B.extract 0 m).data.toList)) w5) := hB5
        have HW5 : Hid (Below w.heap.size w w5) := hW.out.trans (hF5.below (by omega) (by omega))
        have HS5 : Hid (w3.heap.size + 1 ≤ w5.heap.size) := Nat.le_trans hS.out hF5.size
        clear hB5 hF5
        have HA5 : Hid ((acc ++ chunkC (B.extract 0 m).data.toList).length + (B.extract m B.size).size ≤ (k + 1) * 15 + 1048576) := by
          show _ ≤ _
          rw [List.length_append, HS2.out]
          have := hal.out
          have := HCL.out
          omega
        have hBs2 : (B.extract m B.size).size ≤ 1048576 := by rw [HS2.out]; omega
        go_wp2
        go_roundw
        case rel => exact ⟨k + 1, B.extract m B.size, acc ++ chunkC (B.extract 0 m).data.toList, by omega, by go_num, rfl, hBs2, HST, HA5, HB5, HW5, HS5⟩
        case measure => simp [intOf]; omega
      · have HST : Hid (cutC l body.data.toList = acc ++ chunkC B.data.toList) := (by rw [hst.out, List.drop_eq_nil_of_le (by omega)]; rfl : _ = _)
        clear hst
        have hcl := chunkC_len B.data.toList (by rw [size_list]; omega)
        rw [size_list] at hcl
        have HTw : Hid (Tab wr) := HT.out.below hW.out (Nat.le_refl _)
        have HDw : Hid (Deb wr) := HD.out.below hW.out
        have HCL : Hid ((chunkC B.data.toList).length ≤ B.size + 15) := hcl
        clear hcl
        go_wp2_with fail
        refine (writeChunk_bd _ _ acc B (by omega) wr hB.out (by have := hal.out; omega) hS.out HTw.out HDw.out).mono ?_
        rintro e w5 ⟨rfl, hB5, hF5⟩
        have HB5 : Hid (Bd (w3.heap.size + 1) w3.heap.size (Lib.byteCells (acc ++ chunkC B.data.toList)) w5) := hB5
        have HW5 : Hid (Below w.heap.size w w5) := hW.out.trans (hF5.below (by omega) (by omega))
        have HS5 : Hid (w3.heap.size + 1 ≤ w5.heap.size) := Nat.le_trans hS.out hF5.size
        have HT5 : Hid (Tab w5) := HT.out.below HW5.out (Nat.le_refl _)
        have HD5 : Hid (Deb w5) := HD.out.below HW5.out
        clear hB5 hF5 HTw HDw
        have HA5 : Hid ((acc ++ chunkC B.data.toList).length ≤ 100000000) := by
          show _ ≤ _
          rw [List.length_append]
          have := hal.out
          have := HCL.out
          omega
        rw [← HST.out] at HB5 HA5
        generalize cutC l body.data.toList = CUT at *
        go_wp2_with fail
        refine (writeSize_bd _ _ CUT 0 (by omega) w5 HB5.out (by have := HA5.out; omega) HS5.out HT5.out HD5.out).mono ?_
        rintro e w6 ⟨rfl, hB6, hF6⟩
        have HB6 : Hid (Bd (w3.heap.size + 1) w3.heap.size (Lib.byteCells (CUT ++ lineC 0)) w6) := hB6
        have HW6 : Hid (Below w.heap.size w w6) := HW5.out.trans (hF6.below (by omega) (by omega))
        have HS6 : Hid (w3.heap.size + 1 ≤ w6.heap.size) := Nat.le_trans HS5.out hF6.size
        clear hB6 hF6
        go_wp2_with fail
        refine (WriteString_bd _ _ _ SEC w6 HB6.out (by rw [Fd.cells_len, List.length_append, show (lineC 0).length = 3 by decide +kernel]; have := HA5.out; omega) HS6.out).mono ?_
        rintro e w7 ⟨rfl, hB7, hF7⟩
        have HB7 : Hid (Bd (w3.heap.size + 1) w3.heap.size (Lib.byteCells (CUT ++ lineC 0 ++ (trailG t ++ [13, 10]))) w7) := by
          show Bd _ _ _ _
          rw [cells_app (CUT ++ lineC 0), ← HCS.out]
          exact hB7
        have HW7 : Hid (Below w.heap.size w w7) := HW6.out.trans (hF7.below (by omega) (by omega))
        have HS7 : Hid (w3.heap.size + 1 ≤ w7.heap.size) := Nat.le_trans HS6.out hF7.size
        clear hB7 hF7
        go_wp2_with fail
        refine (String_bd _ _ _ _ HB7.out HS7.out).mono ?_
        rintro e w8 ⟨rfl, hb8, _⟩
        have HW8 : Hid (Below w.heap.size w w8) := HW7.out.trans (hb8.mono (by omega))
        clear hb8
        go_wp2
        go_ret2
        exact ⟨by rw [HE.out, List.append_assoc]; rfl, HW8.out⟩
end Ck
end Go.Proofs.YtcelekfokbdmfaaGreatDoor
set_option linter.unusedVariables false
set_option linter.unusedSimpArgs false
set_option maxRecDepth 100000
namespace Go.Proofs.YtcelekfokbdmfaaGreatDoor
open Go.RowKit Go.Shelf
namespace Ck
open Oc Tg _root_.Go.Proofs.YtcelekfokbdmfaaGreatDoor.Fd
def noLf (l : List UInt8) : Prop := ∀ c ∈ l, c ≠ 10
def lineS (s : DS) (l : List UInt8) : DS := { s with line := s.line ++ l }
theorem eat_put0 : ∀ (l r : List UInt8) (s : DS), s.mode = 0 → noLf l → s.line.length + l.length < 256 → eat s (l ++ r) = (l.length + (eat (lineS s l) r).1, (eat (lineS s l) r).2)
  | [], r, s, hm, hn, hl => by simp [lineS]
  | c :: l, r, s, hm, hn, hl => by
    have hc : c ≠ 10 := hn c (by simp)
    simp only [List.length_cons] at hl
    have hb : bstep s c = put s c := by
      unfold bstep; rw [hm]; show inSize s c = _
      unfold inSize; rw [if_neg hc, if_neg (by omega)]
    rw [List.cons_append, eat_cons (by omega), hb, eat_put0 l r (put s c) hm (fun d hd => hn d (by simp [hd])) (by simp [put]; omega)]
    have e : lineS (put s c) l = lineS s (c :: l) := by simp [lineS, put]
    rw [e]
    simp only [List.length_cons, Prod.mk.injEq, and_true]
    omega
theorem eat_line0 (l r : List UInt8) (s : DS) (hm : s.mode = 0) (hn : noLf l) (h0 : s.line = []) (hl : l.length < 256) :
    eat s (l ++ 10 :: r) = (l.length + 1 + (eat (endSize (lineS s (l ++ [10]))) r).1, (eat (endSize (lineS s (l ++ [10]))) r).2) := by
  rw [eat_put0 l _ s hm hn (by rw [h0]; simpa using hl)]
  have hm' : (lineS s l).mode = 0 := hm
  have hb : bstep (lineS s l) 10 = endSize (lineS s (l ++ [10])) := by
    unfold bstep; rw [hm']; show inSize _ _ = _
    unfold inSize; rw [if_pos rfl]
    simp [lineS, put]
  rw [eat_cons (by omega), hb]
  simp only [Prod.mk.injEq, and_true]
  omega
theorem suffix_yes (k : List UInt8) : Lib.hasSuffix (k ++ [13] ++ [10]) crlf = true ∧ Lib.trimSuffix (k ++ [13] ++ [10]) crlf = k := by
  have h : Lib.hasSuffix (k ++ [13] ++ [10]) crlf = true := by
    unfold Lib.hasSuffix crlf
    rw [List.isSuffixOf_iff_suffix]
    exact ⟨k, by simp⟩
  refine ⟨h, ?_⟩
  unfold Lib.trimSuffix
  rw [if_pos h]
  simp [crlf]
def stS (most room fields : Int) (b : List UInt8) : DS := ⟨0, false, 0, most - b.length, room, fields, 0, 0, [], b, []⟩
theorem stS_new (most room fields : Int) : stS most room fields [] = new most room fields := by simp [stS, new]
theorem endSize_yes {s : DS} {k : List UInt8} (h0 : s.line = []) : endSize (lineS s (k ++ [13] ++ [10])) = if (sizeR k).2.2 ≠ 0 then fin s (sizeR k).2.2 else if s.most < (sizeR k).1 then fin s 102 else if (sizeR k).1 = 0 then { s with mode := 4 } else { s with most := s.most - (sizeR k).1, left := (sizeR k).1, mode := 1 } := by
  have e1 : right (lineS s (k ++ [13] ++ [10])) = true := by unfold right lineS; rw [h0]; exact (suffix_yes k).1
  have e2 : said (lineS s (k ++ [13] ++ [10])) = k := by unfold said lineS; rw [h0]; exact (suffix_yes k).2
  have e3 : bare (lineS s (k ++ [13] ++ [10])) = s := by unfold bare lineS; cases s; simp at h0; subst h0; rfl
  unfold endSize
  rw [if_neg (by rw [e1]; decide), e2, e3]
  rfl
theorem inChunk_all {most room fields : Int} {b t : List UInt8} {n : Int} (hn : (t.length : Int) = n) :
    inChunk { (stS most room fields b) with most := most - b.length - n, left := n, mode := 1 } t = { (stS most room fields (b ++ t)) with mode := 2 } := by
  unfold inChunk stS
  simp only [List.length_append]
  rw [if_pos (by omega)]
  congr 1 <;> omega
theorem eat_put4 : ∀ (l r : List UInt8) (s : DS), s.mode = 4 → noLf l → (l.length : Int) ≤ s.room → eat s (l ++ r) = (l.length + (eat { (lineS s l) with room := s.room - l.length } r).1, (eat { (lineS s l) with room := s.room - l.length } r).2)
  | [], r, s, hm, hn, hl => by simp [lineS]
  | c :: l, r, s, hm, hn, hl => by
    have hc : c ≠ 10 := hn c (by simp)
    simp only [List.length_cons] at hl
    have hb0 : bstep s c = inTrailers s c := by unfold bstep; rw [hm]; rfl
    have hb : bstep s c = put { s with room := s.room - 1 } c := by
      rw [hb0]
      unfold inTrailers; rw [if_neg (by omega), if_neg hc]
    rw [List.cons_append, eat_cons (by omega), hb, eat_put4 l r (put { s with room := s.room - 1 } c) hm (fun d hd => hn d (by simp [hd])) (by simp [put]; omega)]
    have e : ({ (lineS (put { s with room := s.room - 1 } c) l) with room := (put { s with room := s.room - 1 } c).room - l.length } : DS) = { (lineS s (c :: l)) with room := s.room - (c :: l).length } := by
      simp [lineS, put]; omega
    rw [e]
    simp only [List.length_cons, Prod.mk.injEq, and_true]
    omega
theorem eat_line4 (l r : List UInt8) (s : DS) (hm : s.mode = 4) (hn : noLf l) (hl : (l.length : Int) < s.room) :
    eat s (l ++ 10 :: r) = (l.length + 1 + (eat (endTrailer { (lineS s (l ++ [10])) with room := s.room - l.length - 1 }) r).1, (eat (endTrailer { (lineS s (l ++ [10])) with room := s.room - l.length - 1 }) r).2) := by
  rw [eat_put4 l _ s hm hn (by omega)]
  have hb : bstep { (lineS s l) with room := s.room - l.length } 10 = endTrailer { (lineS s (l ++ [10])) with room := s.room - l.length - 1 } := by
    unfold bstep
    show (match s.mode with | 0 => _ | 1 => _ | 2 => _ | 3 => _ | 4 => _ | _ => _) = _
    rw [hm]; show inTrailers _ _ = _
    unfold inTrailers
    rw [if_neg (by show ¬ (s.room - l.length = 0); omega), if_pos rfl]
    simp [lineS, put]
  rw [eat_cons (by show s.mode ≠ 5; omega), hb]
  simp only [Prod.mk.injEq, and_true]
  omega
def stT (most room fields : Int) (b : List UInt8) (t : List Fl) (u : Nat) : DS := ⟨4, false, 0, most - b.length, room - u, fields - t.length, 0, 0, [], b, t⟩
theorem stT_of (most room fields : Int) (b : List UInt8) : { (stS most room fields b) with mode := 4 } = stT most room fields b [] 0 := by simp [stT, stS]
theorem endTrailer_yes {s : DS} {k : List UInt8} {x : Int} (h0 : s.line = []) : endTrailer { (lineS s (k ++ [13] ++ [10])) with room := x } = if k = [] then fin { s with room := x } 0 else if s.fields = 0 then fin { s with room := x } 104 else keep { s with room := x } k := by
  have e1 : right { (lineS s (k ++ [13] ++ [10])) with room := x } = true := by unfold right lineS; rw [h0]; exact (suffix_yes k).1
  have e2 : said { (lineS s (k ++ [13] ++ [10])) with room := x } = k := by unfold said lineS; rw [h0]; exact (suffix_yes k).2
  have e3 : bare { (lineS s (k ++ [13] ++ [10])) with room := x } = { s with room := x } := by unfold bare lineS; cases s; simp at h0; subst h0; rfl
  unfold endTrailer
  rw [if_neg (by rw [e1]; decide), e2, e3]
  rfl
def Sees (x : Nat × DS) (n : Nat) (e : Int) (d : Bool) (b : List UInt8) (t : List Fl) : Prop := x.1 = n ∧ x.2.err = e ∧ x.2.done = d ∧ x.2.body = b ∧ x.2.tr = t
theorem Sees.on {s0 s1 : DS} {L M : List UInt8} {p n : Nat} {e : Int} {d : Bool} {b : List UInt8} {t : List Fl} (h : eat s0 L = (p + (eat s1 M).1, (eat s1 M).2)) (hs : Sees (eat s1 M) n e d b t) : Sees (eat s0 L) (p + n) e d b t := by
  rw [h]
  exact ⟨by rw [hs.1], hs.2⟩
theorem eat_on {s0 s1 s2 : DS} {L M N : List UInt8} {p q : Nat} (h : eat s0 L = (p + (eat s1 M).1, (eat s1 M).2)) (hs : eat s1 M = (q + (eat s2 N).1, (eat s2 N).2)) : eat s0 L = (p + q + (eat s2 N).1, (eat s2 N).2) := by
  rw [h, hs, Nat.add_assoc]
theorem Sees.over {s : DS} (h : s.mode = 5) (r : List UInt8) : Sees (eat s r) 0 s.err s.done s.body s.tr := by
  rw [eat_over h]
  exact ⟨rfl, rfl, rfl, rfl, rfl⟩
structure Fresh (s : DS) : Prop where
  line : s.line = []
  done : s.done = false
  err : s.err = 0
theorem line0_last {s : DS} {l k r : List UInt8} (hm : s.mode = 0) (hf : Fresh s) (hn : noLf l) (hl : l.length < 256) (h : l = k ++ [13]) (he : (sizeR k).2.2 = 0) (hb : ¬ s.most < (sizeR k).1) (hz : (sizeR k).1 = 0) :
    eat s (l ++ 10 :: r) = (l.length + 1 + (eat { s with mode := 4 } r).1, (eat { s with mode := 4 } r).2) := by
  rw [eat_line0 l r s hm hn hf.line hl, h, endSize_yes hf.line, if_neg (by rw [he]; decide), if_neg hb, if_pos hz]
theorem line0_chunk {s : DS} {l k r : List UInt8} (hm : s.mode = 0) (hf : Fresh s) (hn : noLf l) (hl : l.length < 256) (h : l = k ++ [13]) (he : (sizeR k).2.2 = 0) (hb : ¬ s.most < (sizeR k).1) (hz : (sizeR k).1 ≠ 0) :
    eat s (l ++ 10 :: r) = (l.length + 1 + (eat { s with most := s.most - (sizeR k).1, left := (sizeR k).1, mode := 1 } r).1, (eat { s with most := s.most - (sizeR k).1, left := (sizeR k).1, mode := 1 } r).2) := by
  rw [eat_line0 l r s hm hn hf.line hl, h, endSize_yes hf.line, if_neg (by rw [he]; decide), if_neg hb, if_neg hz]
theorem eat_chunk' : ∀ (t r : List UInt8) (s : DS), s.mode = 1 → t ≠ [] → (t.length : Int) ≤ s.left → eat s (t ++ r) = (t.length + (eat (inChunk s t) r).1, (eat (inChunk s t) r).2)
  | [], r, s, hm, h0, hl => absurd rfl h0
  | [c], r, s, hm, h0, hl => by
    have hb : bstep s c = inChunk s [c] := by unfold bstep; rw [hm]; rfl
    rw [List.cons_append, List.nil_append, eat_cons (by omega), hb]
    simp only [List.length_cons, List.length_nil, Prod.mk.injEq, and_true]
    omega
  | c :: d :: t, r, s, hm, h0, hl => by
    have hb : bstep s c = inChunk s [c] := by unfold bstep; rw [hm]; rfl
    simp only [List.length_cons] at hl
    have hm1 : (inChunk s [c]).mode = 1 := by
      unfold inChunk
      show (if s.left - (([c] : List UInt8).length : Int) = 0 then 2 else 1) = 1
      rw [if_neg (by simp; omega)]
    have e : inChunk (inChunk s [c]) (d :: t) = inChunk s (c :: d :: t) := by
      unfold inChunk
      simp only [List.length_cons, List.length_nil, List.append_assoc, List.cons_append, List.nil_append]
      congr 1
      · congr 1
        rw [eq_iff_iff]
        omega
      · omega
    rw [List.cons_append, eat_cons (by omega), hb, eat_chunk' (d :: t) r (inChunk s [c]) hm1 (by simp) (by simp [inChunk]; omega), e]
    simp only [List.length_cons, Prod.mk.injEq, and_true]
    omega
def stK (most room fields : Int) (b : List UInt8) (k : Nat) : DS := { (stS most room fields b) with mode := if k = 0 then 2 else if k = 1 then 3 else 0 }
theorem stK_two (most room fields : Int) (b : List UInt8) : stK most room fields b 2 = stS most room fields b := by simp [stK, stS]
theorem chunk_all {most room fields : Int} {b t r : List UInt8} {n : Int} (hn : (t.length : Int) = n) (h0 : t ≠ []) :
    eat { (stS most room fields b) with most := (stS most room fields b).most - n, left := n, mode := 1 } (t ++ r) = (t.length + (eat (stK most room fields (b ++ t) 0) r).1, (eat (stK most room fields (b ++ t) 0) r).2) := by
  rw [eat_chunk' t r _ rfl h0 (by show (t.length : Int) ≤ n; omega)]
  have e : inChunk { (stS most room fields b) with most := (stS most room fields b).most - n, left := n, mode := 1 } t = stK most room fields (b ++ t) 0 := inChunk_all hn
  rw [e]
def retAt (k : Nat) : UInt8 := if k = 0 then 13 else 10
theorem stK_on (most room fields : Int) (b : List UInt8) (k : Nat) (hk : k < 2) (r : List UInt8) : eat (stK most room fields b k) (retAt k :: r) = (1 + (eat (stK most room fields b (k + 1)) r).1, (eat (stK most room fields b (k + 1)) r).2) := by
  match k, hk with
  | 0, _ =>
    have hb : bstep (stK most room fields b 0) (retAt 0) = stK most room fields b 1 := by
      show behindChunk _ _ = _
      unfold behindChunk
      rw [if_pos (show retAt 0 = 13 from rfl)]
      rfl
    rw [eat_cons (by simp [stK]), hb, Nat.add_comm]
  | 1, _ =>
    have hb : bstep (stK most room fields b 1) (retAt 1) = stK most room fields b 2 := by
      show behindReturn _ _ = _
      unfold behindReturn
      rw [if_pos (show retAt 1 = 10 from rfl)]
      rfl
    rw [eat_cons (by simp [stK]), hb, Nat.add_comm]
theorem line4_end {m rm f : Int} {b l r : List UInt8} {t : List Fl} {u : Nat} (hn : noLf l) (hl : (l.length : Int) < rm - u) (h : l = [] ++ [13]) : Sees (eat (stT m rm f b t u) (l ++ 10 :: r)) (l.length + 1) 0 true b t := by
  rw [eat_line4 l r (stT m rm f b t u) rfl hn hl, h, endTrailer_yes rfl, if_pos rfl, eat_over (by rfl)]
  exact ⟨rfl, rfl, rfl, rfl, rfl⟩
theorem line4_on {m rm f : Int} {b l k r : List UInt8} {t : List Fl} {u : Nat} (hn : noLf l) (hl : (l.length : Int) < rm - u) (h : l = k ++ [13]) (h0 : k ≠ []) (hf : f - (t.length : Int) ≠ 0) (hp : ¬ ((parseL k).2.2 ≠ 0 ∨ trails (parseL k).1.1 = false)) :
    eat (stT m rm f b t u) (l ++ 10 :: r) = (l.length + 1 + (eat (stT m rm f b (t ++ [(parseL k).1]) (u + (l.length + 1))) r).1, (eat (stT m rm f b (t ++ [(parseL k).1]) (u + (l.length + 1))) r).2) := by
  rw [eat_line4 l r (stT m rm f b t u) rfl hn hl, h, endTrailer_yes rfl, if_neg h0, if_neg (show ¬ (stT m rm f b t u).fields = 0 from hf)]
  unfold keep
  rw [if_neg hp]
  have e : ({ ({ (stT m rm f b t u) with room := (stT m rm f b t u).room - ((k ++ [13]).length : Int) - 1 } : DS) with fields := (stT m rm f b t u).fields - 1, tr := t ++ [(parseL k).1] } : DS) = stT m rm f b (t ++ [(parseL k).1]) (u + ((k ++ [13]).length + 1)) := by
    unfold stT
    simp only [List.length_append, List.length_cons, List.length_nil]
    congr 1 <;> omega
  have e2 : ({ ({ (stT m rm f b t u) with room := (stT m rm f b t u).room - ((k ++ [13]).length : Int) - 1 } : DS) with fields := ({ (stT m rm f b t u) with room := (stT m rm f b t u).room - ((k ++ [13]).length : Int) - 1 } : DS).fields - 1, tr := ({ (stT m rm f b t u) with room := (stT m rm f b t u).room - ((k ++ [13]).length : Int) - 1 } : DS).tr ++ [(parseL k).1] } : DS) = stT m rm f b (t ++ [(parseL k).1]) (u + ((k ++ [13]).length + 1)) := e
  rw [e2]
end Ck
end Go.Proofs.YtcelekfokbdmfaaGreatDoor
