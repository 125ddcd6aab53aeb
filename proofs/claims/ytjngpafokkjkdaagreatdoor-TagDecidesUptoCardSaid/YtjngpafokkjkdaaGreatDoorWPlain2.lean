/-
  A date's text is read, and says the date; a text that is read is such.
-/
import Derived.Test.YtjngpafokkjkdaaGreatDoorWPlain
set_option linter.unusedVariables false
set_option linter.unusedSimpArgs false
namespace Go.Proofs.YtjngpafokkjkdaaGreatDoor
namespace Bs

/-- The day's text says the day. -/
def DayT (form : Int) (d : Nat) (dt : List UInt8) : Prop := dt = d2 d ∨ (form = 2 ∧ d < 10 ∧ dt = [32, dg d])
theorem dayT_p2 {d : Nat} : DayT 2 d (p2 32 d) := by
  unfold p2
  split
  · exact .inr ⟨rfl, by assumption, rfl⟩
  · exact .inl rfl
theorem takes_nil (l : List UInt8) (a : Nat) (st : List Int) : takes l [] a st = .ok (a, st) := rfl
theorem drop_len {l : List UInt8} {a : Nat} (ha : a ≤ l.length) (h : l.drop a = []) : a = l.length := by
  have := List.drop_eq_nil_iff.1 h
  omega
theorem drop_le {l p r : List UInt8} {a : Nat} (ha : a ≤ l.length) (h : l.drop a = p ++ r) : a + p.length ≤ l.length := by
  have := congrArg List.length h
  rw [List.length_drop, List.length_append] at this
  omega

/- Back. -/
theorem takes_un {l : List UInt8} {t : TK} {ts : List TK} {a : Nat} {st : List Int} {r : Nat × List Int} (h : takes l (t :: ts) a st = .ok r) : ∃ b st', take1 l a st t = .ok (b, st') ∧ takes l ts b st' = .ok r := by
  unfold takes at h
  split at h
  · rename_i b st' e
    exact ⟨b, st', e, h⟩
  · cases h
theorem un_ex {l t : List UInt8} {ts : List TK} {a : Nat} {st : List Int} {r : Nat × List Int} (h : takes l (.ex t :: ts) a st = .ok r) : ∃ b, l.drop a = t ++ l.drop b ∧ takes l ts b st = .ok r := by
  obtain ⟨b, st', h1, h2⟩ := takes_un h
  simp only [take1] at h1
  split at h1
  · rename_i b' e
    cases h1
    exact ⟨_, (exs_of e).2, h2⟩
  · cases h1
theorem un_d2 {l : List UInt8} {f : Nat} {ts : List TK} {a : Nat} {st : List Int} {r : Nat × List Int} (h : takes l (.dg 2 f :: ts) a st = .ok r) : ∃ b n, n < 100 ∧ l.drop a = d2 n ++ l.drop b ∧ takes l ts b (put st f (n : Int) a) = .ok r := by
  obtain ⟨b, st', h1, h2⟩ := takes_un h
  simp only [take1] at h1
  split at h1
  · rename_i b' v e
    cases h1
    obtain ⟨n, hn, rfl, _, hd⟩ := dgs2_of e
    exact ⟨_, n, hn, hd, h2⟩
  · cases h1
theorem un_d4 {l : List UInt8} {f : Nat} {ts : List TK} {a : Nat} {st : List Int} {r : Nat × List Int} (h : takes l (.dg 4 f :: ts) a st = .ok r) : ∃ b n, n < 10000 ∧ l.drop a = d4 n ++ l.drop b ∧ takes l ts b (put st f (n : Int) a) = .ok r := by
  obtain ⟨b, st', h1, h2⟩ := takes_un h
  simp only [take1] at h1
  split at h1
  · rename_i b' v e
    cases h1
    obtain ⟨n, hn, rfl, _, hd⟩ := dgs4_of e
    exact ⟨_, n, hn, hd, h2⟩
  · cases h1
theorem un_nm {l : List UInt8} {k f : Nat} {ts : List TK} {a : Nat} {st : List Int} {r : Nat × List Int} (h : takes l (.nm k f :: ts) a st = .ok r) : ∃ b i, i < (nms k).length ∧ l.drop a = (nms k).getD i [] ++ l.drop b ∧ takes l ts b (put st f (i : Int) a) = .ok r := by
  obtain ⟨b, st', h1, h2⟩ := takes_un h
  simp only [take1] at h1
  split at h1
  · rename_i i e
    cases h1
    obtain ⟨hi, hd⟩ := nam_of e
    exact ⟨_, i, hi, hd, h2⟩
  · cases h1
theorem un_lo {l : List UInt8} {f : Nat} {ts : List TK} {a : Nat} {st : List Int} {r : Nat × List Int} (h : takes l (.lo f :: ts) a st = .ok r) : ∃ b n dt, n < 100 ∧ DayT 2 n dt ∧ l.drop a = dt ++ l.drop b ∧ takes l ts b (put st f (n : Int) a) = .ok r := by
  obtain ⟨b, st', h1, h2⟩ := takes_un h
  simp only [take1] at h1
  split at h1
  · rename_i hb
    split at h1
    · rename_i b' v e
      cases h1
      obtain ⟨n, hn, rfl, _, hd⟩ := dgs1_of e
      exact ⟨_, n, [32, dg n], by omega, .inr ⟨rfl, hn, rfl⟩, by rw [get_drop hb, hd]; rfl, h2⟩
    · cases h1
  · split at h1
    · rename_i b' v e
      cases h1
      obtain ⟨n, hn, rfl, _, hd⟩ := dgs2_of e
      exact ⟨_, n, d2 n, hn, .inl rfl, hd, h2⟩
    · cases h1

theorem takes_F {l : List UInt8} {Y m h i s k d : Nat} (hY : Y < 10000) (hm : m < 12) (hd : d < 100) (hh : h < 100) (hi : i < 100) (hs : s < 100) (hk : k < 7)
    (x0 : l = shorts.getD k [] ++ ([44, 32] ++ (d2 d ++ ([32] ++ (mons.getD m [] ++ ([32] ++ (d4 Y ++ ([32] ++ (d2 h ++ ([58] ++ (d2 i ++ ([58] ++ (d2 s ++ ([32, 71, 77, 84] ++ [])))))))))))))) :
    ∃ p0 p1 q2 p3 p4 p5 p6 : Int, takes l tkF 0 z14 = .ok (l.length, [(k : Int), p0, (d : Int), p1, (m : Int), q2, (Y : Int), p3, (h : Int), p4, (i : Int), p5, (s : Int), p6]) := by
  have x0 : l.drop 0 = shorts.getD k [] ++ ([44, 32] ++ (d2 d ++ ([32] ++ (mons.getD m [] ++ ([32] ++ (d4 Y ++ ([32] ++ (d2 h ++ ([58] ++ (d2 i ++ ([58] ++ (d2 s ++ ([32, 71, 77, 84] ++ []))))))))))))) := x0
  have n0 : 0 ≤ l.length := Nat.zero_le _
  unfold tkF
  rw [(tk_nm (k := 0) (short_to hk x0) x0).1]
  have x1 : l.drop (0 + ((nms 0).getD k []).length) = [44, 32] ++ (d2 d ++ ([32] ++ (mons.getD m [] ++ ([32] ++ (d4 Y ++ ([32] ++ (d2 h ++ ([58] ++ (d2 i ++ ([58] ++ (d2 s ++ ([32, 71, 77, 84] ++ [])))))))))))) := drop_app x0
  have n1 : 0 + ((nms 0).getD k []).length ≤ l.length := drop_le n0 x0
  clear x0 n0
  generalize 0 + ((nms 0).getD k []).length = a1 at *
  rw [(tk_ex x1).1]
  have x2 : l.drop (a1 + ([44, 32] : List UInt8).length) = d2 d ++ ([32] ++ (mons.getD m [] ++ ([32] ++ (d4 Y ++ ([32] ++ (d2 h ++ ([58] ++ (d2 i ++ ([58] ++ (d2 s ++ ([32, 71, 77, 84] ++ []))))))))))) := drop_app x1
  have n2 : a1 + ([44, 32] : List UInt8).length ≤ l.length := drop_le n1 x1
  clear x1 n1
  generalize a1 + ([44, 32] : List UInt8).length = a2 at *
  rw [(tk_d2 hd x2).1]
  have x3 : l.drop (a2 + 2) = [32] ++ (mons.getD m [] ++ ([32] ++ (d4 Y ++ ([32] ++ (d2 h ++ ([58] ++ (d2 i ++ ([58] ++ (d2 s ++ ([32, 71, 77, 84] ++ [])))))))))) := drop_app x2
  have n3 : a2 + 2 ≤ l.length := drop_le n2 x2
  clear x2 n2
  generalize a2 + 2 = a3 at *
  rw [(tk_ex x3).1]
  have x4 : l.drop (a3 + ([32] : List UInt8).length) = mons.getD m [] ++ ([32] ++ (d4 Y ++ ([32] ++ (d2 h ++ ([58] ++ (d2 i ++ ([58] ++ (d2 s ++ ([32, 71, 77, 84] ++ []))))))))) := drop_app x3
  have n4 : a3 + ([32] : List UInt8).length ≤ l.length := drop_le n3 x3
  clear x3 n3
  generalize a3 + ([32] : List UInt8).length = a4 at *
  rw [(tk_nm (k := 2) (mon_to hm x4) x4).1]
  have x5 : l.drop (a4 + ((nms 2).getD m []).length) = [32] ++ (d4 Y ++ ([32] ++ (d2 h ++ ([58] ++ (d2 i ++ ([58] ++ (d2 s ++ ([32, 71, 77, 84] ++ [])))))))) := drop_app x4
  have n5 : a4 + ((nms 2).getD m []).length ≤ l.length := drop_le n4 x4
  clear x4 n4
  generalize a4 + ((nms 2).getD m []).length = a5 at *
  rw [(tk_ex x5).1]
  have x6 : l.drop (a5 + ([32] : List UInt8).length) = d4 Y ++ ([32] ++ (d2 h ++ ([58] ++ (d2 i ++ ([58] ++ (d2 s ++ ([32, 71, 77, 84] ++ []))))))) := drop_app x5
  have n6 : a5 + ([32] : List UInt8).length ≤ l.length := drop_le n5 x5
  clear x5 n5
  generalize a5 + ([32] : List UInt8).length = a6 at *
  rw [(tk_d4 hY x6).1]
  have x7 : l.drop (a6 + 4) = [32] ++ (d2 h ++ ([58] ++ (d2 i ++ ([58] ++ (d2 s ++ ([32, 71, 77, 84] ++ [])))))) := drop_app x6
  have n7 : a6 + 4 ≤ l.length := drop_le n6 x6
  clear x6 n6
  generalize a6 + 4 = a7 at *
  rw [(tk_ex x7).1]
  have x8 : l.drop (a7 + ([32] : List UInt8).length) = d2 h ++ ([58] ++ (d2 i ++ ([58] ++ (d2 s ++ ([32, 71, 77, 84] ++ []))))) := drop_app x7
  have n8 : a7 + ([32] : List UInt8).length ≤ l.length := drop_le n7 x7
  clear x7 n7
  generalize a7 + ([32] : List UInt8).length = a8 at *
  rw [(tk_d2 hh x8).1]
  have x9 : l.drop (a8 + 2) = [58] ++ (d2 i ++ ([58] ++ (d2 s ++ ([32, 71, 77, 84] ++ [])))) := drop_app x8
  have n9 : a8 + 2 ≤ l.length := drop_le n8 x8
  clear x8 n8
  generalize a8 + 2 = a9 at *
  rw [(tk_ex x9).1]
  have x10 : l.drop (a9 + ([58] : List UInt8).length) = d2 i ++ ([58] ++ (d2 s ++ ([32, 71, 77, 84] ++ []))) := drop_app x9
  have n10 : a9 + ([58] : List UInt8).length ≤ l.length := drop_le n9 x9
  clear x9 n9
  generalize a9 + ([58] : List UInt8).length = a10 at *
  rw [(tk_d2 hi x10).1]
  have x11 : l.drop (a10 + 2) = [58] ++ (d2 s ++ ([32, 71, 77, 84] ++ [])) := drop_app x10
  have n11 : a10 + 2 ≤ l.length := drop_le n10 x10
  clear x10 n10
  generalize a10 + 2 = a11 at *
  rw [(tk_ex x11).1]
  have x12 : l.drop (a11 + ([58] : List UInt8).length) = d2 s ++ ([32, 71, 77, 84] ++ []) := drop_app x11
  have n12 : a11 + ([58] : List UInt8).length ≤ l.length := drop_le n11 x11
  clear x11 n11
  generalize a11 + ([58] : List UInt8).length = a12 at *
  rw [(tk_d2 hs x12).1]
  have x13 : l.drop (a12 + 2) = [32, 71, 77, 84] ++ [] := drop_app x12
  have n13 : a12 + 2 ≤ l.length := drop_le n12 x12
  clear x12 n12
  generalize a12 + 2 = a13 at *
  rw [(tk_ex x13).1]
  have x14 : l.drop (a13 + ([32, 71, 77, 84] : List UInt8).length) = [] := drop_app x13
  have n14 : a13 + ([32, 71, 77, 84] : List UInt8).length ≤ l.length := drop_le n13 x13
  clear x13 n13
  rw [takes_nil, drop_len n14 x14]
  exact ⟨_, _, _, _, _, _, _, rfl⟩

theorem takes_F' {l : List UInt8} {e : Nat} {st : List Int} (h : takes l tkF 0 z14 = .ok (e, st)) (he : e = l.length) :
    ∃ (Y m h i s k d : Nat) (p0 p1 q2 p3 p4 p5 p6 : Int), Y < 10000 ∧ m < 12 ∧ d < 100 ∧ h < 100 ∧ i < 100 ∧ s < 100 ∧ k < 7 ∧ st = [(k : Int), p0, (d : Int), p1, (m : Int), q2, (Y : Int), p3, (h : Int), p4, (i : Int), p5, (s : Int), p6] ∧ l = shorts.getD k [] ++ ([44, 32] ++ (d2 d ++ ([32] ++ (mons.getD m [] ++ ([32] ++ (d4 Y ++ ([32] ++ (d2 h ++ ([58] ++ (d2 i ++ ([58] ++ (d2 s ++ ([32, 71, 77, 84] ++ []))))))))))))) := by
  unfold tkF at h
  obtain ⟨a1, k, hk, x0, h⟩ := un_nm h
  obtain ⟨a2, x1, h⟩ := un_ex h
  obtain ⟨a3, d, hd, x2, h⟩ := un_d2 h
  obtain ⟨a4, x3, h⟩ := un_ex h
  obtain ⟨a5, m, hm, x4, h⟩ := un_nm h
  obtain ⟨a6, x5, h⟩ := un_ex h
  obtain ⟨a7, Y, hY, x6, h⟩ := un_d4 h
  obtain ⟨a8, x7, h⟩ := un_ex h
  obtain ⟨a9, hr, hh, x8, h⟩ := un_d2 h
  obtain ⟨a10, x9, h⟩ := un_ex h
  obtain ⟨a11, i, hi, x10, h⟩ := un_d2 h
  obtain ⟨a12, x11, h⟩ := un_ex h
  obtain ⟨a13, s, hs, x12, h⟩ := un_d2 h
  obtain ⟨a14, x13, h⟩ := un_ex h
  rw [takes_nil] at h
  cases h
  have xe : l.drop e = [] := List.drop_eq_nil_iff.2 (by omega)
  rw [xe] at x13
  rw [x13] at x12
  rw [x12] at x11
  rw [x11] at x10
  rw [x10] at x9
  rw [x9] at x8
  rw [x8] at x7
  rw [x7] at x6
  rw [x6] at x5
  rw [x5] at x4
  rw [x4] at x3
  rw [x3] at x2
  rw [x2] at x1
  rw [x1] at x0
  exact ⟨Y, m, hr, i, s, k, d, _, _, _, _, _, _, _, hY, hm, hd, hh, hi, hs, hk, rfl, x0⟩

theorem takes_L {l : List UInt8} {Y m h i s k d : Nat} (hY : Y < 100) (hm : m < 12) (hd : d < 100) (hh : h < 100) (hi : i < 100) (hs : s < 100) (hk : k < 7)
    (x0 : l = longs.getD k [] ++ ([44, 32] ++ (d2 d ++ ([45] ++ (mons.getD m [] ++ ([45] ++ (d2 Y ++ ([32] ++ (d2 h ++ ([58] ++ (d2 i ++ ([58] ++ (d2 s ++ ([32, 71, 77, 84] ++ [])))))))))))))) :
    ∃ p0 p1 q2 p3 p4 p5 p6 : Int, takes l tkL 0 z14 = .ok (l.length, [(k : Int), p0, (d : Int), p1, (m : Int), q2, (Y : Int), p3, (h : Int), p4, (i : Int), p5, (s : Int), p6]) := by
  have x0 : l.drop 0 = longs.getD k [] ++ ([44, 32] ++ (d2 d ++ ([45] ++ (mons.getD m [] ++ ([45] ++ (d2 Y ++ ([32] ++ (d2 h ++ ([58] ++ (d2 i ++ ([58] ++ (d2 s ++ ([32, 71, 77, 84] ++ []))))))))))))) := x0
  have n0 : 0 ≤ l.length := Nat.zero_le _
  unfold tkL
  rw [(tk_nm (k := 1) (long_to hk x0) x0).1]
  have x1 : l.drop (0 + ((nms 1).getD k []).length) = [44, 32] ++ (d2 d ++ ([45] ++ (mons.getD m [] ++ ([45] ++ (d2 Y ++ ([32] ++ (d2 h ++ ([58] ++ (d2 i ++ ([58] ++ (d2 s ++ ([32, 71, 77, 84] ++ [])))))))))))) := drop_app x0
  have n1 : 0 + ((nms 1).getD k []).length ≤ l.length := drop_le n0 x0
  clear x0 n0
  generalize 0 + ((nms 1).getD k []).length = a1 at *
  rw [(tk_ex x1).1]
  have x2 : l.drop (a1 + ([44, 32] : List UInt8).length) = d2 d ++ ([45] ++ (mons.getD m [] ++ ([45] ++ (d2 Y ++ ([32] ++ (d2 h ++ ([58] ++ (d2 i ++ ([58] ++ (d2 s ++ ([32, 71, 77, 84] ++ []))))))))))) := drop_app x1
  have n2 : a1 + ([44, 32] : List UInt8).length ≤ l.length := drop_le n1 x1
  clear x1 n1
  generalize a1 + ([44, 32] : List UInt8).length = a2 at *
  rw [(tk_d2 hd x2).1]
  have x3 : l.drop (a2 + 2) = [45] ++ (mons.getD m [] ++ ([45] ++ (d2 Y ++ ([32] ++ (d2 h ++ ([58] ++ (d2 i ++ ([58] ++ (d2 s ++ ([32, 71, 77, 84] ++ [])))))))))) := drop_app x2
  have n3 : a2 + 2 ≤ l.length := drop_le n2 x2
  clear x2 n2
  generalize a2 + 2 = a3 at *
  rw [(tk_ex x3).1]
  have x4 : l.drop (a3 + ([45] : List UInt8).length) = mons.getD m [] ++ ([45] ++ (d2 Y ++ ([32] ++ (d2 h ++ ([58] ++ (d2 i ++ ([58] ++ (d2 s ++ ([32, 71, 77, 84] ++ []))))))))) := drop_app x3
  have n4 : a3 + ([45] : List UInt8).length ≤ l.length := drop_le n3 x3
  clear x3 n3
  generalize a3 + ([45] : List UInt8).length = a4 at *
  rw [(tk_nm (k := 2) (mon_to hm x4) x4).1]
  have x5 : l.drop (a4 + ((nms 2).getD m []).length) = [45] ++ (d2 Y ++ ([32] ++ (d2 h ++ ([58] ++ (d2 i ++ ([58] ++ (d2 s ++ ([32, 71, 77, 84] ++ [])))))))) := drop_app x4
  have n5 : a4 + ((nms 2).getD m []).length ≤ l.length := drop_le n4 x4
  clear x4 n4
  generalize a4 + ((nms 2).getD m []).length = a5 at *
  rw [(tk_ex x5).1]
  have x6 : l.drop (a5 + ([45] : List UInt8).length) = d2 Y ++ ([32] ++ (d2 h ++ ([58] ++ (d2 i ++ ([58] ++ (d2 s ++ ([32, 71, 77, 84] ++ []))))))) := drop_app x5
  have n6 : a5 + ([45] : List UInt8).length ≤ l.length := drop_le n5 x5
  clear x5 n5
  generalize a5 + ([45] : List UInt8).length = a6 at *
  rw [(tk_d2 hY x6).1]
  have x7 : l.drop (a6 + 2) = [32] ++ (d2 h ++ ([58] ++ (d2 i ++ ([58] ++ (d2 s ++ ([32, 71, 77, 84] ++ [])))))) := drop_app x6
  have n7 : a6 + 2 ≤ l.length := drop_le n6 x6
  clear x6 n6
  generalize a6 + 2 = a7 at *
  rw [(tk_ex x7).1]
  have x8 : l.drop (a7 + ([32] : List UInt8).length) = d2 h ++ ([58] ++ (d2 i ++ ([58] ++ (d2 s ++ ([32, 71, 77, 84] ++ []))))) := drop_app x7
  have n8 : a7 + ([32] : List UInt8).length ≤ l.length := drop_le n7 x7
  clear x7 n7
  generalize a7 + ([32] : List UInt8).length = a8 at *
  rw [(tk_d2 hh x8).1]
  have x9 : l.drop (a8 + 2) = [58] ++ (d2 i ++ ([58] ++ (d2 s ++ ([32, 71, 77, 84] ++ [])))) := drop_app x8
  have n9 : a8 + 2 ≤ l.length := drop_le n8 x8
  clear x8 n8
  generalize a8 + 2 = a9 at *
  rw [(tk_ex x9).1]
  have x10 : l.drop (a9 + ([58] : List UInt8).length) = d2 i ++ ([58] ++ (d2 s ++ ([32, 71, 77, 84] ++ []))) := drop_app x9
  have n10 : a9 + ([58] : List UInt8).length ≤ l.length := drop_le n9 x9
  clear x9 n9
  generalize a9 + ([58] : List UInt8).length = a10 at *
  rw [(tk_d2 hi x10).1]
  have x11 : l.drop (a10 + 2) = [58] ++ (d2 s ++ ([32, 71, 77, 84] ++ [])) := drop_app x10
  have n11 : a10 + 2 ≤ l.length := drop_le n10 x10
  clear x10 n10
  generalize a10 + 2 = a11 at *
  rw [(tk_ex x11).1]
  have x12 : l.drop (a11 + ([58] : List UInt8).length) = d2 s ++ ([32, 71, 77, 84] ++ []) := drop_app x11
  have n12 : a11 + ([58] : List UInt8).length ≤ l.length := drop_le n11 x11
  clear x11 n11
  generalize a11 + ([58] : List UInt8).length = a12 at *
  rw [(tk_d2 hs x12).1]
  have x13 : l.drop (a12 + 2) = [32, 71, 77, 84] ++ [] := drop_app x12
  have n13 : a12 + 2 ≤ l.length := drop_le n12 x12
  clear x12 n12
  generalize a12 + 2 = a13 at *
  rw [(tk_ex x13).1]
  have x14 : l.drop (a13 + ([32, 71, 77, 84] : List UInt8).length) = [] := drop_app x13
  have n14 : a13 + ([32, 71, 77, 84] : List UInt8).length ≤ l.length := drop_le n13 x13
  clear x13 n13
  rw [takes_nil, drop_len n14 x14]
  exact ⟨_, _, _, _, _, _, _, rfl⟩

theorem takes_L' {l : List UInt8} {e : Nat} {st : List Int} (h : takes l tkL 0 z14 = .ok (e, st)) (he : e = l.length) :
    ∃ (Y m h i s k d : Nat) (p0 p1 q2 p3 p4 p5 p6 : Int), Y < 100 ∧ m < 12 ∧ d < 100 ∧ h < 100 ∧ i < 100 ∧ s < 100 ∧ k < 7 ∧ st = [(k : Int), p0, (d : Int), p1, (m : Int), q2, (Y : Int), p3, (h : Int), p4, (i : Int), p5, (s : Int), p6] ∧ l = longs.getD k [] ++ ([44, 32] ++ (d2 d ++ ([45] ++ (mons.getD m [] ++ ([45] ++ (d2 Y ++ ([32] ++ (d2 h ++ ([58] ++ (d2 i ++ ([58] ++ (d2 s ++ ([32, 71, 77, 84] ++ []))))))))))))) := by
  unfold tkL at h
  obtain ⟨a1, k, hk, x0, h⟩ := un_nm h
  obtain ⟨a2, x1, h⟩ := un_ex h
  obtain ⟨a3, d, hd, x2, h⟩ := un_d2 h
  obtain ⟨a4, x3, h⟩ := un_ex h
  obtain ⟨a5, m, hm, x4, h⟩ := un_nm h
  obtain ⟨a6, x5, h⟩ := un_ex h
  obtain ⟨a7, Y, hY, x6, h⟩ := un_d2 h
  obtain ⟨a8, x7, h⟩ := un_ex h
  obtain ⟨a9, hr, hh, x8, h⟩ := un_d2 h
  obtain ⟨a10, x9, h⟩ := un_ex h
  obtain ⟨a11, i, hi, x10, h⟩ := un_d2 h
  obtain ⟨a12, x11, h⟩ := un_ex h
  obtain ⟨a13, s, hs, x12, h⟩ := un_d2 h
  obtain ⟨a14, x13, h⟩ := un_ex h
  rw [takes_nil] at h
  cases h
  have xe : l.drop e = [] := List.drop_eq_nil_iff.2 (by omega)
  rw [xe] at x13
  rw [x13] at x12
  rw [x12] at x11
  rw [x11] at x10
  rw [x10] at x9
  rw [x9] at x8
  rw [x8] at x7
  rw [x7] at x6
  rw [x6] at x5
  rw [x5] at x4
  rw [x4] at x3
  rw [x3] at x2
  rw [x2] at x1
  rw [x1] at x0
  exact ⟨Y, m, hr, i, s, k, d, _, _, _, _, _, _, _, hY, hm, hd, hh, hi, hs, hk, rfl, x0⟩

theorem takes_P {l : List UInt8} {Y m h i s k d : Nat} {dt : List UInt8} (hY : Y < 10000) (hm : m < 12) (hd : d < 100) (hh : h < 100) (hi : i < 100) (hs : s < 100) (hk : k < 7) (hdt : DayT 2 d dt)
    (x0 : l = shorts.getD k [] ++ ([32] ++ (mons.getD m [] ++ ([32] ++ (dt ++ ([32] ++ (d2 h ++ ([58] ++ (d2 i ++ ([58] ++ (d2 s ++ ([32] ++ (d4 Y ++ []))))))))))))) :
    ∃ p0 p1 q2 p3 p4 p5 p6 : Int, takes l tkP 0 z14 = .ok (l.length, [(k : Int), p0, (d : Int), p1, (m : Int), q2, (Y : Int), p3, (h : Int), p4, (i : Int), p5, (s : Int), p6]) := by
  have x0 : l.drop 0 = shorts.getD k [] ++ ([32] ++ (mons.getD m [] ++ ([32] ++ (dt ++ ([32] ++ (d2 h ++ ([58] ++ (d2 i ++ ([58] ++ (d2 s ++ ([32] ++ (d4 Y ++ [])))))))))))) := x0
  have n0 : 0 ≤ l.length := Nat.zero_le _
  unfold tkP
  have hdt' : ∀ {a : Nat} {r : List UInt8}, l.drop a = dt ++ r → l.drop a = p2 32 d ++ r ∨ l.drop a = d2 d ++ r := fun {a r} e => by
    rcases hdt with rfl | ⟨_, h10, rfl⟩
    · exact .inr e
    · exact .inl (by rw [e]; unfold p2; rw [if_pos h10])
  have hdl : dt.length = 2 := by
    rcases hdt with rfl | ⟨_, h10, rfl⟩ <;> rfl
  rw [(tk_nm (k := 0) (short_to hk x0) x0).1]
  have x1 : l.drop (0 + ((nms 0).getD k []).length) = [32] ++ (mons.getD m [] ++ ([32] ++ (dt ++ ([32] ++ (d2 h ++ ([58] ++ (d2 i ++ ([58] ++ (d2 s ++ ([32] ++ (d4 Y ++ []))))))))))) := drop_app x0
  have n1 : 0 + ((nms 0).getD k []).length ≤ l.length := drop_le n0 x0
  clear x0 n0
  generalize 0 + ((nms 0).getD k []).length = a1 at *
  rw [(tk_ex x1).1]
  have x2 : l.drop (a1 + ([32] : List UInt8).length) = mons.getD m [] ++ ([32] ++ (dt ++ ([32] ++ (d2 h ++ ([58] ++ (d2 i ++ ([58] ++ (d2 s ++ ([32] ++ (d4 Y ++ [])))))))))) := drop_app x1
  have n2 : a1 + ([32] : List UInt8).length ≤ l.length := drop_le n1 x1
  clear x1 n1
  generalize a1 + ([32] : List UInt8).length = a2 at *
  rw [(tk_nm (k := 2) (mon_to hm x2) x2).1]
  have x3 : l.drop (a2 + ((nms 2).getD m []).length) = [32] ++ (dt ++ ([32] ++ (d2 h ++ ([58] ++ (d2 i ++ ([58] ++ (d2 s ++ ([32] ++ (d4 Y ++ []))))))))) := drop_app x2
  have n3 : a2 + ((nms 2).getD m []).length ≤ l.length := drop_le n2 x2
  clear x2 n2
  generalize a2 + ((nms 2).getD m []).length = a3 at *
  rw [(tk_ex x3).1]
  have x4 : l.drop (a3 + ([32] : List UInt8).length) = dt ++ ([32] ++ (d2 h ++ ([58] ++ (d2 i ++ ([58] ++ (d2 s ++ ([32] ++ (d4 Y ++ [])))))))) := drop_app x3
  have n4 : a3 + ([32] : List UInt8).length ≤ l.length := drop_le n3 x3
  clear x3 n3
  generalize a3 + ([32] : List UInt8).length = a4 at *
  rw [(tk_lo hd (hdt' x4)).1]
  have x5 := drop_app x4
  have n5 := drop_le n4 x4
  rw [hdl] at x5 n5
  clear x4 n4
  generalize a4 + 2 = a5 at *
  rw [(tk_ex x5).1]
  have x6 : l.drop (a5 + ([32] : List UInt8).length) = d2 h ++ ([58] ++ (d2 i ++ ([58] ++ (d2 s ++ ([32] ++ (d4 Y ++ [])))))) := drop_app x5
  have n6 : a5 + ([32] : List UInt8).length ≤ l.length := drop_le n5 x5
  clear x5 n5
  generalize a5 + ([32] : List UInt8).length = a6 at *
  rw [(tk_d2 hh x6).1]
  have x7 : l.drop (a6 + 2) = [58] ++ (d2 i ++ ([58] ++ (d2 s ++ ([32] ++ (d4 Y ++ []))))) := drop_app x6
  have n7 : a6 + 2 ≤ l.length := drop_le n6 x6
  clear x6 n6
  generalize a6 + 2 = a7 at *
  rw [(tk_ex x7).1]
  have x8 : l.drop (a7 + ([58] : List UInt8).length) = d2 i ++ ([58] ++ (d2 s ++ ([32] ++ (d4 Y ++ [])))) := drop_app x7
  have n8 : a7 + ([58] : List UInt8).length ≤ l.length := drop_le n7 x7
  clear x7 n7
  generalize a7 + ([58] : List UInt8).length = a8 at *
  rw [(tk_d2 hi x8).1]
  have x9 : l.drop (a8 + 2) = [58] ++ (d2 s ++ ([32] ++ (d4 Y ++ []))) := drop_app x8
  have n9 : a8 + 2 ≤ l.length := drop_le n8 x8
  clear x8 n8
  generalize a8 + 2 = a9 at *
  rw [(tk_ex x9).1]
  have x10 : l.drop (a9 + ([58] : List UInt8).length) = d2 s ++ ([32] ++ (d4 Y ++ [])) := drop_app x9
  have n10 : a9 + ([58] : List UInt8).length ≤ l.length := drop_le n9 x9
  clear x9 n9
  generalize a9 + ([58] : List UInt8).length = a10 at *
  rw [(tk_d2 hs x10).1]
  have x11 : l.drop (a10 + 2) = [32] ++ (d4 Y ++ []) := drop_app x10
  have n11 : a10 + 2 ≤ l.length := drop_le n10 x10
  clear x10 n10
  generalize a10 + 2 = a11 at *
  rw [(tk_ex x11).1]
  have x12 : l.drop (a11 + ([32] : List UInt8).length) = d4 Y ++ [] := drop_app x11
  have n12 : a11 + ([32] : List UInt8).length ≤ l.length := drop_le n11 x11
  clear x11 n11
  generalize a11 + ([32] : List UInt8).length = a12 at *
  rw [(tk_d4 hY x12).1]
  have x13 : l.drop (a12 + 4) = [] := drop_app x12
  have n13 : a12 + 4 ≤ l.length := drop_le n12 x12
  clear x12 n12
  rw [takes_nil, drop_len n13 x13]
  exact ⟨_, _, _, _, _, _, _, rfl⟩

theorem takes_P' {l : List UInt8} {e : Nat} {st : List Int} (h : takes l tkP 0 z14 = .ok (e, st)) (he : e = l.length) :
    ∃ (Y m h i s k d : Nat) (dt : List UInt8) (p0 p1 q2 p3 p4 p5 p6 : Int), Y < 10000 ∧ m < 12 ∧ d < 100 ∧ h < 100 ∧ i < 100 ∧ s < 100 ∧ k < 7 ∧ DayT 2 d dt ∧ st = [(k : Int), p0, (d : Int), p1, (m : Int), q2, (Y : Int), p3, (h : Int), p4, (i : Int), p5, (s : Int), p6] ∧ l = shorts.getD k [] ++ ([32] ++ (mons.getD m [] ++ ([32] ++ (dt ++ ([32] ++ (d2 h ++ ([58] ++ (d2 i ++ ([58] ++ (d2 s ++ ([32] ++ (d4 Y ++ [])))))))))))) := by
  unfold tkP at h
  obtain ⟨a1, k, hk, x0, h⟩ := un_nm h
  obtain ⟨a2, x1, h⟩ := un_ex h
  obtain ⟨a3, m, hm, x2, h⟩ := un_nm h
  obtain ⟨a4, x3, h⟩ := un_ex h
  obtain ⟨a5, d, dt, hd, hdt, x4, h⟩ := un_lo h
  obtain ⟨a6, x5, h⟩ := un_ex h
  obtain ⟨a7, hr, hh, x6, h⟩ := un_d2 h
  obtain ⟨a8, x7, h⟩ := un_ex h
  obtain ⟨a9, i, hi, x8, h⟩ := un_d2 h
  obtain ⟨a10, x9, h⟩ := un_ex h
  obtain ⟨a11, s, hs, x10, h⟩ := un_d2 h
  obtain ⟨a12, x11, h⟩ := un_ex h
  obtain ⟨a13, Y, hY, x12, h⟩ := un_d4 h
  rw [takes_nil] at h
  cases h
  have xe : l.drop e = [] := List.drop_eq_nil_iff.2 (by omega)
  rw [xe] at x12
  rw [x12] at x11
  rw [x11] at x10
  rw [x10] at x9
  rw [x9] at x8
  rw [x8] at x7
  rw [x7] at x6
  rw [x6] at x5
  rw [x5] at x4
  rw [x4] at x3
  rw [x3] at x2
  rw [x2] at x1
  rw [x1] at x0
  exact ⟨Y, m, hr, i, s, k, d, dt, _, _, _, _, _, _, _, hY, hm, hd, hh, hi, hs, hk, hdt, rfl, x0⟩

end Bs
end Go.Proofs.YtjngpafokkjkdaaGreatDoor
