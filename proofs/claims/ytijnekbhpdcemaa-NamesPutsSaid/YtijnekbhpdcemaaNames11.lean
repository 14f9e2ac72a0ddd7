/- Facts on lists of names that were put, and on the sorted numbers. -/
import Derived.Test.YtijnekbhpdcemaaNames9
namespace Go.Proofs.Ytijnekbhpdcemaa
open Go.RowKit Go.Maps Go.Sort
set_option linter.unusedVariables false

theorem place_app {L t : List ByteArray} {s : ByteArray} (h : place L s < L.length) : place (L ++ t) s = place L s := by
  unfold place at *
  rw [List.findIdx_append, if_pos h]

theorem foldl_pref (rest : List ByteArray) : ∀ L : List ByteArray, ∃ t, rest.foldl putS L = L ++ t := by
  induction rest with
  | nil => intro L; exact ⟨[], by simp⟩
  | cons s rest ih =>
    intro L
    obtain ⟨t, ht⟩ := ih (putS L s)
    rw [List.foldl_cons, ht]
    unfold putS
    split
    · exact ⟨t, rfl⟩
    · exact ⟨[s] ++ t, by simp⟩

theorem place_putS (L : List ByteArray) (s : ByteArray) : place (putS L s) s = place L s ∧ place (putS L s) s < (putS L s).length := by
  by_cases h : place L s < L.length
  · rw [putS_in h]; exact ⟨rfl, h⟩
  · rw [putS_new h, place_snoc h, if_neg h, if_pos rfl, place_new h]
    exact ⟨rfl, by simp⟩

theorem idx_put (L : List ByteArray) (s : ByteArray) (rest : List ByteArray) : idx (rest.foldl putS (putS L s)) s = (place L s : Nat) := by
  obtain ⟨t, ht⟩ := foldl_pref rest (putS L s)
  obtain ⟨h1, h2⟩ := place_putS L s
  rw [ht]
  unfold idx
  rw [place_app h2, if_pos (by simp; omega), h1]

theorem putS_len (L : List ByteArray) (s : ByteArray) : (putS L s).length ≤ L.length + 1 := by
  unfold putS; split <;> simp
theorem foldl_len (rest : List ByteArray) : ∀ L : List ByteArray, (rest.foldl putS L).length ≤ L.length + rest.length := by
  induction rest with
  | nil => intro L; simp
  | cons s rest ih =>
    intro L
    rw [List.foldl_cons]
    have := ih (putS L s)
    have := putS_len L s
    simp; omega

theorem putS_nodup {L : List ByteArray} (s : ByteArray) (h : L.Nodup) : (putS L s).Nodup := by
  unfold putS
  split
  · exact h
  · rename_i hp
    rw [place_lt] at hp
    rw [List.nodup_append]
    refine ⟨h, by simp, ?_⟩
    intro a ha b hb
    simp at hb
    subst hb
    rintro rfl
    exact hp ha
theorem foldl_nodup (rest : List ByteArray) : ∀ L : List ByteArray, L.Nodup → (rest.foldl putS L).Nodup := by
  induction rest with
  | nil => intro L h; exact h
  | cons s rest ih => intro L h; exact ih _ (putS_nodup s h)

theorem ext_all {α : Type} (d : Array α) (n : Nat) (h : d.size = n) : d.extract 0 n = d := by subst h; simp
theorem perm_of {m : Nat} {d : Array (Fin (m + 1))} (hd : d.size = m + 1) (hp : PermIn 0 (m + 1) (Array.ofFn (fun i : Fin (m + 1) => i)) d) : d.toList.Perm (List.ofFn (fun i : Fin (m + 1) => i)) := by
  obtain ⟨_, _, h⟩ := hp
  rw [ext_all d _ hd, ext_all (Array.ofFn (fun i : Fin (m + 1) => i)) (m + 1) (by simp), Array.toList_ofFn] at h
  exact h

theorem nums_inj {m : Nat} {d : Array (Fin (m + 1))} (hd : d.size = m + 1) (hp : PermIn 0 (m + 1) (Array.ofFn (fun i : Fin (m + 1) => i)) d) {i j : Nat} (hi : i < j) (hj : j < m + 1) : d[i]!.val ≠ d[j]!.val := by
  have hn : (List.ofFn (fun i : Fin (m + 1) => i)).Nodup := by
    rw [List.nodup_iff_pairwise_ne, List.pairwise_iff_getElem]
    intro a b ha hb hab
    rw [List.getElem_ofFn, List.getElem_ofFn]
    intro h
    have := Fin.mk.inj h
    omega
  have h2 := (perm_of hd hp).nodup_iff.2 hn
  rw [List.nodup_iff_pairwise_ne, List.pairwise_iff_getElem] at h2
  have h3 := h2 i j (by simp; omega) (by simp; omega) hi
  intro h4
  apply h3
  rw [getElem!_pos d i (by omega), getElem!_pos d j (by omega)] at h4
  simpa using Fin.ext h4

theorem sorted_less (L : List ByteArray) {m : Nat} {d : Array (Fin (m + 1))} (hL : L.length = m + 1) (hnd : L.Nodup) (hd : d.size = m + 1) (hp : PermIn 0 (m + 1) (Array.ofFn (fun i : Fin (m + 1) => i)) d) (hs : SortedIn (ltOf (cmpN L m)) 0 (m + 1) d) {i : Nat} (hi : i + 1 < m + 1) :
    Op.bytesLess (L.getD d[i]!.val ByteArray.empty).toList (L.getD d[i + 1]!.val ByteArray.empty).toList = true := by
  have h1 := hs i (i + 1) (Nat.zero_le _) (by omega) hi
  change decide (cmpS _ _ < 0) = false at h1
  rw [lt_cmpS, decide_eq_false_iff_not] at h1
  have hne := nums_inj hd hp (show i < i + 1 by omega) hi
  generalize d[i]! = x at h1 hne ⊢
  generalize d[i + 1]! = y at h1 hne ⊢
  have hx := x.isLt
  have hy := y.isLt
  have e : (L.getD x.val ByteArray.empty).toList ≠ (L.getD y.val ByteArray.empty).toList := by
    intro h
    have h2 := teq.1 (beq_iff_eq.2 h)
    rw [getD_of (by omega), getD_of (by omega)] at h2
    exact hne ((List.getElem_inj hnd).1 h2)
  rw [bytesLess_eq, decide_eq_true_iff]
  apply Classical.byContradiction
  intro h3
  rw [List.not_lt] at h1 h3
  exact e (List.le_antisymm h1 h3)

theorem nums_getD {m : Nat} {d : Array (Fin (m + 1))} (hd : d.size = m + 1) {i : Nat} (hi : i < m + 1) : (NumsOf m d).getD i 0 = (d[i]!.val : Nat) := by
  unfold NumsOf
  rw [List.getD_eq_getElem?_getD, List.getElem?_map, List.getElem?_eq_getElem (by simp; omega), getElem!_pos d i (by omega)]
  rfl

end Go.Proofs.Ytijnekbhpdcemaa
