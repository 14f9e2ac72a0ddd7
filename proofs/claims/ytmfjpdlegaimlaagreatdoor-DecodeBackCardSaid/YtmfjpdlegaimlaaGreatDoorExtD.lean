/- The small machine at this program: these functions of the library tell so. -/
import Derived.Test.YtmfjpdlegaimlaaGreatDoorExtD0
import Derived.Test.YtmfjpdlegaimlaaGreatDoorShelfD
import Derived.Lib.SplitLaws
namespace Go.Proofs.YtmfjpdlegaimlaaGreatDoor
open Go.RowKit
set_option linter.unusedVariables false
set_option linter.unusedSimpArgs false
theorem preL_eq : ∀ (p s : List UInt8), preL p s = p.isPrefixOf s
  | [], s => by cases s <;> rfl
  | x :: p, [] => rfl
  | x :: p, y :: s => by
    show cond (Nat.beq x.toNat y.toNat) (preL p s) false = (x == y && p.isPrefixOf s)
    rw [preL_eq p s]
    by_cases h : x = y
    · subst h
      rw [Nat.beq_refl, cond_t]; simp
    · have h1 : Nat.beq x.toNat y.toNat = false := by
        cases e : Nat.beq x.toNat y.toNat with
        | false => rfl
        | true => exact absurd (UInt8.toNat_inj.1 (Nat.eq_of_beq_eq_true e)) h
      have h2 : (x == y) = false := by simpa using h
      rw [h1, h2]; rfl
theorem idxL_eq (sub : List UInt8) (hs : sub ≠ []) : ∀ (s : List UInt8) (i : Nat), idxL sub s i = if Lib.index s sub = -1 then none else some (i + (Lib.index s sub).toNat)
  | [], i => by
    have : Lib.index [] sub = -1 := by
      unfold Lib.index
      cases sub with
      | nil => exact absurd rfl hs
      | cons a r => rfl
    rw [if_pos this]; rfl
  | b :: l, i => by
    show cond (preL sub (b :: l)) (some i) (idxL sub l (Nat.succ i)) = _
    rw [preL_eq, idxL_eq sub hs l (Nat.succ i)]
    have hge := Lib.index_ge l sub
    have he : Lib.index (b :: l) sub = if sub.isPrefixOf (b :: l) then 0 else if Lib.index l sub == -1 then -1 else Lib.index l sub + 1 := by rw [Lib.index]
    cases hp : sub.isPrefixOf (b :: l) with
    | true =>
      have : Lib.index (b :: l) sub = 0 := by rw [he, if_pos hp]
      rw [this]; rfl
    | false =>
      show (if Lib.index l sub = -1 then none else some (Nat.succ i + (Lib.index l sub).toNat)) = _
      by_cases h1 : Lib.index l sub = -1
      · have : Lib.index (b :: l) sub = -1 := by rw [he, hp]; simp [h1]
        rw [if_pos h1, if_pos this]
      · have : Lib.index (b :: l) sub = Lib.index l sub + 1 := by rw [he, hp]; simp [h1]
        rw [if_neg h1, this, if_neg (by omega)]
        congr 1
        omega
theorem splitG_eq (sep : List UInt8) (hs : sep ≠ []) : ∀ (f : Nat) (s : List UInt8), s.length ≤ f → splitG sep f s = Lib.splitK sep 0 (Lib.count s sep) s
  | 0, s, h => by
    obtain rfl : s = [] := List.eq_nil_of_length_eq_zero (by omega)
    have : Lib.index [] sep = -1 := by
      unfold Lib.index
      cases sep with
      | nil => exact absurd rfl hs
      | cons a r => rfl
    rw [Lib.count_miss this]; rfl
  | f + 1, s, h => by
    show Option.rec (motive := fun _ => List (List UInt8)) [s] (fun i => takeN i s :: splitG sep f (dropN (Nat.add i (lenL sep)) s)) (idxL sep s 0) = _
    rw [idxL_eq sep hs]
    have hge := Lib.index_ge s sep
    by_cases h1 : Lib.index s sep = -1
    · rw [if_pos h1, Lib.count_miss h1]; rfl
    · rw [if_neg h1]
      have e : Lib.index s sep = ((Lib.index s sep).toNat : Int) := by omega
      have hsh := Lib.drop_shorter hs (by simpa using h1)
      rw [Lib.count_hit hs e, Nat.add_comm 1]
      show takeN (0 + (Lib.index s sep).toNat) s :: splitG sep f (dropN (Nat.add (0 + (Lib.index s sep).toNat) (lenL sep)) s) = _
      rw [Lib.splitK, if_neg (by simpa using h1), Nat.zero_add, takeN_eq, dropN_eq, lenL_eq]
      show _ :: splitG sep f (s.drop ((Lib.index s sep).toNat + sep.length)) = _
      rw [splitG_eq sep hs f _ (by omega)]
      simp
theorem decG_eq : ∀ (l : List UInt8) (n m : Nat), decG l n = some m → Lib.decFrom n l = some m
  | [], n, m, h => h
  | b :: l, n, m, h => by
    have h : cond (Nat.ble 48 b.toNat && Nat.ble b.toNat 57) (forceN (Nat.add (Nat.mul n 10) (Nat.sub b.toNat 48)) (decG l)) none = some m := h
    rcases cond_split h with ⟨h1, h2⟩ | ⟨_, h2⟩
    · obtain ⟨h3, h4⟩ := and_split h1
      have h3 := of_ble h3
      have h4 := of_ble h4
      rw [forceN_eq] at h2
      have hd : Lib.digitVal b = some (b.toNat - 48) := by unfold Lib.digitVal; rw [if_pos ⟨h3, h4⟩]
      rw [Lib.decFrom, hd]
      exact decG_eq l _ _ h2
    · cases h2
theorem atoi_of {l : List UInt8} {m : Nat} (h1 : 1 ≤ l.length) (h : decG l 0 = some m) : Lib.atoi l = some (m : Int) := by
  cases l with
  | nil => simp at h1
  | cons b r =>
    have hd : 48 ≤ b.toNat ∧ b.toNat ≤ 57 := by
      have h : cond (Nat.ble 48 b.toNat && Nat.ble b.toNat 57) (forceN (Nat.add (Nat.mul 0 10) (Nat.sub b.toNat 48)) (decG r)) none = some m := h
      rcases cond_split h with ⟨h1, h2⟩ | ⟨_, h2⟩
      · exact ⟨of_ble (and_split h1).1, of_ble (and_split h1).2⟩
      · cases h2
    have n45 : (b == 45) = false := by
      cases e : b == 45 with
      | false => rfl
      | true => have := beq_iff_eq.1 e; subst this; exact absurd hd.1 (by decide)
    have n43 : (b == 43) = false := by
      cases e : b == 43 with
      | false => rfl
      | true => have := beq_iff_eq.1 e; subst this; exact absurd hd.1 (by decide)
    have := decG_eq (b :: r) 0 m h
    simp only [Lib.atoi, n45, n43, Lib.decNat, List.isEmpty_cons, this]
    rfl
theorem below_bytes (w : World) (e : TypeId) (s : ByteArray) : Below w.heap.size w (Lib.bytesWorld w e s) :=
  ⟨rfl, rfl, rfl, by rw [Lib.bytesWorld_size]; omega, fun r hr => Lib.bytesWorld_at_old w e s r hr⟩
theorem below_draws (w : World) (n : Nat) : Below w.heap.size w (w.drewN n) := ⟨rfl, rfl, rfl, Nat.le_refl _, fun _ _ => rfl⟩
section
variable {w0 : World}
theorem toList_length (s : ByteArray) : s.data.toList.length = s.size := rfl
theorem xd_ok (hE : Env w0) : letI : Inhabited Base := ⟨baseOf w0⟩; XOk Tryz.prog XD := by
  letI : Inhabited Base := ⟨baseOf w0⟩
  intro f k hk args H v H' h β w args' hw hr hl
  have hrow : ∀ (r : Nat) (o : Obj), w0.heap[r]? = some o → w.heap[r]? = some o := fun r o e => hr.fix r o e
  have hEw := env_row hE hrow
  obtain ⟨mx, hmx⟩ := hEw.max
  unfold XD at hk
  rcases cond_split hk with ⟨h1, h2⟩ | ⟨_, hk⟩
  · have h1 := of_beq h1
    subst h1
    cases h2
    unfold cutS at h
    split at h
    · rename_i s sep
      rcases cond_split h with ⟨h3, h4⟩ | ⟨_, h4⟩
      · obtain ⟨h5, h6⟩ := and_split h3
        have h5 := of_ble h5
        have h6 := of_ble h6
        rw [lenL_eq] at h5 h6
        have hne : sep.data.toList ≠ [] := fun e => by rw [e] at h5; simp at h5
        have hc := Tryz.strings_Cut s sep mx w (by rw [toList_length] at h6; omega) hmx
        rw [idxL_eq _ hne] at h4
        have hge := Lib.index_ge s.data.toList sep.data.toList
        have hv : v = .tuple #[.string ⟨(Lib.cut s.data.toList sep.data.toList).1.toArray⟩, .string ⟨(Lib.cut s.data.toList sep.data.toList).2.1.toArray⟩, .bool (Lib.cut s.data.toList sep.data.toList).2.2] ∧ H' = H := by
          by_cases hi : Lib.index s.data.toList sep.data.toList = -1
          · rw [if_pos hi] at h4
            cases h4
            unfold Lib.cut
            rw [if_neg (by omega)]
            exact ⟨rfl, rfl⟩
          · rw [if_neg hi] at h4
            cases h4
            unfold Lib.cut
            rw [if_pos (by omega), Nat.zero_add, takeN_eq, dropN_eq, lenL_eq]
            exact ⟨rfl, rfl⟩
        obtain ⟨rfl, rfl⟩ := hv
        refine pure_post (fun x hx => by rcases List.mem_cons.1 hx with rfl | hx; rfl; rcases List.mem_singleton.1 hx with rfl; rfl)
          (fun β => .tuple rfl (VL.cons (.atom rfl) (VL.cons (.atom rfl) (VL.cons (.atom rfl) (VL.nil β)))).2) (hc.mono ?_) hw hr hl
        rintro e w' ⟨rfl, n, rfl⟩
        exact ⟨rfl, below_draws w n⟩
      · cases h4
    · cases h
  rcases cond_split hk with ⟨h1, h2⟩ | ⟨_, hk⟩
  · have h1 := of_beq h1
    subst h1
    cases h2
    unfold placeS at h
    split at h
    · rename_i s sep
      rcases cond_split h with ⟨h3, h4⟩ | ⟨_, h4⟩
      · obtain ⟨h5, h6⟩ := and_split h3
        have h5 := of_ble h5
        have h6 := of_ble h6
        rw [lenL_eq] at h5 h6
        have hne : sep.data.toList ≠ [] := fun e => by rw [e] at h5; simp at h5
        have hc := Tryz.strings_Index s sep mx w (by rw [toList_length] at h6; omega) hmx
        rw [idxL_eq _ hne] at h4
        have hge := Lib.index_ge s.data.toList sep.data.toList
        have hv : v = .int .i64 (Lib.index s.data.toList sep.data.toList) ∧ H' = H := by
          by_cases hi : Lib.index s.data.toList sep.data.toList = -1
          · rw [if_pos hi] at h4
            cases h4
            rw [hi]
            exact ⟨rfl, rfl⟩
          · rw [if_neg hi] at h4
            cases h4
            refine ⟨?_, rfl⟩
            congr 1
            show ((0 + (Lib.index s.data.toList sep.data.toList).toNat : Nat) : Int) = _
            omega
        obtain ⟨rfl, rfl⟩ := hv
        refine pure_post (fun x hx => by rcases List.mem_cons.1 hx with rfl | hx; rfl; rcases List.mem_singleton.1 hx with rfl; rfl)
          (fun β => .atom rfl) (hc.mono ?_) hw hr hl
        rintro e w' ⟨rfl, rfl⟩
        exact ⟨rfl, Below.refl _ _⟩
      · cases h4
    · cases h
  rcases cond_split hk with ⟨h1, h2⟩ | ⟨_, hk⟩
  · have h1 := of_beq h1
    subst h1
    cases h2
    unfold splitS at h
    split at h
    · rename_i s sep
      rcases cond_split h with ⟨h3, h4⟩ | ⟨_, h4⟩
      · obtain ⟨h5, h6⟩ := and_split h3
        have h5 := of_ble h5
        have h6 := of_ble h6
        rw [lenL_eq] at h5 h6
        have hne : sep.data.toList ≠ [] := fun e => by rw [e] at h5; simp at h5
        have hc := Tryz.strings_Split s sep mx w (by rw [toList_length] at h6; omega) hmx (by rw [toList_length] at h5; exact h5)
        have hall := Lib.splitB_all sep (by rw [toList_length] at h5; exact h5) 0 (Lib.countB s sep) s rfl
        have hg : splitG sep.data.toList (lenL s.data.toList) s.data.toList = (Lib.splitB sep 0 (Lib.countB s sep) s).map (·.data.toList) := by
          rw [Lib.splitB_data, lenL_eq, splitG_eq _ hne _ _ (Nat.le_refl _)]
        rw [hg] at h4
        generalize Lib.splitB sep 0 (Lib.countB s sep) s = L at *
        have h4 : cond (Nat.ble H.next 131000 && Nat.blt 9 mapE) (Ret.ok (.slice (some ⟨H.next, 0, none⟩) (lenL (L.map (·.data.toList))) (lenL (L.map (·.data.toList)))) (H.make (mapL strV (L.map (·.data.toList))) 9 1)) (.bad 164 []) = .ok v H' := h4
        rcases cond_split h4 with ⟨h7, h8⟩ | ⟨_, h8⟩
        · obtain ⟨h9, h10⟩ := and_split h7
          have h9 := of_ble h9
          have hm : mapL strV (L.map (·.data.toList)) = L.map Value.string := by
            rw [mapL_eq, List.map_map]
            rfl
          rw [hm, lenL_eq, List.length_map, hall] at h8
          cases h8
          have hA : args' = #[.string s, .string sep] := by
            obtain ⟨u, y, rfl, hu, hy⟩ := two_args hl
            rw [hu.string, hy.string]
          subst hA
          refine hc.mono ?_
          rintro e w' ⟨rfl, rfl⟩
          obtain ⟨g1, g2, g3⟩ := made hw hr h9 (L.map Value.string) 9 (Nat.le_of_ble_eq_true h10) 1 (L.map Value.string).toArray
            (VL.pre (VL.atoms β (fun x hx => by obtain ⟨y, _, rfl⟩ := List.mem_map.1 hx; rfl))) (Grew.alloc w (L.map Value.string).toArray 9)
          have hsz : (L.map Value.string).toArray.size = Lib.countB s sep + 1 := by simp [hall]
          have hle : Lib.countB s sep ≤ s.size := Lib.countB_le sep (by rw [toList_length] at h5; exact h5) s.size s (Nat.le_refl _)
          have hss : s.size ≤ 1000000 := by rw [toList_length] at h6; exact h6
          refine ⟨_, _, rfl, VR.slice (k := ⟨w.heap.size, (L.map Value.string).toArray.size, 1⟩) (by unfold Bij.put; simp) (Nat.le_refl _) (by omega) (fun _ => by simp [hsz]), g1, g3, g2⟩
        · cases h8
      · cases h4
    · cases h
  rcases cond_split hk with ⟨h1, h2⟩ | ⟨_, hk⟩
  · have h1 := of_beq h1
    subst h1
    cases h2
    unfold atoiS at h
    split at h
    · rename_i s
      rcases cond_split h with ⟨h3, h4⟩ | ⟨_, h4⟩
      · obtain ⟨h5, h6⟩ := and_split h3
        have h5 := of_ble h5
        have h6 := of_ble h6
        rw [lenL_eq] at h5 h6
        cases hd : decG s.data.toList 0 with
        | none => rw [hd] at h4; cases h4
        | some n =>
          rw [hd] at h4
          cases h4
          refine pure_post (fun x hx => by rcases List.mem_singleton.1 hx with rfl; rfl)
            (fun β => .tuple rfl (VL.cons (.atom rfl) (VL.cons (.atom rfl) (VL.nil β))).2) ((Tryz.strconv_Atoi s n h6 (atoi_of h5 hd) w).mono ?_) hw hr hl
          rintro e w' ⟨rfl, t, rfl⟩
          exact ⟨rfl, below_bytes w _ t⟩
      · cases h4
    · cases h
  exact xe_ok hE f k hk args H v H' h β w args' hw hr hl
/-- a run without arguments that tells true -/
theorem run_envD (hE : Env w0) (n : Nat) (f : FuncId) (h : okT (callX Tryz.prog XD n f [] Hp.none) = true) : Calls Tryz.prog f #[] w0 fun e w' => e = .returned (.bool true) ∧ Below w0.heap.size w0 w' := by
  obtain ⟨H, h1⟩ := okT_inv h
  letI : Inhabited Base := ⟨baseOf w0⟩
  have hr : HR (Ab Hp.none.ban) (fun _ => none) Hp.none w0 := ⟨fun b k h => (by cases h), fun b k q h => (by cases h), fun b b' k k' q q' h => (by cases h), fun b k h => (by cases h), fun r o e => e, fun b k h => (by cases h)⟩
  have hl : VL (fun _ => none) [] (#[] : Array Value).toList := VL.nil _
  refine (run_from (xd_ok hE) (fun call hc => region_ok mixed hc) n f [] h1 none_WF hr hl).mono ?_
  rintro e w' ⟨β', v', rfl, h1, h2, h3, h4⟩
  refine ⟨by rw [h1.of_flat rfl], h2.os, h2.tape, h2.output, h2.size, fun k hk => h2.block k hk (fun b k' q hb => by cases hb)⟩
end
end Go.Proofs.YtmfjpdlegaimlaaGreatDoor
