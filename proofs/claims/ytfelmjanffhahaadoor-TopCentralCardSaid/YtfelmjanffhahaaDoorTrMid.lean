/- Central words: the towers of words of a and b, their periods and letters. -/
import Derived.Test.YtfelmjanffhahaaDoorTrCen
import Derived.Test.YtfelmjanffhahaaDoorFlm
namespace Go.Proofs.YtfelmjanffhahaaDoor.Tr
set_option linter.unusedVariables false

theorem E_le {T : List UInt8} {c : UInt8} (hp : pal T = true) (z : Nat) (hz : z < T.length) (hP : PalAt T 0 z) (hc : T.getD z 0 = c) : z + 2 ≤ longEnd (T ++ [c]) := by
  have hT := pal_all T hp
  have h := le_ge T c (T.length - 1 - z) (by omega) (by
    intro j h1 h2
    have hm : T.getD (T.length - 1 - z) 0 = c := by rw [← hc, hT z (Nat.zero_le _) hz]; congr 1; omega
    rcases Nat.lt_or_ge j T.length with k1 | k1
    · rcases Nat.lt_or_ge (T.length - 1 - z) j with k2 | k2
      · rw [getD_app _ _ _ k1, getD_app _ _ _ (by omega)]
        have := hT.mirror hP (by omega) j (by omega) (by omega)
        rw [this]; congr 1; omega
      · have e : j = T.length - 1 - z := by omega
        subst e
        rw [getD_app _ _ _ k1, hm, show T.length - 1 - z + (T.length + 1) - 1 - (T.length - 1 - z) = T.length from by omega, getD_end]
    · have e : j = T.length := by omega
      subst e
      rw [getD_end, show T.length - 1 - z + (T.length + 1) - 1 - T.length = T.length - 1 - z from by omega, getD_app _ _ _ (by omega), hm])
  omega

theorem E_at {T : List UInt8} {c : UInt8} (hp : pal T = true) : longEnd (T ++ [c]) = 1 ∨ ∃ z, z < T.length ∧ PalAt T 0 z ∧ T.getD z 0 = c ∧ longEnd (T ++ [c]) = z + 2 := by
  have hT := pal_all T hp
  obtain ⟨h1, h2, h3⟩ := le_pal T c
  generalize longEnd (T ++ [c]) = e at h1 h2 h3
  rcases Nat.lt_or_ge 1 e with k | k
  · obtain ⟨z, rfl⟩ : ∃ z, e = z + 2 := ⟨e - 2, by omega⟩
    right
    have hs := h1.shrink 1 (by omega)
    have hs2 : PalAt T (T.length - z) T.length := by
      intro j j1 j2
      have := hs j (by omega) (by omega)
      rw [getD_app _ _ _ j2, getD_app _ _ _ (by omega)] at this
      rw [this]; congr 1; omega
    have hs3 := hT.mirror hs2 (Nat.le_refl _)
    rw [Nat.sub_self, show T.length - (T.length - z) = z from by omega] at hs3
    refine ⟨z, by omega, hs3, ?_, rfl⟩
    have := h1 T.length (by omega) (by omega)
    rw [getD_end, getD_app _ _ _ (by omega)] at this
    rw [hT z (Nat.zero_le _) (by omega), this]; congr 1; omega
  · exact .inl (by omega)

theorem clos_min {T : List UInt8} {c : UInt8} (hp : pal T = true) (z : Nat) (hz : z < (closL (T ++ [c])).length) (hP : PalAt (closL (T ++ [c])) 0 z) : z ≤ T.length := by
  obtain ⟨f1, f2, _, _⟩ := clos_facts T c hp
  obtain ⟨_, e1, e2⟩ := le_pal T c
  rcases Nat.lt_or_ge T.length z with k | k
  · exfalso
    have hs := hP.shrink (z - (T.length + 1)) (by omega)
    have hs2 : PalAt (T ++ [c]) (z - (T.length + 1)) (T.length + 1) := by
      have := hs.congr (b := T ++ [c]) (fun j hj => f2 j (by omega))
      rwa [Nat.zero_add, show z - (z - (T.length + 1)) = T.length + 1 from by omega] at this
    have := le_ge T c _ (by omega) hs2
    omega
  · exact k

theorem E_same {T : List UInt8} {c : UInt8} (hp : pal T = true) : longEnd (closL (T ++ [c]) ++ [c]) = T.length + 2 := by
  obtain ⟨f1, f2, f3, _⟩ := clos_facts T c hp
  obtain ⟨_, e1, e2⟩ := le_pal T c
  have hT := pal_all T hp
  have hp' := closL_pal (T ++ [c])
  have h1 := E_le (c := c) hp' T.length (by omega) (hT.congr fun j hj => by rw [f2 j (by omega), getD_app _ _ _ hj]) (by rw [f2 _ (by omega), getD_end])
  rcases E_at (c := c) hp' with h | ⟨z, hz, hP, hc, he⟩
  · omega
  · have := clos_min hp z hz hP
    omega

theorem E_other {T : List UInt8} {c d : UInt8} (hp : pal T = true) (hcd : c ≠ d) : longEnd (closL (T ++ [c]) ++ [d]) = longEnd (T ++ [d]) := by
  obtain ⟨f1, f2, f3, _⟩ := clos_facts T c hp
  obtain ⟨_, e1, e2⟩ := le_pal T c
  obtain ⟨_, e3, e4⟩ := le_pal T d
  obtain ⟨_, e5, e6⟩ := le_pal (closL (T ++ [c])) d
  have hp' := closL_pal (T ++ [c])
  have hA : longEnd (T ++ [d]) ≤ longEnd (closL (T ++ [c]) ++ [d]) := by
    rcases E_at (c := d) hp with h | ⟨z, hz, hP, hc, he⟩
    · omega
    · have := E_le (c := d) hp' z (by omega) (hP.congr fun j hj => by rw [f2 j (by omega), getD_app _ _ _ (by omega)]) (by rw [f2 _ (by omega), getD_app _ _ _ hz, hc])
      omega
  have hB : longEnd (closL (T ++ [c]) ++ [d]) ≤ longEnd (T ++ [d]) := by
    rcases E_at (c := d) hp' with h | ⟨z, hz, hP, hc, he⟩
    · omega
    · have hm := clos_min hp z hz hP
      have hne : z ≠ T.length := by
        intro e
        rw [e, f2 _ (by omega), getD_end] at hc
        exact hcd hc
      have := E_le (c := d) hp z (by omega) (hP.congr fun j hj => by rw [f2 j (by omega), getD_app _ _ _ (by omega)]) (by rw [← hc, f2 _ (by omega), getD_app _ _ _ (by omega)])
      omega
  omega

/-- how many b a list has -/
def cb (l : List UInt8) : Nat := l.countP (· == 98)
theorem cb_app (a b : List UInt8) : cb (a ++ b) = cb a + cb b := List.countP_append ..
theorem cb_rev (a : List UInt8) : cb a.reverse = cb a := List.countP_reverse ..
theorem clos_take {T : List UInt8} {c : UInt8} {k : Nat} (hk : k ≤ T.length) : (closL (T ++ [c])).take k = T.take k := by
  unfold closL
  rw [List.append_assoc, List.take_append_of_le_length hk]
theorem clos_take1 {T : List UInt8} {c : UInt8} : (closL (T ++ [c])).take (T.length + 1) = T ++ [c] := by
  unfold closL
  rw [List.take_append_of_le_length (by simp), List.take_of_length_le (by simp)]
theorem clos_cb {T : List UInt8} {c : UInt8} : cb (closL (T ++ [c])) = cb T + cb [c] + cb (T.take (T.length + 1 - longEnd (T ++ [c]))) := by
  obtain ⟨_, e1, e2⟩ := le_pal T c
  unfold closL
  rw [cb_app, cb_app, cb_rev, List.length_append, List.length_singleton, List.take_append_of_le_length (by omega)]

/-- what a central word has to do with the gap to which its letters lead -/
structure Mid (T : List UInt8) (g : G) : Prop where
  hp : pal T = true
  len : T.length + 2 = g.b + g.d
  b1 : 1 ≤ g.b
  d1 : 1 ≤ g.d
  ea : longEnd (T ++ [97]) = g.d
  eb : longEnd (T ++ [98]) = g.b
  na : cb (T.take (g.b - 1)) = g.a
  nb : cb (T.take (g.d - 1)) + 1 = g.c
  nt : cb T + 1 = g.a + g.c
  det : g.c * g.b = g.a * g.d + 1
  lt1 : g.a ≤ g.b
  lt2 : g.c ≤ g.d

theorem Mid.nil : Mid [] g01 := ⟨rfl, rfl, by decide, by decide, rfl, rfl, rfl, rfl, rfl, rfl, by decide, by decide⟩

def lrC (c : UInt8) : UInt8 := if c = 97 then 76 else 82

theorem Mid.stepA {T : List UInt8} {g : G} (h : Mid T g) : Mid (closL (T ++ [97])) ⟨g.a, g.b, g.a + g.c, g.b + g.d⟩ ∧ (closL (T ++ [97])).length = 2 * g.b + g.d - 2 := by
  obtain ⟨hp, len, b1, d1, ea, eb, na, nb, nt, det, l1, l2⟩ := h
  obtain ⟨f1, f2, f3, f4⟩ := clos_facts T 97 hp
  rw [ea] at f1
  have hc := clos_cb (T := T) (c := 97)
  rw [ea, show T.length + 1 - g.d = g.b - 1 from by omega, na] at hc
  refine ⟨⟨closL_pal _, by simp only; omega, b1, by simp only; omega, ?_, ?_, ?_, ?_, ?_, ?_, ?_, ?_⟩, by omega⟩
  · rw [E_same hp]; simp only; omega
  · rw [E_other hp (by decide)]; exact eb
  · simp only; rw [clos_take (by omega)]; exact na
  · simp only
    rw [show g.b + g.d - 1 = T.length + 1 from by omega, clos_take1, cb_app]
    have : cb [97] = 0 := rfl
    omega
  · have : cb [97] = 0 := rfl
    simp only; omega
  · simp only; rw [Nat.add_mul, Nat.mul_add, det]; omega
  · exact l1
  · simp only; omega

theorem Mid.stepB {T : List UInt8} {g : G} (h : Mid T g) : Mid (closL (T ++ [98])) ⟨g.a + g.c, g.b + g.d, g.c, g.d⟩ ∧ (closL (T ++ [98])).length = g.b + 2 * g.d - 2 := by
  obtain ⟨hp, len, b1, d1, ea, eb, na, nb, nt, det, l1, l2⟩ := h
  obtain ⟨f1, f2, f3, f4⟩ := clos_facts T 98 hp
  rw [eb] at f1
  have hc := clos_cb (T := T) (c := 98)
  rw [eb, show T.length + 1 - g.b = g.d - 1 from by omega] at hc
  have h1 : cb [98] = 1 := rfl
  refine ⟨⟨closL_pal _, by simp only; omega, by simp only; omega, d1, ?_, ?_, ?_, ?_, ?_, ?_, ?_, ?_⟩, by omega⟩
  · rw [E_other hp (by decide)]; exact ea
  · rw [E_same hp]; simp only; omega
  · simp only
    rw [show g.b + g.d - 1 = T.length + 1 from by omega, clos_take1, cb_app]
    omega
  · simp only; rw [clos_take (by omega)]; exact nb
  · simp only; omega
  · simp only; rw [Nat.add_mul, Nat.mul_add, det]; omega
  · simp only; omega
  · exact l2

/-- the gap to which a word of a and b leads -/
def gow (g : G) (l : List UInt8) : G := l.foldl (fun g c => goG g (lrC c)) g
theorem gow_cons (g : G) (c : UInt8) (l : List UInt8) : gow g (c :: l) = gow (goG g (lrC c)) l := rfl
theorem gow_ge : ∀ (l : List UInt8) (g : G), g.b + g.d ≤ (gow g l).b + (gow g l).d
  | [], g => Nat.le_refl _
  | c :: l, g => by
    have h1 := gow_ge l (goG g (lrC c))
    have h2 := step_small (g := g) (c := lrC c)
    rw [gow_cons]; omega
theorem Mid.step {T : List UInt8} {g : G} (h : Mid T g) {c : UInt8} (hc : c = 97 ∨ c = 98) : Mid (closL (T ++ [c])) (goG g (lrC c)) ∧ (closL (T ++ [c])).length + 2 = (goG g (lrC c)).b + (goG g (lrC c)).d := by
  have hb := h.b1
  have hd := h.d1
  rcases hc with rfl | rfl
  · obtain ⟨h1, h2⟩ := h.stepA
    have e : goG g (lrC 97) = ⟨g.a, g.b, g.a + g.c, g.b + g.d⟩ := rfl
    rw [e]; exact ⟨h1, by simp only; omega⟩
  · obtain ⟨h1, h2⟩ := h.stepB
    have e : goG g (lrC 98) = ⟨g.a + g.c, g.b + g.d, g.c, g.d⟩ := rfl
    rw [e]; exact ⟨h1, by simp only; omega⟩

/-- the tower -/
theorem tower_mid : ∀ (l T : List UInt8) (g : G), Mid T g → (∀ c ∈ l, c = 97 ∨ c = 98) → g.b + g.d ≤ 102 → (102 < (gow g l).b + (gow g l).d → towerGo T l = none) ∧ ((gow g l).b + (gow g l).d ≤ 102 → ∃ t, towerGo T l = some t ∧ Mid t (gow g l))
  | [], T, g, h, _, hl => ⟨fun e => absurd e (by show ¬ _; have : gow g [] = g := rfl; rw [this]; omega), fun _ => ⟨T, rfl, h⟩⟩
  | c :: l, T, g, h, hc, hl => by
    obtain ⟨h1, h2⟩ := h.step (hc c (by simp))
    have h3 := gow_ge l (goG g (lrC c))
    rw [gow_cons]
    unfold towerGo
    by_cases hbig : 100 < (closL (T ++ [c])).length
    · rw [if_pos hbig]
      exact ⟨fun _ => rfl, fun e => absurd e (by omega)⟩
    · rw [if_neg hbig]
      exact tower_mid l _ _ h1 (fun x hx => hc x (by simp [hx])) (by omega)

theorem flw_gow : ∀ (l : List UInt8) (g : G), (g.b + g.d) * 2 ^ l.length ≤ 1000000 → flw g (l.map lrC) = some (gow g l)
  | [], g, _ => rfl
  | c :: l, g, h => by
    have hs := step_small (g := g) (c := lrC c)
    rw [List.length_cons, Nat.pow_succ] at h
    have h2 : ((goG g (lrC c)).b + (goG g (lrC c)).d) * 2 ^ l.length ≤ (2 * (g.b + g.d)) * 2 ^ l.length := Nat.mul_le_mul_right _ (by omega)
    have h3 : (2 * (g.b + g.d)) * 2 ^ l.length = (g.b + g.d) * (2 ^ l.length * 2) := by rw [Nat.mul_comm 2, Nat.mul_assoc, Nat.mul_comm 2]
    have h4 : 1 ≤ 2 ^ l.length := Nat.one_le_two_pow
    have h5 : ((goG g (lrC c)).b + (goG g (lrC c)).d) * 1 ≤ ((goG g (lrC c)).b + (goG g (lrC c)).d) * 2 ^ l.length := Nat.mul_le_mul_left _ h4
    rw [List.map_cons, gow_cons]
    unfold flw
    rw [if_neg (by omega)]
    exact flw_gow l _ (by omega)

/-- the periods -/
theorem Mid.perB {T : List UInt8} {g : G} (h : Mid T g) (k : Nat) (hk : k < T.length) (hb : g.b ≤ k) : T.getD k 0 = T.getD (k - g.b) 0 := by
  have hT := pal_all T h.hp
  have hl := h.len
  have he := h.ea
  rcases E_at (c := 97) h.hp with e | ⟨z, hz, hP, _, e⟩
  · omega
  · rw [hT k (Nat.zero_le _) hk, hP (k - g.b) (Nat.zero_le _) (by omega)]; congr 1; omega
theorem Mid.perD {T : List UInt8} {g : G} (h : Mid T g) (k : Nat) (hk : k < T.length) (hb : g.d ≤ k) : T.getD k 0 = T.getD (k - g.d) 0 := by
  have hT := pal_all T h.hp
  have hl := h.len
  have he := h.eb
  rcases E_at (c := 98) h.hp with e | ⟨z, hz, hP, _, e⟩
  · omega
  · rw [hT k (Nat.zero_le _) hk, hP (k - g.d) (Nat.zero_le _) (by omega)]; congr 1; omega
end Go.Proofs.YtfelmjanffhahaaDoor.Tr
