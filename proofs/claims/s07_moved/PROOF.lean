import PyProof.Rows.All
import Wide.All
import OpenK.AllK
import Wide.FinOn
import Open.SpecLaws
import KE.OsGo
import KE.DataCmp
import KE.DataMinMax
import KE.SortData
import HandS.ForSpec
import HandS.Comp
import HandS.Dict
import HandS.Iter
import HandS.Walk
import HandS.WordsDict
import HandS.SetFor
import PySem.Challenge.RW_camps_s07_moved
set_option Elab.async false
set_option maxRecDepth 100000
set_option maxHeartbeats 2000000
namespace Cm
open Ks469 (two okLand)

def gain (a b : Int) : Int := if b < a then 1 else if a < b then -1 else 0
def told (l : List Int) : Bool := if l.length % 2 = 1 ∨ 14 < l.length then false else l.all fun v => decide (v ≤ 1000)
/-- the districts -/
def pr : List Int → List (Int × Int)
  | a :: b :: r => (a, b) :: pr r
  | _ => []
def nz (L : List (Int × Int)) : List (Nat × Nat) := L.map fun d => (d.1.toNat, d.2.toNat)

theorem pr_len : ∀ l : List Int, (pr l).length = l.length / 2
  | [] => by simp [pr]
  | [_] => by simp [pr]
  | a :: b :: r => by
    show (pr r).length + 1 = (r.length + 1 + 1) / 2
    rw [pr_len r]; omega
theorem pr_at : ∀ (l : List Int) (i : Nat), 2 * i + 1 < l.length → (pr l)[i]? = some (l.getD (2 * i) 0, l.getD (2 * i + 1) 0)
  | [], _, h => absurd h (Nat.not_lt_zero _)
  | [_], i, h => by simp at h
  | a :: b :: r, 0, _ => rfl
  | a :: b :: r, i + 1, h => by
    have ih := pr_at r i (by simp at h; omega)
    show (pr r)[i]? = _
    rw [ih]
    have e1 : 2 * (i + 1) = 2 * i + 1 + 1 := by omega
    rw [e1]
    rfl
theorem two_nats : ∀ l : List Int, two (l.map Int.toNat) = nz (pr l)
  | [] => rfl
  | [_] => rfl
  | a :: b :: r => by
    show (a.toNat, b.toNat) :: two (r.map Int.toNat) = (a.toNat, b.toNat) :: nz (pr r)
    rw [two_nats r]
theorem pr_all (p : Int → Bool) : ∀ l : List Int, l.length % 2 = 0 → (pr l).all (fun d => p d.1 && p d.2) = l.all p
  | [], _ => rfl
  | [_], h => by simp at h
  | a :: b :: r, h => by
    have ih := pr_all p r (by simp at h; omega)
    show ((p a && p b) && (pr r).all (fun d => p d.1 && p d.2)) = (p a && (p b && r.all p))
    rw [ih, Bool.and_assoc]
theorem pr_mem : ∀ (l : List Int) (d : Int × Int), d ∈ pr l → d.1 ∈ l ∧ d.2 ∈ l
  | [], _, h => by cases h
  | [_], _, h => by cases h
  | a :: b :: r, d, h => by
    rcases List.mem_cons.mp h with rfl | h
    · exact ⟨List.mem_cons_self, List.mem_cons_of_mem _ List.mem_cons_self⟩
    · have := pr_mem r d h
      exact ⟨List.mem_cons_of_mem _ (List.mem_cons_of_mem _ this.1), List.mem_cons_of_mem _ (List.mem_cons_of_mem _ this.2)⟩
theorem told_iff (l : List Int) : ((l.map Int.toNat).length % 2 = 0 ∧ okLand (two (l.map Int.toNat)) = true) ↔ told l = true := by
  rw [two_nats, List.length_map]
  unfold told
  by_cases h : l.length % 2 = 1 ∨ 14 < l.length
  · rw [if_pos h]
    constructor
    · rintro ⟨h1, h2⟩
      exfalso
      unfold okLand at h2
      rw [Bool.and_eq_true, decide_eq_true_iff] at h2
      have h3 := h2.1
      unfold nz at h3
      rw [List.length_map, pr_len] at h3
      unfold Ks469.DISTRICTS at h3
      omega
    · intro h; cases h
  · rw [if_neg h]
    have e : okLand (nz (pr l)) = l.all fun v => decide (v ≤ 1000) := by
      rw [← pr_all _ l (by omega)]
      unfold okLand nz
      rw [List.length_map, pr_len, List.all_map]
      have h7 : decide (l.length / 2 ≤ Ks469.DISTRICTS) = true := decide_eq_true (by unfold Ks469.DISTRICTS; omega)
      rw [h7, Bool.true_and]
      congr 1
      funext d
      show (decide (d.1.toNat ≤ Ks469.VOTES) && decide (d.2.toNat ≤ Ks469.VOTES)) = (decide (d.1 ≤ 1000) && decide (d.2 ≤ 1000))
      unfold Ks469.VOTES
      congr 1
      · exact decide_eq_decide.mpr (by omega)
      · exact decide_eq_decide.mpr (by omega)
    rw [e]
    constructor
    · exact fun h => h.2
    · exact fun h' => ⟨by omega, h'⟩

/-! ### won -/
def gains (l : List Int) : List Int := (pr l).map fun d => gain d.1 d.2
def won (l : List Int) : List Int := if told l = true then [((gains l).count 1 : Nat), ((gains l).count (-1) : Nat), ((gains l).count 0 : Nat)] else [-22]
theorem gain_cases (a b : Int) : (b < a ∧ gain a b = 1) ∨ (a < b ∧ gain a b = -1) ∨ (a = b ∧ gain a b = 0) := by
  unfold gain
  by_cases h : b < a
  · exact .inl ⟨h, if_pos h⟩
  · rw [if_neg h]
    by_cases h' : a < b
    · exact .inr (.inl ⟨h', if_pos h'⟩)
    · exact .inr (.inr ⟨by omega, if_neg h'⟩)
theorem won_counts : ∀ L : List (Int × Int), (∀ d ∈ L, 0 ≤ d.1 ∧ 0 ≤ d.2) →
    Ks469.won 0 (nz L) = (L.map fun d => gain d.1 d.2).count 1 ∧ Ks469.won 1 (nz L) = (L.map fun d => gain d.1 d.2).count (-1) ∧
    (nz L).length = Ks469.won 0 (nz L) + Ks469.won 1 (nz L) + (L.map fun d => gain d.1 d.2).count 0
  | [], _ => ⟨rfl, rfl, rfl⟩
  | d :: L, h => by
    obtain ⟨i1, i2, i3⟩ := won_counts L fun x hx => h x (List.mem_cons_of_mem _ hx)
    have hd := h d List.mem_cons_self
    have e0 : Ks469.won 0 (nz (d :: L)) = (if d.2 < d.1 then 1 else 0) + Ks469.won 0 (nz L) := by
      show (List.filter _ ((d.1.toNat, d.2.toNat) :: nz L)).length = _
      unfold Ks469.won
      rw [List.filter_cons]
      show (if decide (d.2.toNat < d.1.toNat) = true then _ else _ : List _).length = _
      by_cases c : d.2 < d.1
      · rw [if_pos c, if_pos (decide_eq_true (by omega)), List.length_cons]; omega
      · rw [if_neg c, if_neg (fun z => c (by have := of_decide_eq_true z; omega))]; omega
    have e1 : Ks469.won 1 (nz (d :: L)) = (if d.1 < d.2 then 1 else 0) + Ks469.won 1 (nz L) := by
      show (List.filter _ ((d.1.toNat, d.2.toNat) :: nz L)).length = _
      unfold Ks469.won
      rw [List.filter_cons]
      show (if decide (d.1.toNat < d.2.toNat) = true then _ else _ : List _).length = _
      by_cases c : d.1 < d.2
      · rw [if_pos c, if_pos (decide_eq_true (by omega)), List.length_cons]; omega
      · rw [if_neg c, if_neg (fun z => c (by have := of_decide_eq_true z; omega))]; omega
    have el : (nz (d :: L)).length = (nz L).length + 1 := rfl
    rw [e0, e1, el, List.map_cons]
    rcases gain_cases d.1 d.2 with ⟨c, g⟩ | ⟨c, g⟩ | ⟨c, g⟩
    · rw [if_pos c, if_neg (by omega), g, List.count_cons_self, List.count_cons_of_ne (by decide), List.count_cons_of_ne (by decide)]
      omega
    · rw [if_pos c, if_neg (by omega), g, List.count_cons_self, List.count_cons_of_ne (by decide), List.count_cons_of_ne (by decide)]
      omega
    · rw [if_neg (by omega), if_neg (by omega), g, List.count_cons_self, List.count_cons_of_ne (by decide), List.count_cons_of_ne (by decide)]
      omega
theorem won_is (l : List Int) (h : ∀ x ∈ l, 0 ≤ x) : PyKs469.won l = won l := by
  show Ks469Neutral.out (Ks469.given (l.map Int.toNat) fun a => Ks469.tells a) = won l
  unfold Ks469.given won
  by_cases c : told l = true
  · rw [if_pos ((told_iff l).mpr c), if_pos c, two_nats]
    obtain ⟨h1, h2, h3⟩ := won_counts (pr l) fun d hd => ⟨h _ (pr_mem l d hd).1, h _ (pr_mem l d hd).2⟩
    show [((Ks469.won 0 (nz (pr l)) : Nat) : Int), ((Ks469.won 1 (nz (pr l)) : Nat) : Int), (((nz (pr l)).length - Ks469.won 0 (nz (pr l)) - Ks469.won 1 (nz (pr l)) : Nat) : Int)] = _
    have e : (nz (pr l)).length - Ks469.won 0 (nz (pr l)) - Ks469.won 1 (nz (pr l)) = (gains l).count 0 := by unfold gains; omega
    rw [e, h1, h2]
    rfl
  · rw [if_neg (fun z => c ((told_iff l).mp z)), if_neg c]
    rfl
end Cm
namespace Cm
open Ks469 (two okLand steps choices leastOf leads own others over)

/-! ### tables -/
abbrev Way := List Int
abbrev Tab := List (Int × Way)
def look (W : Tab) (k : Int) : Option Way := (W.find? fun e => decide (e.1 = k)).map (·.2)
def put (W : Tab) (k : Int) (w : Way) : Tab := if (W.any fun e => decide (e.1 = k)) = true then W.map (fun e => if e.1 = k then (e.1, w) else e) else W ++ [(k, w)]
theorem look_nil {k : Int} : look [] k = none := rfl
theorem look_pos {e : Int × Way} {W : Tab} {k : Int} (h : e.1 = k) : look (e :: W) k = some e.2 := by simp [look, h]
theorem look_neg {e : Int × Way} {W : Tab} {k : Int} (h : ¬ e.1 = k) : look (e :: W) k = look W k := by simp [look, h]
theorem look_any (k : Int) : ∀ W : Tab, (W.any fun e => decide (e.1 = k)) = (look W k).isSome
  | [] => rfl
  | e :: W => by
    rw [List.any_cons]
    by_cases h : e.1 = k
    · simp only [look_pos h, decide_eq_true h, Bool.true_or, Option.isSome_some]
    · rw [look_neg h, decide_eq_false h, Bool.false_or]; exact look_any k W
theorem look_map (k j : Int) (w : Way) : ∀ W : Tab, look (W.map fun e => if e.1 = k then (e.1, w) else e) j = (look W j).map fun x => if j = k then w else x
  | [] => rfl
  | e :: W => by
    have ih := look_map k j w W
    rw [List.map_cons]
    by_cases h : e.1 = k
    · rw [if_pos h]
      by_cases c : e.1 = j
      · rw [look_pos (e := (e.1, w)) c, look_pos c, Option.map_some, if_pos (c.symm.trans h)]
      · rw [look_neg (e := (e.1, w)) c, look_neg c, ih]
    · rw [if_neg h]
      by_cases c : e.1 = j
      · rw [look_pos c, look_pos c, Option.map_some, if_neg (fun z => h (c.trans z))]
      · rw [look_neg c, look_neg c, ih]
theorem look_snoc (k j : Int) (w : Way) : ∀ W : Tab, look W k = none → look (W ++ [(k, w)]) j = if j = k then some w else look W j
  | [], _ => by
    by_cases e : k = j
    · rw [if_pos e.symm]; exact look_pos (e := (k, w)) e
    · rw [if_neg (fun z => e z.symm)]; exact look_neg (e := (k, w)) e
  | p :: r, hn => by
    rw [List.cons_append]
    have hk : ¬ p.1 = k := fun z => by rw [look_pos z] at hn; cases hn
    rw [look_neg hk] at hn
    have ih := look_snoc k j w r hn
    by_cases e : p.1 = j
    · rw [look_pos e, look_pos e, if_neg (fun z => hk (e.trans z))]
    · rw [look_neg e, look_neg e, ih]
theorem look_put (W : Tab) (k j : Int) (w : Way) : look (put W k w) j = if j = k then some w else look W j := by
  unfold put
  by_cases a : (W.any fun e => decide (e.1 = k)) = true
  · rw [if_pos a, look_map]
    rw [look_any] at a
    by_cases e : j = k
    · obtain ⟨x, hx⟩ := Option.isSome_iff_exists.mp a
      rw [if_pos e, e, hx, Option.map_some, if_pos rfl]
    · rw [if_neg e]
      cases look W j with
      | none => rfl
      | some x => rw [Option.map_some, if_neg e]
  · rw [if_neg a]
    refine look_snoc k j w W ?_
    rw [look_any] at a
    cases q : look W k with
    | none => rfl
    | some x => rw [q] at a; exact (a rfl).elim
theorem look_mem {W : Tab} {k : Int} {w : Way} (h : look W k = some w) : (k, w) ∈ W := by
  unfold look at h
  obtain ⟨e, he, rfl⟩ := Option.map_eq_some_iff.mp h
  have h1 := List.find?_some he
  have h2 := List.mem_of_find?_eq_some he
  have h3 : e.1 = k := of_decide_eq_true h1
  rw [← h3]; exact h2
theorem mem_look {W : Tab} {e : Int × Way} (h : e ∈ W) : ∃ w, look W e.1 = some w := by
  have : (W.any fun x => decide (x.1 = e.1)) = true := List.any_eq_true.mpr ⟨e, h, decide_eq_true rfl⟩
  rw [look_any] at this
  exact Option.isSome_iff_exists.mp this
theorem put_mem {W : Tab} {k : Int} {w : Way} {e : Int × Way} (h : e ∈ put W k w) : e ∈ W ∨ e = (k, w) := by
  unfold put at h
  split at h
  · obtain ⟨x, hx, rfl⟩ := List.mem_map.mp h
    by_cases c : x.1 = k
    · rw [if_pos c, c]; exact .inr rfl
    · rw [if_neg c]; exact .inl hx
  · rcases List.mem_append.mp h with h | h
    · exact .inl h
    · exact .inr (List.mem_singleton.mp h)
theorem put_len (W : Tab) (k : Int) (w : Way) : (put W k w).length ≤ W.length + 1 := by
  unfold put
  split
  · rw [List.length_map]; omega
  · rw [List.length_append, List.length_cons, List.length_nil]; omega

/-! ### a table holds the least way of each lead -/
def offer (L : Tab) (k : Int) (w : Way) : Tab := match look L k with
  | none => put L k w
  | some v => if w < v then put L k w else L
theorem offer_put {L : Tab} {k : Int} {w : Way} (h : ∀ v, look L k = some v → w < v) : offer L k w = put L k w := by
  unfold offer
  cases e : look L k with
  | none => rfl
  | some v => exact if_pos (h v e)
theorem offer_not {L : Tab} {k : Int} {w v : Way} (h : look L k = some v) (hn : ¬ w < v) : offer L k w = L := by
  unfold offer
  rw [h]
  exact if_neg hn
theorem offer_len (L : Tab) (k : Int) (w : Way) : (offer L k w).length ≤ L.length + 1 := by
  unfold offer
  split
  · exact put_len L k w
  · split
    · exact put_len L k w
    · omega
structure Rep (S : Int → Way → Prop) (L : Tab) : Prop where
  mem : ∀ e ∈ L, S e.1 e.2
  least : ∀ k w, S k w → ∃ v, look L k = some v ∧ v ≤ w
theorem Rep.offer {S : Int → Way → Prop} {L : Tab} (r : Rep S L) (k : Int) (w : Way) : Rep (fun j u => S j u ∨ (j = k ∧ u = w)) (offer L k w) := by
  have hput : (∀ v, look L k = some v → w < v) → Rep (fun j u => S j u ∨ (j = k ∧ u = w)) (Cm.offer L k w) := fun h => by
    rw [offer_put h]
    refine ⟨fun e he => ?_, fun j u hu => ?_⟩
    · rcases put_mem he with he | he
      · exact .inl (r.mem e he)
      · rw [he]; exact .inr ⟨rfl, rfl⟩
    · rw [look_put]
      by_cases c : j = k
      · rw [if_pos c]
        refine ⟨w, rfl, ?_⟩
        rcases hu with hu | ⟨_, rfl⟩
        · obtain ⟨v, hv, hl⟩ := r.least j u hu
          rw [c] at hv
          exact List.le_trans (List.le_of_lt (h v hv)) hl
        · exact List.le_refl _
      · rw [if_neg c]
        rcases hu with hu | ⟨hu, _⟩
        · exact r.least j u hu
        · exact absurd hu c
  cases e : look L k with
  | none => exact hput fun v hv => by rw [e] at hv; cases hv
  | some v =>
    by_cases c : w < v
    · exact hput fun v' hv => by rw [e] at hv; cases hv; exact c
    · rw [offer_not e c]
      refine ⟨fun x hx => .inl (r.mem x hx), fun j u hu => ?_⟩
      rcases hu with hu | ⟨rfl, rfl⟩
      · exact r.least j u hu
      · exact ⟨v, e, List.not_lt.mp c⟩
theorem Rep.congr {S S' : Int → Way → Prop} {L : Tab} (r : Rep S L) (h : ∀ k w, S k w ↔ S' k w) : Rep S' L :=
  ⟨fun e he => (h _ _).mp (r.mem e he), fun k w hs => r.least k w ((h _ _).mpr hs)⟩
theorem Rep.offers : ∀ (C : List (Int × Way)) {S : Int → Way → Prop} {L : Tab}, Rep S L → Rep (fun j u => S j u ∨ (j, u) ∈ C) (C.foldl (fun L c => Cm.offer L c.1 c.2) L)
  | [], _, _, r => r.congr fun k w => by simp
  | c :: C, S, L, r => by
    rw [List.foldl_cons]
    refine (Rep.offers C (r.offer c.1 c.2)).congr fun k w => ?_
    rw [List.mem_cons, Prod.ext_iff, or_assoc]

/-! ### one district more -/
def worth (a b : Int) : List Int := if b < a then [0] else [0, (b - a) / 2, (b - a) / 2 + 1].filter fun o => decide (o ≤ b)
def ext (w : Way) (o : Int) : Way := [w.getD 0 0 + o] ++ w.drop 1 ++ [o]
def cand (W : Tab) (a b : Int) (k o : Int) : Int × Way := (k + gain (a + o) (b - o), ext ((look W k).getD []) o)
def inner (W : Tab) (a b : Int) (L : Tab) (k : Int) : Tab := (worth a b).foldl (fun L o => offer L (cand W a b k o).1 (cand W a b k o).2) L
def step (W : Tab) (a b : Int) : Tab := (W.map (·.1)).foldl (inner W a b) []
theorem worth_len (a b : Int) : (worth a b).length ≤ 3 := by
  unfold worth
  split
  · show 1 ≤ 3; omega
  · exact Nat.le_trans (List.length_filter_le _ _) (Nat.le_refl 3)
theorem foldl_len {α : Type} (f : Tab → α → Tab) (c : Nat) (h : ∀ L x, (f L x).length ≤ L.length + c) : ∀ (l : List α) (L : Tab), (l.foldl f L).length ≤ L.length + c * l.length
  | [], L => by simp
  | x :: l, L => by
    rw [List.foldl_cons, List.length_cons]
    have := foldl_len f c h l (f L x)
    have := h L x
    rw [Nat.mul_add, Nat.mul_one]
    omega
theorem inner_len (W : Tab) (a b : Int) (L : Tab) (k : Int) : (inner W a b L k).length ≤ L.length + 3 := by
  unfold inner
  have := foldl_len (fun L o => offer L (cand W a b k o).1 (cand W a b k o).2) 1 (fun L o => offer_len L _ _) (worth a b) L
  have := worth_len a b
  omega
theorem step_len (W : Tab) (a b : Int) : (step W a b).length ≤ 3 * W.length := by
  unfold step
  have := foldl_len (inner W a b) 3 (inner_len W a b) (W.map (·.1)) []
  rw [List.length_map, List.length_nil] at this
  omega
theorem foldl_two {α β γ : Type} (f : γ → α → γ) (g : β → List α) : ∀ (l : List β) (c : γ), l.foldl (fun c x => (g x).foldl f c) c = (l.flatMap g).foldl f c
  | [], c => rfl
  | x :: l, c => by
    rw [List.foldl_cons, List.flatMap_cons, List.foldl_append, foldl_two f g l]
theorem step_rep (W : Tab) (a b : Int) : Rep (fun j u => ∃ k ∈ W.map (·.1), ∃ o ∈ worth a b, (j, u) = cand W a b k o) (step W a b) := by
  have e : step W a b = ((W.map (·.1)).flatMap fun k => (worth a b).map (cand W a b k)).foldl (fun L c => offer L c.1 c.2) [] := by
    rw [← foldl_two]
    unfold step
    congr 1
    funext L k
    unfold inner
    rw [List.foldl_map]
  rw [e]
  refine (Rep.offers _ (S := fun _ _ => False) (L := []) ⟨fun e he => (by cases he), fun _ _ h => h.elim⟩).congr fun j u => ?_
  rw [false_or, List.mem_flatMap]
  constructor
  · rintro ⟨k, hk, h⟩
    obtain ⟨o, ho, h⟩ := List.mem_map.mp h
    exact ⟨k, hk, o, ho, h.symm⟩
  · rintro ⟨k, hk, o, ho, h⟩
    exact ⟨k, hk, List.mem_map.mpr ⟨o, ho, h.symm⟩⟩

/-! ### all ways -/
def Opt : List (Int × Int) → List Int → Prop
  | [], [] => True
  | d :: ds, o :: v => o ∈ worth d.1 d.2 ∧ Opt ds v
  | _, _ => False
def lead : List (Int × Int) → List Int → Int
  | d :: ds, o :: v => gain (d.1 + o) (d.2 - o) + lead ds v
  | _, _ => 0
theorem Opt.len : ∀ {ds : List (Int × Int)} {v : List Int}, Opt ds v → v.length = ds.length
  | [], [], _ => rfl
  | _ :: _, _ :: _, h => congrArg (· + 1) (Opt.len h.2)
  | [], _ :: _, h => h.elim
  | _ :: _, [], h => h.elim
theorem Opt.snoc : ∀ {ds : List (Int × Int)} {v : List Int} {d : Int × Int} {o : Int}, Opt ds v → o ∈ worth d.1 d.2 → Opt (ds ++ [d]) (v ++ [o])
  | [], [], _, _, _, ho => ⟨ho, True.intro⟩
  | _ :: _, _ :: _, _, _, h, ho => ⟨h.1, Opt.snoc h.2 ho⟩
  | [], _ :: _, _, _, h, _ => h.elim
  | _ :: _, [], _, _, h, _ => h.elim
theorem Opt.last : ∀ {ds : List (Int × Int)} {v : List Int} {d : Int × Int}, Opt (ds ++ [d]) v → ∃ u o, v = u ++ [o] ∧ Opt ds u ∧ o ∈ worth d.1 d.2
  | [], [o], _, h => ⟨[], o, rfl, True.intro, h.1⟩
  | [], [], _, h => h.elim
  | [], _ :: _ :: _, _, h => h.2.elim
  | _ :: _, [], _, h => h.elim
  | x :: ds, y :: v, d, h => by
    obtain ⟨u, o, rfl, h1, h2⟩ := Opt.last (ds := ds) (v := v) (d := d) h.2
    exact ⟨y :: u, o, rfl, ⟨h.1, h1⟩, h2⟩
theorem lead_snoc : ∀ {ds : List (Int × Int)} {v : List Int} {d : Int × Int} {o : Int}, Opt ds v → lead (ds ++ [d]) (v ++ [o]) = lead ds v + gain (d.1 + o) (d.2 - o)
  | [], [], d, o, _ => by
    show gain (d.1 + o) (d.2 - o) + 0 = 0 + gain (d.1 + o) (d.2 - o)
    omega
  | x :: ds, y :: v, d, o, h => by
    show gain (x.1 + y) (x.2 - y) + lead (ds ++ [d]) (v ++ [o]) = gain (x.1 + y) (x.2 - y) + lead ds v + _
    rw [lead_snoc h.2]; omega
  | [], _ :: _, _, _, h => h.elim
  | _ :: _, [], _, _, h => h.elim
def All (ds : List (Int × Int)) (k : Int) (w : Way) : Prop := ∃ v, Opt ds v ∧ k = lead ds v ∧ w = v.sum :: v
theorem le_append : ∀ {a b : List Int} (c : List Int), a.length = b.length → a ≤ b → a ++ c ≤ b ++ c
  | [], [], c, _, _ => List.le_refl c
  | x :: a, y :: b, c, hl, h => by
    rw [List.cons_append, List.cons_append, List.cons_le_cons_iff]
    rcases List.cons_le_cons_iff.mp h with h | ⟨h1, h2⟩
    · exact .inl h
    · exact .inr ⟨h1, le_append c (by simpa using hl) h2⟩
  | [], _ :: _, _, hl, _ => by simp at hl
  | _ :: _, [], _, hl, _ => by simp at hl
theorem sum_snoc (v : List Int) (o : Int) : (v ++ [o]).sum = v.sum + o := by
  rw [List.sum_append]; simp
theorem ext_way (v : List Int) (o : Int) : ext (v.sum :: v) o = (v ++ [o]).sum :: (v ++ [o]) := by
  rw [sum_snoc]; rfl
theorem All.step {ds : List (Int × Int)} {W : Tab} (r : Rep (All ds) W) (d : Int × Int) : Rep (All (ds ++ [d])) (step W d.1 d.2) := by
  have s := step_rep W d.1 d.2
  have lk : ∀ k ∈ W.map (·.1), ∃ v, look W k = some (v.sum :: v) ∧ Opt ds v ∧ k = lead ds v := fun k hk => by
    obtain ⟨e, he, rfl⟩ := List.mem_map.mp hk
    obtain ⟨w, hw⟩ := mem_look he
    obtain ⟨v, h1, h2, h3⟩ := r.mem _ (look_mem hw)
    have h3 : w = v.sum :: v := h3
    rw [h3] at hw
    exact ⟨v, hw, h1, h2⟩
  refine ⟨fun e he => ?_, fun k w h => ?_⟩
  · obtain ⟨k, hk, o, ho, hc⟩ := s.mem e he
    obtain ⟨v, h1, h2, h3⟩ := lk k hk
    have e1 : e.1 = k + gain (d.1 + o) (d.2 - o) := congrArg Prod.fst hc
    have e2 : e.2 = Cm.ext ((look W k).getD []) o := congrArg Prod.snd hc
    rw [h1, Option.getD_some, ext_way] at e2
    exact ⟨v ++ [o], h2.snoc ho, by rw [lead_snoc h2, e1, h3], e2⟩
  · obtain ⟨v, h1, rfl, rfl⟩ := h
    obtain ⟨u, o, rfl, hu, ho⟩ := h1.last
    obtain ⟨x, hx, hle⟩ := r.least (lead ds u) (u.sum :: u) ⟨u, hu, rfl, rfl⟩
    have hk : lead ds u ∈ W.map (·.1) := List.mem_map.mpr ⟨_, look_mem hx, rfl⟩
    obtain ⟨v', hv', ho', _⟩ := lk _ hk
    rw [hx] at hv'
    have hv' : x = v'.sum :: v' := Option.some.inj hv'
    obtain ⟨z, hz, hzl⟩ := s.least _ _ ⟨lead ds u, hk, o, ho, rfl⟩
    rw [lead_snoc hu]
    refine ⟨z, hz, List.le_trans hzl ?_⟩
    show Cm.ext ((look W (lead ds u)).getD []) o ≤ _
    rw [hx, Option.getD_some, hv', ext_way, sum_snoc, sum_snoc, List.cons_le_cons_iff]
    rw [hv', List.cons_le_cons_iff] at hle
    rcases hle with h | ⟨h, h'⟩
    · exact .inl (by omega)
    · exact .inr ⟨by omega, le_append [o] (by rw [ho'.len, hu.len]) h'⟩

/-! ### the least of a list -/
def minL (x : Way) (xs : List Way) : Way := xs.foldl (fun a y => if y < a then y else a) x
theorem minL_spec : ∀ (xs : List Way) (x : Way), minL x xs ∈ x :: xs ∧ ∀ y ∈ x :: xs, minL x xs ≤ y
  | [], x => ⟨List.mem_cons_self, fun y hy => by rw [List.mem_singleton.mp hy]; exact List.le_refl _⟩
  | z :: xs, x => by
    have e : minL x (z :: xs) = minL (if z < x then z else x) xs := rfl
    rw [e]
    by_cases c : z < x
    · rw [if_pos c]
      obtain ⟨h1, h2⟩ := minL_spec xs z
      refine ⟨List.mem_cons_of_mem _ h1, fun y hy => ?_⟩
      rcases List.mem_cons.mp hy with rfl | hy
      · exact List.le_trans (h2 z List.mem_cons_self) (List.le_of_lt c)
      · exact h2 y hy
    · rw [if_neg c]
      obtain ⟨h1, h2⟩ := minL_spec xs x
      refine ⟨?_, fun y hy => ?_⟩
      · rcases List.mem_cons.mp h1 with h1 | h1
        · rw [h1]; exact List.mem_cons_self
        · exact List.mem_cons_of_mem _ (List.mem_cons_of_mem _ h1)
      · rcases List.mem_cons.mp hy with rfl | hy
        · exact h2 _ List.mem_cons_self
        · rcases List.mem_cons.mp hy with rfl | hy
          · exact List.le_trans (h2 x List.mem_cons_self) (List.not_lt.mp c)
          · exact h2 y (List.mem_cons_of_mem _ hy)

/-! ### the program's answer -/
def ways (ds : List (Int × Int)) : Tab := ds.foldl (fun W d => step W d.1 d.2) [(0, [0])]
def leading (W : Tab) : List Way := ((W.map (·.1)).filter fun k => decide (0 < k)).map fun k => (look W k).getD []
def best (W : Tab) : List Int := match leading W with
  | [] => [-33]
  | x :: xs => minL x xs
theorem ways_rep_from : ∀ (ds es : List (Int × Int)) (W : Tab), Rep (All es) W → Rep (All (es ++ ds)) (ds.foldl (fun W d => Cm.step W d.1 d.2) W)
  | [], es, W, r => by rw [List.append_nil]; exact r
  | d :: ds, es, W, r => by
    rw [List.foldl_cons]
    have := ways_rep_from ds (es ++ [d]) _ (All.step r d)
    rwa [List.append_assoc] at this
theorem ways_rep (ds : List (Int × Int)) : Rep (All ds) (ways ds) := by
  refine ways_rep_from ds [] _ ⟨fun e he => ?_, fun k w h => ?_⟩
  · rw [List.mem_singleton.mp he]
    exact ⟨[], True.intro, rfl, rfl⟩
  · obtain ⟨v, h1, rfl, rfl⟩ := h
    cases v with
    | nil => exact ⟨[0], rfl, List.le_refl _⟩
    | cons _ _ => exact h1.elim
theorem leading_mem {ds : List (Int × Int)} {W : Tab} (r : Rep (All ds) W) {w : Way} (h : w ∈ leading W) : ∃ v, Opt ds v ∧ 0 < lead ds v ∧ w = v.sum :: v := by
  obtain ⟨k, hk, rfl⟩ := List.mem_map.mp h
  obtain ⟨h1, h2⟩ := List.mem_filter.mp hk
  obtain ⟨e, he, rfl⟩ := List.mem_map.mp h1
  obtain ⟨w, hw⟩ := mem_look he
  obtain ⟨v, q1, q2, q3⟩ := r.mem _ (look_mem hw)
  have h2 : 0 < e.1 := of_decide_eq_true h2
  rw [hw, Option.getD_some]
  exact ⟨v, q1, by rw [← q2]; exact h2, q3⟩
theorem leading_least {ds : List (Int × Int)} {W : Tab} (r : Rep (All ds) W) {v : List Int} (h : Opt ds v) (hl : 0 < lead ds v) : ∃ w ∈ leading W, w ≤ v.sum :: v := by
  obtain ⟨x, hx, hle⟩ := r.least (lead ds v) (v.sum :: v) ⟨v, h, rfl, rfl⟩
  refine ⟨x, List.mem_map.mpr ⟨lead ds v, List.mem_filter.mpr ⟨List.mem_map.mpr ⟨_, look_mem hx, rfl⟩, decide_eq_true hl⟩, by rw [hx]; rfl⟩, hle⟩
/-- what the answer is: by the ways alone -/
theorem best_none {ds : List (Int × Int)} (h : ∀ v, Opt ds v → ¬ 0 < lead ds v) : best (ways ds) = [-33] := by
  unfold best
  cases e : leading (ways ds) with
  | nil => rfl
  | cons x xs =>
    obtain ⟨v, h1, h2, _⟩ := leading_mem (ways_rep ds) (w := x) (by rw [e]; exact List.mem_cons_self)
    exact absurd h2 (h v h1)
theorem best_some {ds : List (Int × Int)} {v : List Int} (h : Opt ds v) (hl : 0 < lead ds v) (hm : ∀ u, Opt ds u → 0 < lead ds u → v.sum :: v ≤ u.sum :: u) : best (ways ds) = v.sum :: v := by
  unfold best
  obtain ⟨w, hw, hle⟩ := leading_least (ways_rep ds) h hl
  cases e : leading (ways ds) with
  | nil => rw [e] at hw; cases hw
  | cons x xs =>
    rw [e] at hw
    obtain ⟨h1, h2⟩ := minL_spec xs x
    obtain ⟨u, u1, u2, u3⟩ := leading_mem (ways_rep ds) (w := minL x xs) (by rw [e]; exact h1)
    show minL x xs = _
    refine List.le_antisymm (List.le_trans (h2 w hw) hle) ?_
    rw [u3]
    exact hm u u1 u2
end Cm
namespace Cm
open Ks469 (two okLand steps choices leastOf leads own others over)

/-! ### the specification's choices -/
def SOpt (k : Nat) : List (Nat × Nat) → List Nat → Prop
  | [], [] => True
  | d :: ds, t :: v => t ∈ steps k d ∧ SOpt k ds v
  | _, _ => False
theorem choices_mem (k : Nat) : ∀ (l : List (Nat × Nat)) (v : List Nat), v ∈ choices k l ↔ SOpt k l v
  | [], v => by
    show v ∈ [[]] ↔ _
    cases v with
    | nil => exact ⟨fun _ => True.intro, fun _ => List.mem_cons_self⟩
    | cons _ _ => exact ⟨fun h => (by cases List.mem_singleton.mp h), fun h => h.elim⟩
  | d :: l, v => by
    show v ∈ (steps k d).flatMap (fun t => (choices k l).map fun v => t :: v) ↔ _
    rw [List.mem_flatMap]
    cases v with
    | nil =>
      constructor
      · rintro ⟨t, _, h⟩
        obtain ⟨u, _, h⟩ := List.mem_map.mp h
        cases h
      · exact fun h => h.elim
    | cons t v =>
      constructor
      · rintro ⟨t', ht, h⟩
        obtain ⟨u, hu, h⟩ := List.mem_map.mp h
        injection h with h1 h2
        subst h1 h2
        exact ⟨ht, (choices_mem k l u).mp hu⟩
      · exact fun h => ⟨t, h.1, List.mem_map.mpr ⟨v, (choices_mem k l v).mpr h.2, rfl⟩⟩
theorem steps_sorted (k : Nat) (d : Nat × Nat) : (steps k d).Pairwise (· < ·) := by
  unfold steps
  split
  · split
    · rename_i h1 h2
      simp
      omega
    · simp
  · simp
theorem pairwise_flat {α : Type} {R : List Nat → List Nat → Prop} (f : Nat → α → List Nat) : ∀ (ts : List Nat) (X : List α), ts.Pairwise (· < ·) → (∀ t, (X.map (f t)).Pairwise R) → (∀ t t' x y, t < t' → R (f t x) (f t' y)) → (ts.flatMap fun t => X.map (f t)).Pairwise R
  | [], X, _, _, _ => List.Pairwise.nil
  | t :: ts, X, h, h1, h2 => by
    rw [List.flatMap_cons, List.pairwise_append]
    obtain ⟨ha, hb⟩ := List.pairwise_cons.mp h
    refine ⟨h1 t, pairwise_flat f ts X hb h1 h2, fun a hA b hB => ?_⟩
    obtain ⟨x, _, rfl⟩ := List.mem_map.mp hA
    obtain ⟨t', ht', hB⟩ := List.mem_flatMap.mp hB
    obtain ⟨y, _, rfl⟩ := List.mem_map.mp hB
    exact h2 t t' x y (ha t' ht')
theorem choices_sorted (k : Nat) : ∀ l : List (Nat × Nat), (choices k l).Pairwise (· < ·)
  | [] => by show ([[]] : List (List Nat)).Pairwise _; simp
  | d :: l => by
    refine pairwise_flat (fun t v => t :: v) (steps k d) (choices k l) (steps_sorted k d) (fun t => ?_) fun t t' x y h => ?_
    · rw [List.pairwise_map]
      exact (choices_sorted k l).imp fun h => List.cons_lt_cons_iff.mpr (.inr ⟨rfl, h⟩)
    · exact List.cons_lt_cons_iff.mpr (.inl h)
/-- the first of the least -/
def lf (l : List (List Nat)) (a : List Nat) : List Nat := l.foldl (fun b v => if Ks469.sum v < Ks469.sum b then v else b) a
theorem lf_cons (b : List Nat) (l : List (List Nat)) (a : List Nat) : lf (b :: l) a = lf l (if Ks469.sum b < Ks469.sum a then b else a) := rfl
theorem fold_least : ∀ (l : List (List Nat)) (a : List Nat), (a :: l).Pairwise (· < ·) →
    lf l a ∈ a :: l ∧ ∀ u ∈ a :: l, Ks469.sum (lf l a) < Ks469.sum u ∨ (Ks469.sum (lf l a) = Ks469.sum u ∧ lf l a ≤ u)
  | [], a, _ => ⟨List.mem_cons_self, fun u hu => by rw [List.mem_singleton.mp hu]; exact .inr ⟨rfl, List.le_refl _⟩⟩
  | b :: l, a, h => by
    obtain ⟨ha, hl⟩ := List.pairwise_cons.mp h
    rw [lf_cons]
    by_cases c : Ks469.sum b < Ks469.sum a
    · rw [if_pos c]
      obtain ⟨h1, h2⟩ := fold_least l b hl
      refine ⟨List.mem_cons_of_mem _ h1, fun u hu => ?_⟩
      rcases List.mem_cons.mp hu with rfl | hu
      · have := h2 b List.mem_cons_self
        left
        omega
      · exact h2 u hu
    · rw [if_neg c]
      obtain ⟨h1, h2⟩ := fold_least l a (List.pairwise_cons.mpr ⟨fun x hx => ha x (List.mem_cons_of_mem _ hx), (List.pairwise_cons.mp hl).2⟩)
      refine ⟨?_, fun u hu => ?_⟩
      · rcases List.mem_cons.mp h1 with h1 | h1
        · rw [h1]; exact List.mem_cons_self
        · exact List.mem_cons_of_mem _ (List.mem_cons_of_mem _ h1)
      · rcases List.mem_cons.mp hu with rfl | hu
        · exact h2 _ List.mem_cons_self
        · rcases List.mem_cons.mp hu with rfl | hu
          · have hab : a < u := ha _ List.mem_cons_self
            rcases h2 a List.mem_cons_self with q | ⟨q1, q2⟩
            · left; omega
            · by_cases z : Ks469.sum a < Ks469.sum u
              · left; omega
              · exact .inr ⟨by omega, List.le_trans q2 (List.le_of_lt hab)⟩
          · exact h2 u (List.mem_cons_of_mem _ hu)
theorem leastOf_none {l : List (List Nat)} (h : leastOf l = none) : l = [] := by
  cases l with
  | nil => rfl
  | cons a l => cases h
theorem leastOf_some {l : List (List Nat)} {r : List Nat} (hs : l.Pairwise (· < ·)) (h : leastOf l = some r) : r ∈ l ∧ ∀ u ∈ l, Ks469.sum r < Ks469.sum u ∨ (Ks469.sum r = Ks469.sum u ∧ r ≤ u) := by
  cases l with
  | nil => cases h
  | cons a l =>
    have e := Option.some.inj h
    rw [← e]
    exact fold_least l a hs

/-! ### sums and orders, as whole numbers with sign -/
def iz (v : List Nat) : List Int := v.map Int.ofNat
theorem foldl_sum : ∀ (l : List Nat) (a : Nat), l.foldl (· + ·) a = a + l.foldl (· + ·) 0
  | [], a => rfl
  | x :: l, a => by
    rw [List.foldl_cons, List.foldl_cons, foldl_sum l (a + x), foldl_sum l (0 + x)]; omega
theorem ksum_cons (x : Nat) (l : List Nat) : Ks469.sum (x :: l) = x + Ks469.sum l := by
  unfold Ks469.sum
  rw [List.foldl_cons, foldl_sum]; omega
theorem iz_sum : ∀ v : List Nat, (iz v).sum = (Ks469.sum v : Nat)
  | [] => rfl
  | x :: v => by
    rw [ksum_cons]
    show ((x : Int) :: iz v).sum = _
    rw [List.sum_cons, iz_sum v]; omega
theorem iz_le : ∀ {a b : List Nat}, a ≤ b → iz a ≤ iz b
  | [], b, _ => List.nil_le _
  | x :: a, [], h => by simp at h
  | x :: a, y :: b, h => by
    show (x : Int) :: iz a ≤ (y : Int) :: iz b
    rw [List.cons_le_cons_iff]
    rcases List.cons_le_cons_iff.mp h with h | ⟨h1, h2⟩
    · exact .inl (by omega)
    · exact .inr ⟨by omega, iz_le h2⟩

/-! ### steps and what is worth trying -/
/-- what the specification tries the program tries, too -/
theorem steps_worth (a b t : Nat) (k : Nat) (d : Nat × Nat) (ha : own k d = a) (hb : others k d = b) (h : t ∈ steps k d) : (t : Int) ∈ worth a b ∧ t ≤ b := by
  unfold steps at h
  rw [ha, hb] at h
  unfold worth
  by_cases c : a ≤ b ∧ b ≠ 0
  · rw [if_pos c] at h
    rw [if_neg (by omega)]
    have h3 : t = 0 ∨ t = (b - a) / 2 ∨ t = (b - a) / 2 + 1 := by
      split at h
      · simpa using h
      · rcases (by simpa using h : t = 0 ∨ t = (b - a) / 2 + 1) with h | h
        · exact .inl h
        · exact .inr (.inr h)
    refine ⟨List.mem_filter.mpr ⟨?_, decide_eq_true (by omega)⟩, by omega⟩
    simp only [List.mem_cons, List.not_mem_nil, or_false]
    omega
  · rw [if_neg c] at h
    have h : t = 0 := by simpa using h
    subst h
    refine ⟨?_, Nat.zero_le _⟩
    split
    · simp
    · refine List.mem_filter.mpr ⟨by simp, decide_eq_true (by omega)⟩
/-- what the program tries is no better than something that the specification tries -/
theorem worth_steps (a b : Nat) (o : Int) (k : Nat) (d : Nat × Nat) (ha : own k d = a) (hb : others k d = b) (h : o ∈ worth a b) : ∃ t ∈ steps k d, (t : Int) ≤ o ∧ gain (a + t) (b - t) = gain (a + o) (b - o) := by
  unfold worth at h
  by_cases c0 : (b : Int) < a
  · rw [if_pos c0] at h
    have h : o = 0 := by simpa using h
    subst h
    refine ⟨0, ?_, Int.le_refl _, rfl⟩
    unfold steps
    rw [ha, hb, if_neg (by omega)]
    exact List.mem_cons_self
  · rw [if_neg c0] at h
    obtain ⟨h1, h2⟩ := List.mem_filter.mp h
    have h2 : o ≤ b := of_decide_eq_true h2
    have h1 : o = 0 ∨ o = ((b : Int) - a) / 2 ∨ o = ((b : Int) - a) / 2 + 1 := by simpa using h1
    unfold steps
    rw [ha, hb]
    by_cases c : a ≤ b ∧ b ≠ 0
    · rw [if_pos c]
      by_cases c2 : a < b ∧ (b - a) % 2 = 0
      · rw [if_pos c2]
        refine ⟨o.toNat, ?_, by omega, ?_⟩
        · simp only [List.mem_cons, List.not_mem_nil, or_false]
          omega
        · rw [Int.toNat_of_nonneg (by omega)]
      · rw [if_neg c2]
        rcases h1 with h1 | h1 | h1
        · exact ⟨0, by simp, by omega, by rw [h1]; rfl⟩
        · refine ⟨0, by simp, by omega, ?_⟩
          unfold gain
          by_cases c3 : a = b
          · rw [if_neg (by omega), if_neg (by omega), if_neg (by omega), if_neg (by omega)]
          · rw [if_neg (by omega), if_pos (by omega), if_neg (by omega), if_pos (by omega)]
        · refine ⟨(b - a) / 2 + 1, by simp, by omega, ?_⟩
          have e : (((b - a) / 2 + 1 : Nat) : Int) = o := by omega
          rw [e]
    · rw [if_neg c]
      have h : o = 0 := by omega
      exact ⟨0, by simp, by omega, by rw [h]; rfl⟩

/-! ### the districts as camp k sees them -/
def ori (k : Nat) (N : List (Nat × Nat)) : List (Int × Int) := N.map fun d => ((own k d : Int), (others k d : Int))
theorem SOpt.opt (k : Nat) : ∀ {N : List (Nat × Nat)} {v : List Nat}, SOpt k N v → Opt (ori k N) (iz v)
  | [], [], _ => True.intro
  | d :: N, t :: v, h => ⟨(steps_worth _ _ t k d rfl rfl h.1).1, SOpt.opt k h.2⟩
  | [], _ :: _, h => h.elim
  | _ :: _, [], h => h.elim
/-- every way is matched by one that the specification tries, of no more in any district -/
theorem Opt.sopt (k : Nat) : ∀ {N : List (Nat × Nat)} {v : List Int}, Opt (ori k N) v → ∃ u, SOpt k N u ∧ lead (ori k N) (iz u) = lead (ori k N) v ∧ (iz u).sum ≤ v.sum ∧ iz u ≤ v
  | [], [], _ => ⟨[], True.intro, rfl, Int.le_refl _, List.le_refl _⟩
  | d :: N, o :: v, h => by
    obtain ⟨t, ht, hle, hg⟩ := worth_steps _ _ o k d rfl rfl h.1
    obtain ⟨u, hu, h1, h2, h3⟩ := Opt.sopt k (N := N) (v := v) h.2
    refine ⟨t :: u, ⟨ht, hu⟩, ?_, ?_, ?_⟩
    · show gain (_ + (t : Int)) (_ - (t : Int)) + lead (ori k N) (iz u) = gain _ _ + lead (ori k N) v
      rw [h1]
      congr 1
    · show ((t : Int) :: iz u).sum ≤ _
      rw [List.sum_cons, List.sum_cons]; omega
    · show (t : Int) :: iz u ≤ o :: v
      rw [List.cons_le_cons_iff]
      by_cases c : (t : Int) < o
      · exact .inl c
      · exact .inr ⟨by omega, h3⟩
  | [], _ :: _, h => h.elim
  | _ :: _, [], h => h.elim

/-! ### who leads then -/
theorem zip_shift {β : Type} (f : (Nat × Nat) → Nat → β) (t : Nat) (v : List Nat) : ∀ (l : List (Nat × Nat)) (n : Nat), (l.zipIdx (n + 1)).map (fun x => f x.1 ((t :: v).getD x.2 0)) = (l.zipIdx n).map (fun x => f x.1 (v.getD x.2 0))
  | [], n => rfl
  | d :: l, n => by
    rw [List.zipIdx_cons, List.zipIdx_cons, List.map_cons, List.map_cons, zip_shift f t v l (n + 1)]
    rfl
theorem over_cons (k : Nat) (d : Nat × Nat) (l : List (Nat × Nat)) (t : Nat) (v : List Nat) : over k (d :: l) (t :: v) = (if k = 0 then (d.1 + t, d.2 - t) else (d.1 - t, d.2 + t)) :: over k l v := by
  unfold over
  rw [List.zipIdx_cons, List.map_cons]
  congr 1
  exact zip_shift (fun d t => if k = 0 then (d.1 + t, d.2 - t) else (d.1 - t, d.2 + t)) t v l 0
theorem won_cons (k : Nat) (x : Nat × Nat) (l : List (Nat × Nat)) : Ks469.won k (x :: l) = (if others k x < own k x then 1 else 0) + Ks469.won k l := by
  unfold Ks469.won
  rw [List.filter_cons]
  by_cases c : others k x < own k x
  · rw [if_pos c, if_pos (decide_eq_true c), List.length_cons]; omega
  · rw [if_neg c, if_neg (by rw [decide_eq_true_iff]; exact c)]; omega
theorem lead_won (k : Nat) (hk : k ≤ 1) : ∀ {N : List (Nat × Nat)} {v : List Nat}, SOpt k N v → lead (ori k N) (iz v) = (Ks469.won k (over k N v) : Int) - Ks469.won (1 - k) (over k N v)
  | [], [], _ => by
    show (0 : Int) = _
    show (0 : Int) = ((0 : Nat) : Int) - ((0 : Nat) : Int)
    rfl
  | d :: N, t :: v, h => by
    have ih := lead_won k hk h.2
    have ht := (steps_worth _ _ t k d rfl rfl h.1).2
    show gain ((own k d : Int) + (t : Int)) ((others k d : Int) - (t : Int)) + lead (ori k N) (iz v) = _
    rw [ih, over_cons, won_cons, won_cons]
    have e : ∀ x : Nat × Nat, own k x = own k d + t → others k x = others k d - t → own (1 - k) x = others k x → others (1 - k) x = own k x → gain ((own k d : Int) + (t : Int)) ((others k d : Int) - (t : Int)) = ((if others k x < own k x then 1 else 0 : Nat) : Int) - ((if others (1 - k) x < own (1 - k) x then 1 else 0 : Nat) : Int) := fun x x1 x2 x3 x4 => by
      rw [x3, x4, x1, x2]
      rcases gain_cases ((own k d : Int) + (t : Int)) ((others k d : Int) - (t : Int)) with ⟨c, g⟩ | ⟨c, g⟩ | ⟨c, g⟩
      · have c1 : others k d - t < own k d + t := by omega
        have c2 : ¬ own k d + t < others k d - t := by omega
        rw [g, if_pos c1, if_neg c2]; rfl
      · have c1 : ¬ others k d - t < own k d + t := by omega
        have c2 : own k d + t < others k d - t := by omega
        rw [g, if_neg c1, if_pos c2]; rfl
      · have c1 : ¬ others k d - t < own k d + t := by omega
        have c2 : ¬ own k d + t < others k d - t := by omega
        rw [g, if_neg c1, if_neg c2]; rfl
    have e' : gain ((own k d : Int) + (t : Int)) ((others k d : Int) - (t : Int)) = ((if others k (if k = 0 then (d.1 + t, d.2 - t) else (d.1 - t, d.2 + t)) < own k (if k = 0 then (d.1 + t, d.2 - t) else (d.1 - t, d.2 + t)) then 1 else 0 : Nat) : Int) - ((if others (1 - k) (if k = 0 then (d.1 + t, d.2 - t) else (d.1 - t, d.2 + t)) < own (1 - k) (if k = 0 then (d.1 + t, d.2 - t) else (d.1 - t, d.2 + t)) then 1 else 0 : Nat) : Int) := by
      rcases (by omega : k = 0 ∨ k = 1) with rfl | rfl
      · exact e _ rfl rfl rfl rfl
      · exact e _ rfl rfl rfl rfl
    rw [e']
    omega
  | [], _ :: _, h => h.elim
  | _ :: _, [], h => h.elim
theorem leads_lead {k : Nat} (hk : k ≤ 1) {N : List (Nat × Nat)} {v : List Nat} (h : SOpt k N v) : leads k (over k N v) = true ↔ 0 < lead (ori k N) (iz v) := by
  rw [lead_won k hk h]
  unfold leads
  rw [decide_eq_true_iff]
  omega

/-! ### the answer -/
theorem turn_best {k : Nat} (hk : k ≤ 1) (N : List (Nat × Nat)) : best (ways (ori k N)) = match Ks469.turn k N with
    | none => [-33]
    | some v => ((Ks469.sum v : Nat) : Int) :: iz v := by
  have hs : ((choices k N).filter fun v => leads k (over k N v)).Pairwise (· < ·) := (choices_sorted k N).filter _
  have hin : ∀ u, SOpt k N u → 0 < lead (ori k N) (iz u) → u ∈ (choices k N).filter fun v => leads k (over k N v) := fun u hu hl => List.mem_filter.mpr ⟨(choices_mem k N u).mpr hu, (leads_lead hk hu).mpr hl⟩
  cases e : Ks469.turn k N with
  | none =>
    refine best_none fun v hv hl => ?_
    obtain ⟨u, hu, h1, _, _⟩ := hv.sopt k
    have := hin u hu (by rw [h1]; exact hl)
    rw [leastOf_none e] at this
    cases this
  | some r =>
    obtain ⟨h1, h2⟩ := leastOf_some hs e
    obtain ⟨m1, m2⟩ := List.mem_filter.mp h1
    have hr := (choices_mem k N r).mp m1
    show _ = _ :: _
    rw [← iz_sum]
    refine best_some (hr.opt k) ((leads_lead hk hr).mp m2) fun v hv hl => ?_
    obtain ⟨u, hu, q1, q2, q3⟩ := hv.sopt k
    rw [List.cons_le_cons_iff]
    rcases h2 u (hin u hu (by rw [q1]; exact hl)) with h | ⟨h, h'⟩
    · left
      rw [iz_sum]
      rw [iz_sum] at q2
      omega
    · rw [iz_sum]
      rw [iz_sum] at q2
      by_cases c : ((Ks469.sum r : Nat) : Int) < v.sum
      · exact .inl c
      · exact .inr ⟨by omega, List.le_trans (iz_le h') q3⟩
/-- the districts of land, as camp k sees them -/
def seen (k : Int) (l : List Int) : List (Int × Int) := (pr l).map fun d => (if k = 0 then d.1 else d.2, if k = 0 then d.2 else d.1)
theorem seen_ori (k : Int) (hk : 0 ≤ k) (l : List Int) (h : ∀ x ∈ l, 0 ≤ x) : seen k l = ori k.toNat (nz (pr l)) := by
  unfold seen ori nz
  rw [List.map_map]
  refine List.map_congr_left fun d hd => ?_
  have h1 := h _ (pr_mem l d hd).1
  have h2 := h _ (pr_mem l d hd).2
  show _ = (((own k.toNat (d.1.toNat, d.2.toNat) : Nat) : Int), ((others k.toNat (d.1.toNat, d.2.toNat) : Nat) : Int))
  unfold own others
  by_cases c : k = 0
  · rw [if_pos c, if_pos c, if_pos (by omega), if_pos (by omega)]
    show (d.1, d.2) = ((d.1.toNat : Int), (d.2.toNat : Int))
    rw [Int.toNat_of_nonneg h1, Int.toNat_of_nonneg h2]
  · rw [if_neg c, if_neg c, if_neg (by omega), if_neg (by omega)]
    show (d.2, d.1) = ((d.2.toNat : Int), (d.1.toNat : Int))
    rw [Int.toNat_of_nonneg h1, Int.toNat_of_nonneg h2]
def turn (k : Int) (l : List Int) : List Int := if 1 < k ∨ told l = false then [-22] else best (ways (seen k l))
theorem turn_is (k : Int) (hk : 0 ≤ k) (l : List Int) (h : ∀ x ∈ l, 0 ≤ x) : PyKs469.turn k l = turn k l := by
  show Ks469Neutral.out (Ks469.given (l.map Int.toNat) fun a => Ks469.camp k.toNat fun _ => match Ks469.turn k.toNat a with
    | none => Ks469.no (-33)
    | some v => { ret := ((Ks469.sum v : Nat) : Int), out := v }) = turn k l
  unfold Ks469.given turn
  by_cases c : told l = true
  · rw [if_pos ((told_iff l).mpr c), two_nats]
    show Ks469Neutral.out (Ks469.camp k.toNat fun _ => match Ks469.turn k.toNat (nz (pr l)) with
      | none => Ks469.no (-33)
      | some v => { ret := ((Ks469.sum v : Nat) : Int), out := v }) = _
    unfold Ks469.camp
    by_cases c1 : 1 < k
    · have c2 : 1 < k.toNat := by omega
      rw [if_pos c2, if_pos (Or.inl c1)]
      rfl
    · have c2 : ¬ 1 < k.toNat := by omega
      have c3 : ¬ (1 < k ∨ told l = false) := by rw [c]; simp; omega
      rw [if_neg c2, if_neg c3, seen_ori k hk l h, turn_best (by omega)]
      cases Ks469.turn k.toNat (nz (pr l)) with
      | none => rfl
      | some v => rfl
  · rw [if_neg (fun z => c ((told_iff l).mp z)), if_pos (Or.inr (by simpa using c))]
    rfl
end Cm
namespace Cm
open Ks469 (two okLand steps choices leastOf leads own others over shares splits parted swung)

/-! ### fewest is turn, if all votes were camp 1's -/
def bare (N : List (Nat × Nat)) : List (Nat × Nat) := N.map fun d => (0, d.1 + d.2)
theorem shares_steps (d : Nat × Nat) : shares d = steps 0 (0, d.1 + d.2) := by
  unfold shares steps
  have e1 : own 0 (0, d.1 + d.2) = 0 := rfl
  have e2 : others 0 (0, d.1 + d.2) = d.1 + d.2 := rfl
  rw [e1, e2]
  show (if d.1 + d.2 = 0 then [0] else if (d.1 + d.2) % 2 = 0 then [0, (d.1 + d.2) / 2, (d.1 + d.2) / 2 + 1] else [0, (d.1 + d.2) / 2 + 1]) = _
  generalize d.1 + d.2 = n
  by_cases c : n = 0
  · have c1 : ¬ (0 ≤ n ∧ n ≠ 0) := fun z => z.2 c
    rw [if_pos c, if_neg c1]
  · have c1 : 0 ≤ n ∧ n ≠ 0 := ⟨Nat.zero_le _, c⟩
    rw [if_neg c, if_pos c1, Nat.sub_zero]
    by_cases c' : n % 2 = 0
    · have c2 : 0 < n ∧ n % 2 = 0 := ⟨by omega, c'⟩
      rw [if_pos c', if_pos c2]
    · have c2 : ¬ (0 < n ∧ n % 2 = 0) := fun z => c' z.2
      rw [if_neg c', if_neg c2]
theorem splits_choices : ∀ N : List (Nat × Nat), splits N = choices 0 (bare N)
  | [] => rfl
  | d :: N => by
    show (shares d).flatMap (fun t => (splits N).map fun v => t :: v) = (steps 0 (0, d.1 + d.2)).flatMap (fun t => (choices 0 (bare N)).map fun v => t :: v)
    rw [shares_steps, splits_choices N]
theorem zip_map {β : Type} (f : (Nat × Nat) → Nat → β) (g : Nat × Nat → Nat × Nat) : ∀ (l : List (Nat × Nat)) (n : Nat), ((l.map g).zipIdx n).map (fun x => f x.1 x.2) = (l.zipIdx n).map (fun x => f (g x.1) x.2)
  | [], n => rfl
  | d :: l, n => by
    rw [List.map_cons, List.zipIdx_cons, List.zipIdx_cons, List.map_cons, List.map_cons, zip_map f g l (n + 1)]
theorem parted_over (N : List (Nat × Nat)) (v : List Nat) : parted N v = over 0 (bare N) v := by
  unfold parted over bare
  have e := zip_map (fun d i => let t := v.getD i 0; if (0 : Nat) = 0 then (d.1 + t, d.2 - t) else (d.1 - t, d.2 + t)) (fun d => (0, d.1 + d.2)) N 0
  refine Eq.trans ?_ e.symm
  refine List.map_congr_left fun x _ => ?_
  show (v.getD x.2 0, x.1.1 + x.1.2 - v.getD x.2 0) = (0 + v.getD x.2 0, x.1.1 + x.1.2 - v.getD x.2 0)
  rw [Nat.zero_add]
theorem fewest_turn (N : List (Nat × Nat)) : Ks469.fewest N = Ks469.turn 0 (bare N) := by
  unfold Ks469.fewest Ks469.turn
  rw [splits_choices]
  congr 2
  funext v
  rw [parted_over]
theorem fewest_best (N : List (Nat × Nat)) : best (ways (ori 0 (bare N))) = match Ks469.fewest N with
    | none => [-33]
    | some v => ((Ks469.sum v : Nat) : Int) :: iz v := by
  rw [fewest_turn]
  exact turn_best (by omega) (bare N)

/-! ### who wins how many, of any land, as camp k sees it -/
def scores (k : Nat) (N : List (Nat × Nat)) : List Int := N.map fun d => gain (own k d : Int) (others k d : Int)
theorem others_own {k : Nat} (hk : k ≤ 1) (d : Nat × Nat) : own (1 - k) d = others k d ∧ others (1 - k) d = own k d := by
  rcases (by omega : k = 0 ∨ k = 1) with rfl | rfl
  · exact ⟨rfl, rfl⟩
  · exact ⟨rfl, rfl⟩
theorem scores_won {k : Nat} (hk : k ≤ 1) : ∀ N : List (Nat × Nat), Ks469.won k N = (scores k N).count 1 ∧ Ks469.won (1 - k) N = (scores k N).count (-1) ∧ N.length = Ks469.won k N + Ks469.won (1 - k) N + (scores k N).count 0
  | [] => ⟨rfl, rfl, rfl⟩
  | d :: N => by
    obtain ⟨i1, i2, i3⟩ := scores_won hk N
    obtain ⟨o1, o2⟩ := others_own hk d
    have es : scores k (d :: N) = gain (own k d : Int) (others k d : Int) :: scores k N := rfl
    rw [won_cons, won_cons, o1, o2, es, List.length_cons]
    rcases gain_cases (own k d : Int) (others k d : Int) with ⟨c, g⟩ | ⟨c, g⟩ | ⟨c, g⟩
    · have c1 : others k d < own k d := by omega
      have c2 : ¬ own k d < others k d := by omega
      rw [if_pos c1, if_neg c2, g, List.count_cons_self, List.count_cons_of_ne (by decide), List.count_cons_of_ne (by decide)]
      omega
    · have c1 : ¬ others k d < own k d := by omega
      have c2 : own k d < others k d := by omega
      rw [if_neg c1, if_pos c2, g, List.count_cons_self, List.count_cons_of_ne (by decide), List.count_cons_of_ne (by decide)]
      omega
    · have c1 : ¬ others k d < own k d := by omega
      have c2 : ¬ own k d < others k d := by omega
      rw [if_neg c1, if_neg c2, g, List.count_cons_self, List.count_cons_of_ne (by decide), List.count_cons_of_ne (by decide)]
      omega
theorem tells_scores (N : List (Nat × Nat)) : Ks469Neutral.out (Ks469.tells N) = [(((scores 0 N).count 1 : Nat) : Int), (((scores 0 N).count (-1) : Nat) : Int), (((scores 0 N).count 0 : Nat) : Int)] := by
  obtain ⟨h1, h2, h3⟩ := scores_won (k := 0) (by omega) N
  have h2 : Ks469.won 1 N = (scores 0 N).count (-1) := h2
  have h3 : N.length = Ks469.won 0 N + Ks469.won 1 N + (scores 0 N).count 0 := h3
  show [((Ks469.won 0 N : Nat) : Int), ((Ks469.won 1 N : Nat) : Int), ((N.length - Ks469.won 0 N - Ks469.won 1 N : Nat) : Int)] = _
  have e : N.length - Ks469.won 0 N - Ks469.won 1 N = (scores 0 N).count 0 := by omega
  rw [e, h1, h2]
/-- so many gone over: district by district -/
theorem over_zip (k : Nat) : ∀ (N : List (Nat × Nat)) (v : List Nat), v.length = N.length → over k N v = (N.zip v).map fun x => if k = 0 then (x.1.1 + x.2, x.1.2 - x.2) else (x.1.1 - x.2, x.1.2 + x.2)
  | [], [], _ => rfl
  | d :: N, t :: v, h => by
    rw [over_cons, over_zip k N v (by simpa using h)]
    rfl
  | [], _ :: _, h => by simp at h
  | _ :: _, [], h => by simp at h
def overs (k : Nat) (f : Nat × Nat → Nat) (N : List (Nat × Nat)) : List (Nat × Nat) := N.map fun d => if k = 0 then (d.1 + f d, d.2 - f d) else (d.1 - f d, d.2 + f d)
theorem over_map (k : Nat) (f : Nat × Nat → Nat) : ∀ N : List (Nat × Nat), over k N (N.map f) = overs k f N
  | [] => rfl
  | d :: N => by
    rw [List.map_cons, over_cons, over_map k f N]
    rfl
/-- the scores behind a swing of u -/
theorem scores_swung {k : Nat} (hk : k ≤ 1) (u : Nat) (N : List (Nat × Nat)) : scores k (swung k u N) = N.map fun d => gain ((own k d : Int) + (min u (others k d) : Nat)) ((others k d : Int) - (min u (others k d) : Nat)) := by
  unfold swung scores
  rw [over_map]
  unfold overs
  rw [List.map_map]
  refine List.map_congr_left fun d _ => ?_
  have hm : min u (others k d) ≤ others k d := Nat.min_le_right _ _
  show gain _ _ = gain _ _
  rcases (by omega : k = 0 ∨ k = 1) with rfl | rfl
  · show gain ((d.1 + min u d.2 : Nat) : Int) ((d.2 - min u d.2 : Nat) : Int) = gain ((d.1 : Int) + (min u d.2 : Nat)) ((d.2 : Int) - (min u d.2 : Nat))
    have hm : min u d.2 ≤ d.2 := hm
    rw [show ((d.1 + min u d.2 : Nat) : Int) = (d.1 : Int) + (min u d.2 : Nat) by omega, show ((d.2 - min u d.2 : Nat) : Int) = (d.2 : Int) - (min u d.2 : Nat) by omega]
  · show gain ((d.2 + min u d.1 : Nat) : Int) ((d.1 - min u d.1 : Nat) : Int) = gain ((d.2 : Int) + (min u d.1 : Nat)) ((d.1 : Int) - (min u d.1 : Nat))
    have hm : min u d.1 ≤ d.1 := hm
    rw [show ((d.2 + min u d.1 : Nat) : Int) = (d.2 : Int) + (min u d.1 : Nat) by omega, show ((d.1 - min u d.1 : Nat) : Int) = (d.1 : Int) - (min u d.1 : Nat) by omega]
theorem leads_scores {k : Nat} (hk : k ≤ 1) (N : List (Nat × Nat)) : leads k N = decide ((scores k N).count (-1) < (scores k N).count 1) := by
  obtain ⟨h1, h2, _⟩ := scores_won hk N
  unfold leads
  rw [h1, h2]
theorem gain_mono {a b c d : Int} (h : a ≤ c) (h' : d ≤ b) : gain a b ≤ gain c d := by
  rcases gain_cases a b with ⟨x, g⟩ | ⟨x, g⟩ | ⟨x, g⟩ <;> rcases gain_cases c d with ⟨y, g'⟩ | ⟨y, g'⟩ | ⟨y, g'⟩ <;> rw [g, g'] <;> omega
/-- one district's lead grows with the swing -/
theorem swing_mono (a b : Nat) {u v : Nat} (h : u ≤ v) : gain ((a : Int) + (min u b : Nat)) ((b : Int) - (min u b : Nat)) ≤ gain ((a : Int) + (min v b : Nat)) ((b : Int) - (min v b : Nat)) :=
  gain_mono (by omega) (by omega)
theorem count_sum : ∀ l : List Int, (∀ x ∈ l, x = 1 ∨ x = -1 ∨ x = 0) → l.sum = (l.count 1 : Int) - (l.count (-1) : Int)
  | [], _ => rfl
  | x :: l, h => by
    have ih := count_sum l fun y hy => h y (List.mem_cons_of_mem _ hy)
    rw [List.sum_cons, ih]
    rcases h x List.mem_cons_self with rfl | rfl | rfl
    · rw [List.count_cons_self, List.count_cons_of_ne (by decide)]; omega
    · rw [List.count_cons_self, List.count_cons_of_ne (by decide)]; omega
    · rw [List.count_cons_of_ne (by decide), List.count_cons_of_ne (by decide)]; omega
theorem scores_sum (k : Nat) (N : List (Nat × Nat)) : (scores k N).sum = ((scores k N).count 1 : Int) - ((scores k N).count (-1) : Int) :=
  count_sum _ fun x hx => by
    obtain ⟨d, _, rfl⟩ := List.mem_map.mp hx
    rcases gain_cases (own k d : Int) (others k d : Int) with ⟨_, g⟩ | ⟨_, g⟩ | ⟨_, g⟩ <;> rw [g] <;> omega
end Cm
namespace Cm
open Ks469 (two okLand steps choices leastOf leads own others over shares splits parted swung)

/-! ### what the helpers give: of a camp's own view -/
theorem seen_len (k : Int) (l : List Int) : (seen k l).length = l.length / 2 := by
  unfold seen
  rw [List.length_map, pr_len]
theorem seen_at {k : Int} (h0 : 0 ≤ k) (h1 : k ≤ 1) {l : List Int} {i : Nat} (h : 2 * i + 1 < l.length) : (seen k l)[i]? = some (l.getD (2 * i + k.toNat) 0, l.getD (2 * i + 1 - k.toNat) 0) := by
  unfold seen
  rw [List.getElem?_map, pr_at l i h]
  rcases (by omega : k = 0 ∨ k = 1) with rfl | rfl
  · rfl
  · rfl
def gainsK (k : Int) (l : List Int) : List Int := (seen k l).map fun d => gain d.1 d.2
theorem gainsK_len (k : Int) (l : List Int) : (gainsK k l).length = l.length / 2 := by
  unfold gainsK
  rw [List.length_map, seen_len]
theorem gainsK_at {k : Int} (h0 : 0 ≤ k) (h1 : k ≤ 1) {l : List Int} {i : Nat} (h : 2 * i + 1 < l.length) : (gainsK k l)[i]? = some (gain (l.getD (2 * i + k.toNat) 0) (l.getD (2 * i + 1 - k.toNat) 0)) := by
  unfold gainsK
  rw [List.getElem?_map, seen_at h0 h1 h]
  rfl
theorem gains_gainsK (l : List Int) : gains l = gainsK 0 l := by
  unfold gains gainsK seen
  rw [List.map_map]
  rfl
theorem gainsK_scores {k : Int} (hk : 0 ≤ k) (l : List Int) (h : ∀ x ∈ l, 0 ≤ x) : gainsK k l = scores k.toNat (nz (pr l)) := by
  unfold gainsK scores
  rw [seen_ori k hk l h]
  unfold ori
  rw [List.map_map]
  rfl
theorem told_even {l : List Int} (h : told l = true) : l.length % 2 = 0 := by
  have := (told_iff l).mpr h
  rw [List.length_map] at this
  exact this.1
theorem told_14 {l : List Int} (h : told l = true) : l.length ≤ 14 := by
  unfold told at h
  split at h
  · cases h
  · omega

/-! ### fewest -/
def bareL : List Int → List Int
  | a :: b :: r => 0 :: (a + b) :: bareL r
  | _ => []
theorem bareL_len : ∀ l : List Int, l.length % 2 = 0 → (bareL l).length = l.length
  | [], _ => rfl
  | [_], h => by simp at h
  | a :: b :: r, h => by
    have ih := bareL_len r (by simp at h; omega)
    show (bareL r).length + 1 + 1 = r.length + 1 + 1
    rw [ih]
theorem bareL_more : ∀ (l : List Int) (i : Nat), 2 * i + 1 < l.length → bareL (l.take (2 * (i + 1))) = bareL (l.take (2 * i)) ++ [0, l.getD (2 * i) 0 + l.getD (2 * i + 1) 0]
  | [], _, h => absurd h (Nat.not_lt_zero _)
  | [_], i, h => by simp at h
  | a :: b :: r, 0, _ => rfl
  | a :: b :: r, i + 1, h => by
    have ih := bareL_more r i (by simp at h; omega)
    have e1 : 2 * (i + 1) = 2 * i + 1 + 1 := by omega
    have e2 : 2 * (i + 1 + 1) = 2 * (i + 1) + 1 + 1 := by omega
    rw [e2, List.take_succ_cons, List.take_succ_cons]
    show 0 :: (a + b) :: bareL (r.take (2 * (i + 1))) = _
    rw [ih, e1]
    rfl
theorem bareL_pr : ∀ l : List Int, pr (bareL l) = (pr l).map fun d => (0, d.1 + d.2)
  | [] => rfl
  | [_] => rfl
  | a :: b :: r => by
    show (0, a + b) :: pr (bareL r) = (0, a + b) :: (pr r).map fun d => (0, d.1 + d.2)
    rw [bareL_pr r]
theorem bareL_bare (l : List Int) (h : ∀ x ∈ l, 0 ≤ x) : nz (pr (bareL l)) = bare (nz (pr l)) := by
  rw [bareL_pr]
  unfold nz bare
  rw [List.map_map, List.map_map]
  refine List.map_congr_left fun d hd => ?_
  have h1 := h _ (pr_mem l d hd).1
  have h2 := h _ (pr_mem l d hd).2
  show ((0 : Int).toNat, (d.1 + d.2).toNat) = (0, d.1.toNat + d.2.toNat)
  have e : (d.1 + d.2).toNat = d.1.toNat + d.2.toNat := by omega
  rw [e]
  rfl
theorem bareL_nonneg : ∀ l : List Int, (∀ x ∈ l, 0 ≤ x) → ∀ x ∈ bareL l, 0 ≤ x
  | [], _, x, hx => by cases hx
  | [_], _, x, hx => by cases hx
  | a :: b :: r, h, x, hx => by
    have ha := h a List.mem_cons_self
    have hb := h b (List.mem_cons_of_mem _ List.mem_cons_self)
    have hx : x ∈ 0 :: (a + b) :: bareL r := hx
    rcases List.mem_cons.mp hx with rfl | hx
    · exact Int.le_refl _
    · rcases List.mem_cons.mp hx with rfl | hx
      · omega
      · exact bareL_nonneg r (fun y hy => h y (List.mem_cons_of_mem _ (List.mem_cons_of_mem _ hy))) x hx
def fewest (l : List Int) : List Int := if told l = true then best (ways (seen 0 (bareL l))) else [-22]
theorem fewest_is (l : List Int) (h : ∀ x ∈ l, 0 ≤ x) : PyKs469.fewest l = fewest l := by
  show Ks469Neutral.out (Ks469.given (l.map Int.toNat) fun a => match Ks469.fewest a with
    | none => Ks469.no (-33)
    | some v => { ret := ((Ks469.sum v : Nat) : Int), out := v }) = fewest l
  unfold Ks469.given fewest
  by_cases c : told l = true
  · rw [if_pos ((told_iff l).mpr c), two_nats, if_pos c, seen_ori 0 (by decide) _ (bareL_nonneg l h), bareL_bare l h]
    show _ = best (ways (ori 0 (bare (nz (pr l)))))
    rw [fewest_best]
    show Ks469Neutral.out (match Ks469.fewest (nz (pr l)) with
      | none => Ks469.no (-33)
      | some v => { ret := ((Ks469.sum v : Nat) : Int), out := v }) = _
    cases Ks469.fewest (nz (pr l)) with
    | none => rfl
    | some v => rfl
  · rw [if_neg (fun z => c ((told_iff l).mp z)), if_neg c]
    rfl

/-! ### swing -/
/-- the first n districts swung by u to camp k, the others as they were -/
def swN (k u : Int) : Nat → List Int → List Int
  | n + 1, a :: b :: r => if k = 0 then (a + min u b) :: (b - min u b) :: swN k u n r else (a - min u a) :: (b + min u a) :: swN k u n r
  | _, l => l
theorem swN_len (k u : Int) : ∀ (n : Nat) (l : List Int), (swN k u n l).length = l.length
  | 0, l => by cases l <;> rfl
  | n + 1, [] => rfl
  | n + 1, [_] => rfl
  | n + 1, a :: b :: r => by
    have ih := swN_len k u n r
    unfold swN
    split
    · rw [List.length_cons, List.length_cons, ih]; rfl
    · rw [List.length_cons, List.length_cons, ih]; rfl
theorem swN_more {k : Int} (h0 : 0 ≤ k) (h1 : k ≤ 1) (u : Int) : ∀ (i : Nat) (l : List Int), 2 * i + 1 < l.length →
    ((swN k u i l).set (2 * i + k.toNat) (l.getD (2 * i + k.toNat) 0 + min u (l.getD (2 * i + 1 - k.toNat) 0))).set (2 * i + 1 - k.toNat) (l.getD (2 * i + 1 - k.toNat) 0 - min u (l.getD (2 * i + 1 - k.toNat) 0)) = swN k u (i + 1) l
  | _, [], h => absurd h (Nat.not_lt_zero _)
  | i, [_], h => by simp at h
  | 0, a :: b :: r, _ => by
    rcases (by omega : k = 0 ∨ k = 1) with rfl | rfl
    · cases r <;> rfl
    · cases r <;> rfl
  | i + 1, a :: b :: r, h => by
    have ih := swN_more h0 h1 u i r (by simp at h; omega)
    have e1 : 2 * (i + 1) + k.toNat = 2 * i + k.toNat + 1 + 1 := by omega
    have e2 : 2 * (i + 1) + 1 - k.toNat = 2 * i + 1 - k.toNat + 1 + 1 := by omega
    rw [e1, e2]
    rcases (by omega : k = 0 ∨ k = 1) with rfl | rfl
    · show (a + min u b) :: (b - min u b) :: (((swN 0 u i r).set (2 * i + 0) (r.getD (2 * i + 0) 0 + min u (r.getD (2 * i + 1 - 0) 0))).set (2 * i + 1 - 0) (r.getD (2 * i + 1 - 0) 0 - min u (r.getD (2 * i + 1 - 0) 0))) = (a + min u b) :: (b - min u b) :: swN 0 u (i + 1) r
      exact congrArg (fun z => (a + min u b) :: (b - min u b) :: z) ih
    · show (a - min u a) :: (b + min u a) :: (((swN 1 u i r).set (2 * i + 1) (r.getD (2 * i + 1) 0 + min u (r.getD (2 * i + 1 - 1) 0))).set (2 * i + 1 - 1) (r.getD (2 * i + 1 - 1) 0 - min u (r.getD (2 * i + 1 - 1) 0))) = (a - min u a) :: (b + min u a) :: swN 1 u (i + 1) r
      exact congrArg (fun z => (a - min u a) :: (b + min u a) :: z) ih
/-- all swung -/
def sw (k u : Int) (l : List Int) : List Int := swN k u (l.length / 2) l
theorem sw_cons (k u a b : Int) (r : List Int) : sw k u (a :: b :: r) = if k = 0 then (a + min u b) :: (b - min u b) :: sw k u r else (a - min u a) :: (b + min u a) :: sw k u r := by
  unfold sw
  have e : (a :: b :: r).length / 2 = r.length / 2 + 1 := by
    show (r.length + 1 + 1) / 2 = _
    omega
  rw [e]
  rfl
theorem gainsK_sw {k : Int} (h0 : 0 ≤ k) (h1 : k ≤ 1) (u : Nat) : ∀ l : List Int, (∀ x ∈ l, 0 ≤ x) → gainsK k (sw k u l) = scores k.toNat (swung k.toNat u (nz (pr l)))
  | [], _ => by rw [scores_swung (by omega)]; rfl
  | [x], _ => by
    rw [scores_swung (by omega)]
    have e : sw k u [x] = [x] := by
      unfold sw
      rw [show [x].length / 2 = 0 by simp]
      rfl
    rw [e]
    rfl
  | a :: b :: r, h => by
    have ha := h a List.mem_cons_self
    have hb := h b (List.mem_cons_of_mem _ List.mem_cons_self)
    have ih := gainsK_sw h0 h1 u r fun y hy => h y (List.mem_cons_of_mem _ (List.mem_cons_of_mem _ hy))
    rw [scores_swung (by omega)] at ih ⊢
    show _ = gain (((own k.toNat (a.toNat, b.toNat) : Nat) : Int) + (min u (others k.toNat (a.toNat, b.toNat)) : Nat)) (((others k.toNat (a.toNat, b.toNat) : Nat) : Int) - (min u (others k.toNat (a.toNat, b.toNat)) : Nat)) :: (nz (pr r)).map _
    rw [← ih, sw_cons]
    rcases (by omega : k = 0 ∨ k = 1) with rfl | rfl
    · rw [if_pos rfl]
      show gain (a + min (u : Int) b) (b - min (u : Int) b) :: gainsK 0 (sw 0 u r) = gain ((a.toNat : Int) + (min u b.toNat : Nat)) ((b.toNat : Int) - (min u b.toNat : Nat)) :: gainsK 0 (sw 0 u r)
      have e1 : a + min (u : Int) b = (a.toNat : Int) + (min u b.toNat : Nat) := by omega
      have e2 : b - min (u : Int) b = (b.toNat : Int) - (min u b.toNat : Nat) := by omega
      rw [e1, e2]
    · rw [if_neg (by decide)]
      show gain (b + min (u : Int) a) (a - min (u : Int) a) :: gainsK 1 (sw 1 u r) = gain ((b.toNat : Int) + (min u a.toNat : Nat)) ((a.toNat : Int) - (min u a.toNat : Nat)) :: gainsK 1 (sw 1 u r)
      have e1 : b + min (u : Int) a = (b.toNat : Int) + (min u a.toNat : Nat) := by omega
      have e2 : a - min (u : Int) a = (a.toNat : Int) - (min u a.toNat : Nat) := by omega
      rw [e1, e2]
def swing (k : Int) (l : List Int) : List Int := if 1 < k ∨ told l = false then [-22] else
  match (List.range (Ks469.VOTES + 1)).find? fun u => decide (0 < (gainsK k (sw k (u : Nat) l)).sum) with
  | none => [-33]
  | some u => [((u : Nat) : Int), ((gainsK k (sw k (u : Nat) l)).count 1 : Nat), ((gainsK k (sw k (u : Nat) l)).count (-1) : Nat)]
theorem swing_spec (k : Int) (l : List Int) : PyKs469.swing k l = Ks469Neutral.out (Ks469.answer (.swing k.toNat (l.map Int.toNat))) := rfl
theorem swing_is (k : Int) (hk : 0 ≤ k) (l : List Int) (h : ∀ x ∈ l, 0 ≤ x) : PyKs469.swing k l = swing k l := by
  rw [swing_spec, Ks469.answer]
  unfold Ks469.given swing
  by_cases c : told l = true
  · rw [if_pos ((told_iff l).mpr c), two_nats]
    unfold Ks469.camp
    dsimp only
    by_cases c1 : 1 < k
    · have c2 : 1 < k.toNat := by omega
      rw [if_pos c2, if_pos (Or.inl c1)]
      rfl
    · have c2 : ¬ 1 < k.toNat := by omega
      have c3 : ¬ (1 < k ∨ told l = false) := by rw [c]; simp; omega
      have hk1 : k ≤ 1 := by omega
      have hn : k.toNat ≤ 1 := by omega
      rw [if_neg c2, if_neg c3]
      have ef : (fun u : Nat => decide (0 < (gainsK k (sw k (u : Nat) l)).sum)) = fun u => leads k.toNat (swung k.toNat u (nz (pr l))) := by
        funext u
        rw [gainsK_sw hk hk1 u l h, leads_scores hn, scores_sum]
        exact decide_eq_decide.mpr (by omega)
      rw [ef]
      unfold Ks469.swing
      generalize hx : (List.range (Ks469.VOTES + 1)).find? (fun u => leads k.toNat (swung k.toNat u (nz (pr l)))) = x
      cases x with
      | none => rfl
      | some u =>
        obtain ⟨w1, w2, _⟩ := scores_won hn (swung k.toNat u (nz (pr l)))
        show [((u : Nat) : Int), ((Ks469.won k.toNat (swung k.toNat u (nz (pr l))) : Nat) : Int), ((Ks469.won (1 - k.toNat) (swung k.toNat u (nz (pr l))) : Nat) : Int)] = [((u : Nat) : Int), ((gainsK k (sw k (u : Nat) l)).count 1 : Nat), ((gainsK k (sw k (u : Nat) l)).count (-1) : Nat)]
        rw [gainsK_sw hk hk1 u l h, w1, w2]
  · rw [if_neg (fun z => c ((told_iff l).mp z)), if_pos (Or.inr (by simpa using c))]
    rfl
/-- the first that leads -/
theorem swing_at {k : Int} {l : List Int} (hk : k ≤ 1) (ht : told l = true) {i : Nat} (hi : i < 1001) (no : ∀ u < i, ¬ 0 < (gainsK k (sw k (u : Nat) l)).sum) (yes : 0 < (gainsK k (sw k (i : Nat) l)).sum) :
    swing k l = [((i : Nat) : Int), ((gainsK k (sw k (i : Nat) l)).count 1 : Nat), ((gainsK k (sw k (i : Nat) l)).count (-1) : Nat)] := by
  have c3 : ¬ (1 < k ∨ told l = false) := by rw [ht]; simp; omega
  have e : (List.range (Ks469.VOTES + 1)).find? (fun u => decide (0 < (gainsK k (sw k (u : Nat) l)).sum)) = some i :=
    List.find?_range_eq_some.mpr ⟨decide_eq_true yes, List.mem_range.mpr (show i < 1000 + 1 from hi), fun j hj => by
      rw [decide_eq_false (no j hj)]
      rfl⟩
  unfold swing
  rw [if_neg c3, e]
theorem swing_none {k : Int} {l : List Int} (hk : k ≤ 1) (ht : told l = true) (no : ∀ u < 1001, ¬ 0 < (gainsK k (sw k (u : Nat) l)).sum) : swing k l = [-33] := by
  have c3 : ¬ (1 < k ∨ told l = false) := by rw [ht]; simp; omega
  have e : (List.range (Ks469.VOTES + 1)).find? (fun u => decide (0 < (gainsK k (sw k (u : Nat) l)).sum)) = none :=
    List.find?_range_eq_none.mpr fun j hj => by
      have hj : j < 1000 + 1 := hj
      rw [decide_eq_false (no j (by omega))]
      rfl
  unfold swing
  rw [if_neg c3, e]
end Cm
namespace Cm
open Ks469 (two okLand own others over)

/-! ### idle: what is due, over the camp's own view -/
def idleOf (a b : Int) : Int := if b < a then a - b - 1 else a
def idles (k : Int) (l : List Int) : List Int := (seen k l).map fun d => idleOf d.1 d.2
theorem sum_cons (a : Nat) (l : List Nat) : Ks469.sum (a :: l) = a + Ks469.sum l := by
  have h : ∀ (l : List Nat) (x y : Nat), l.foldl (· + ·) (x + y) = x + l.foldl (· + ·) y := by
    intro l
    induction l with
    | nil => intro x y; rfl
    | cons z l ih =>
      intro x y
      show l.foldl (· + ·) (x + y + z) = x + l.foldl (· + ·) (y + z)
      rw [Nat.add_assoc]
      exact ih x (y + z)
  show l.foldl (· + ·) (0 + a) = a + l.foldl (· + ·) 0
  rw [Nat.zero_add]
  exact h l a 0
theorem idle_cons (k : Nat) (d : Nat × Nat) (N : List (Nat × Nat)) : Ks469.idle k (d :: N) = (if others k d < own k d then own k d - others k d - 1 else own k d) + Ks469.idle k N := by
  unfold Ks469.idle
  rw [List.map_cons, sum_cons]
theorem idles_idle {k : Int} (hk : 0 ≤ k) (l : List Int) (h : ∀ x ∈ l, 0 ≤ x) : (idles k l).sum = ((Ks469.idle k.toNat (nz (pr l)) : Nat) : Int) := by
  unfold idles
  rw [seen_ori k hk l h]
  generalize nz (pr l) = N
  induction N with
  | nil => rfl
  | cons d N ih =>
    rw [idle_cons]
    show (idleOf (own k.toNat d : Int) (others k.toNat d : Int) :: (ori k.toNat N).map fun d => idleOf d.1 d.2).sum = _
    rw [List.sum_cons, ih]
    unfold idleOf
    by_cases c : others k.toNat d < own k.toNat d
    · rw [if_pos c, if_pos (by omega)]; omega
    · rw [if_neg c, if_neg (by omega)]; omega
def idle (l : List Int) : List Int := if told l = true then [(idles 0 l).sum, (idles 1 l).sum] else [-22]
theorem idle_is (l : List Int) (h : ∀ x ∈ l, 0 ≤ x) : PyKs469.idle l = idle l := by
  show Ks469Neutral.out (Ks469.given (l.map Int.toNat) fun a => { ret := ((Ks469.idle 0 a : Nat) : Int), out := [Ks469.idle 1 a] }) = idle l
  unfold Ks469.given idle
  by_cases c : told l = true
  · rw [if_pos ((told_iff l).mpr c), if_pos c, two_nats, idles_idle (by decide) l h, idles_idle (by decide) l h]
    rfl
  · rw [if_neg (fun z => c ((told_iff l).mp z)), if_neg c]
    rfl

/-! ### what is told of a list of gains -/
def tellG (g : List Int) : List Int := [((g.count 1 : Nat) : Int), ((g.count (-1) : Nat) : Int), ((g.count 0 : Nat) : Int)]
theorem tellG_perm {g g' : List Int} (h : g.Perm g') : tellG g = tellG g' := by
  unfold tellG
  rw [h.count_eq, h.count_eq, h.count_eq]
theorem won_tellG (l : List Int) (h : told l = true) : won l = tellG (gains l) := if_pos h
def gs (L : List (Int × Int)) : List Int := L.map fun d => gain d.1 d.2
theorem tells_gs (L : List (Int × Int)) (h : ∀ d ∈ L, 0 ≤ d.1 ∧ 0 ≤ d.2) : Ks469Neutral.out (Ks469.tells (nz L)) = tellG (gs L) := by
  rw [tells_scores]
  have e : scores 0 (nz L) = gs L := by
    unfold scores nz gs
    rw [List.map_map]
    refine List.map_congr_left fun d hd => ?_
    have z := h d hd
    show gain ((d.1.toNat : Nat) : Int) ((d.2.toNat : Nat) : Int) = gain d.1 d.2
    rw [Int.toNat_of_nonneg z.1, Int.toNat_of_nonneg z.2]
  rw [e]
  rfl

/-! ### joined -/
def restP (i j : Nat) (L : List (Int × Int)) : List (Int × Int) := (L.zipIdx.filter fun x => x.2 != i && x.2 != j).map fun x => x.1
def joinP (i j : Nat) (L : List (Int × Int)) : List (Int × Int) := ((L.getD i (0, 0)).1 + (L.getD j (0, 0)).1, (L.getD i (0, 0)).2 + (L.getD j (0, 0)).2) :: restP i j L
theorem zip_filter_map (p : Nat → Bool) (f : Int × Int → Nat × Nat) : ∀ (L : List (Int × Int)) (n : Nat), (((L.map f).zipIdx n).filter fun x => p x.2).map (fun x => x.1) = (((L.zipIdx n).filter fun x => p x.2).map fun x => x.1).map f
  | [], _ => rfl
  | d :: L, n => by
    have ih := zip_filter_map p f L (n + 1)
    rw [List.map_cons, List.zipIdx_cons, List.zipIdx_cons, List.filter_cons, List.filter_cons]
    show (if p n = true then (f d, n) :: _ else _ : List _).map _ = ((if p n = true then (d, n) :: _ else _ : List _).map _).map f
    by_cases c : p n = true
    · rw [if_pos c, if_pos c, List.map_cons, List.map_cons, List.map_cons, ih]
    · rw [if_neg c, if_neg c, ih]
theorem getD_nz (L : List (Int × Int)) (i : Nat) : (nz L).getD i (0, 0) = ((L.getD i (0, 0)).1.toNat, (L.getD i (0, 0)).2.toNat) := by
  unfold nz
  rw [List.getD_eq_getElem?_getD, List.getElem?_map, List.getD_eq_getElem?_getD]
  cases L[i]? with
  | none => rfl
  | some d => rfl
theorem getD_nonneg {L : List (Int × Int)} (h : ∀ d ∈ L, 0 ≤ d.1 ∧ 0 ≤ d.2) (i : Nat) : 0 ≤ (L.getD i (0, 0)).1 ∧ 0 ≤ (L.getD i (0, 0)).2 := by
  rw [List.getD_eq_getElem?_getD]
  cases e : L[i]? with
  | none => exact ⟨Int.le_refl _, Int.le_refl _⟩
  | some d => exact h d (List.mem_of_getElem? e)
theorem joinP_nz (i j : Nat) (L : List (Int × Int)) (h : ∀ d ∈ L, 0 ≤ d.1 ∧ 0 ≤ d.2) : Ks469.joined (nz L) i j = nz (joinP i j L) := by
  have g1 := getD_nonneg h i
  have g2 := getD_nonneg h j
  show (((nz L).getD i (0, 0)).1 + ((nz L).getD j (0, 0)).1, ((nz L).getD i (0, 0)).2 + ((nz L).getD j (0, 0)).2) :: (((nz L).zipIdx.filter fun x => x.2 != i && x.2 != j).map fun x => x.1) = _
  rw [getD_nz, getD_nz]
  have e := zip_filter_map (fun n => n != i && n != j) (fun d => (d.1.toNat, d.2.toNat)) L 0
  refine (congrArg (List.cons _) e).trans ?_
  show _ = (((L.getD i (0, 0)).1 + (L.getD j (0, 0)).1).toNat, ((L.getD i (0, 0)).2 + (L.getD j (0, 0)).2).toNat) :: nz (restP i j L)
  have e1 : ((L.getD i (0, 0)).1 + (L.getD j (0, 0)).1).toNat = (L.getD i (0, 0)).1.toNat + (L.getD j (0, 0)).1.toNat := by omega
  have e2 : ((L.getD i (0, 0)).2 + (L.getD j (0, 0)).2).toNat = (L.getD i (0, 0)).2.toNat + (L.getD j (0, 0)).2.toNat := by omega
  rw [e1, e2]
  rfl
theorem restP_mem {i j : Nat} {L : List (Int × Int)} {d : Int × Int} (h : d ∈ restP i j L) : d ∈ L := by
  unfold restP at h
  obtain ⟨x, hx, rfl⟩ := List.mem_map.mp h
  obtain ⟨a, n⟩ := x
  exact List.fst_mem_of_mem_zipIdx (List.mem_filter.mp hx).1
theorem joinP_nonneg {i j : Nat} {L : List (Int × Int)} (h : ∀ d ∈ L, 0 ≤ d.1 ∧ 0 ≤ d.2) : ∀ d ∈ joinP i j L, 0 ≤ d.1 ∧ 0 ≤ d.2 := fun d hd => by
  have g1 := getD_nonneg h i
  have g2 := getD_nonneg h j
  rcases List.mem_cons.mp hd with rfl | hd
  · exact ⟨by show 0 ≤ _ + _; omega, by show 0 ≤ _ + _; omega⟩
  · exact h d (restP_mem hd)
def joined (i j : Int) (l : List Int) : List Int := if told l = true then (if ((l.length / 2 : Nat) : Int) ≤ i ∨ ((l.length / 2 : Nat) : Int) ≤ j then [-2] else if i = j then [-22] else tellG (gs (joinP i.toNat j.toNat (pr l)))) else [-22]
theorem joined_is (i j : Int) (hi : 0 ≤ i) (hj : 0 ≤ j) (l : List Int) (h : ∀ x ∈ l, 0 ≤ x) : PyKs469.joined i j l = joined i j l := by
  show Ks469Neutral.out (Ks469.given (l.map Int.toNat) fun a => if a.length ≤ i.toNat ∨ a.length ≤ j.toNat then Ks469.no (-2) else if i.toNat = j.toNat then Ks469.no (-22) else Ks469.tells (Ks469.joined a i.toNat j.toNat)) = joined i j l
  unfold Ks469.given joined
  by_cases c : told l = true
  · rw [if_pos ((told_iff l).mpr c), if_pos c, two_nats]
    have hp : ∀ d ∈ pr l, 0 ≤ d.1 ∧ 0 ≤ d.2 := fun d hd => ⟨h _ (pr_mem l d hd).1, h _ (pr_mem l d hd).2⟩
    have el : (nz (pr l)).length = l.length / 2 := by
      unfold nz
      rw [List.length_map, pr_len]
    dsimp only
    rw [el]
    by_cases c1 : ((l.length / 2 : Nat) : Int) ≤ i ∨ ((l.length / 2 : Nat) : Int) ≤ j
    · rw [if_pos c1, if_pos (by omega)]
      rfl
    · rw [if_neg c1, if_neg (by omega)]
      by_cases c2 : i = j
      · rw [if_pos c2, if_pos (by rw [c2])]
        rfl
      · rw [if_neg c2, if_neg (by omega), joinP_nz _ _ _ hp, tells_gs _ (joinP_nonneg hp)]
  · rw [if_neg (fun z => c ((told_iff l).mp z)), if_neg c]
    rfl
theorem zip_fst : ∀ (L : List (Int × Int)) (n : Nat), (L.zipIdx n).map (fun x => x.1) = L
  | [], _ => rfl
  | d :: L, n => by rw [List.zipIdx_cons, List.map_cons, zip_fst L (n + 1)]
/-- the rest, by taking both out: the later one first -/
theorem restN_one (p : Nat) : ∀ (L : List (Int × Int)) (n : Nat), ((L.zipIdx n).filter fun x => x.2 != n + p).map (fun x => x.1) = L.eraseIdx p
  | [], n => by cases p <;> rfl
  | d :: L, n => by
    rw [List.zipIdx_cons, List.filter_cons]
    cases p with
    | zero =>
      have c : ¬ ((n != n + 0) = true) := by simp
      rw [if_neg c]
      show _ = L
      have e : (L.zipIdx (n + 1)).filter (fun x => x.2 != n + 0) = L.zipIdx (n + 1) := by
        refine List.filter_eq_self.mpr fun x hx => ?_
        have := List.le_snd_of_mem_zipIdx hx
        simp
        omega
      rw [e]
      exact zip_fst L (n + 1)
    | succ p =>
      have c : (n != n + (p + 1)) = true := by simp
      rw [if_pos c, List.map_cons]
      have ih := restN_one p L (n + 1)
      rw [show n + 1 + p = n + (p + 1) by omega] at ih
      rw [ih]
      rfl
theorem restN_two : ∀ (L : List (Int × Int)) (n i j : Nat), i < j → ((L.zipIdx n).filter fun x => x.2 != n + i && x.2 != n + j).map (fun x => x.1) = (L.eraseIdx j).eraseIdx i
  | [], n, i, j, _ => by cases i <;> cases j <;> rfl
  | d :: L, n, 0, j + 1, _ => by
    rw [List.zipIdx_cons, List.filter_cons]
    have c : ¬ ((n != n + 0 && n != n + (j + 1)) = true) := by simp
    rw [if_neg c]
    show _ = L.eraseIdx j
    rw [← restN_one j L (n + 1)]
    congr 1
    refine List.filter_congr fun x hx => ?_
    have := List.le_snd_of_mem_zipIdx hx
    rw [show n + 1 + j = n + (j + 1) by omega]
    have e : (x.2 != n + 0) = true := by simp; omega
    rw [e, Bool.true_and]
  | d :: L, n, i + 1, j + 1, hij => by
    rw [List.zipIdx_cons, List.filter_cons]
    have c : (n != n + (i + 1) && n != n + (j + 1)) = true := by simp
    rw [if_pos c, List.map_cons]
    have ih := restN_two L (n + 1) i j (by omega)
    rw [show n + 1 + i = n + (i + 1) by omega, show n + 1 + j = n + (j + 1) by omega] at ih
    rw [ih]
    rfl
theorem restP_erase {i j : Nat} (h : i < j) (L : List (Int × Int)) : restP i j L = (L.eraseIdx j).eraseIdx i := by
  have e := restN_two L 0 i j h
  rw [Nat.zero_add, Nat.zero_add] at e
  exact e
theorem restP_swap (i j : Nat) (L : List (Int × Int)) : restP i j L = restP j i L := by
  unfold restP
  congr 2
  funext x
  exact Bool.and_comm _ _

/-! ### moved -/
/-- so many gone over to camp k, district by district -/
def mv (k : Int) : List Int → List Int → List Int
  | t :: v, a :: b :: r => if k = 0 then (a + t) :: (b - t) :: mv k v r else (a - t) :: (b + t) :: mv k v r
  | _, _ => []
def fits (k : Int) (l v : List Int) : Bool := decide (v.length = l.length / 2) && ((seen k l).zip v).all fun x => decide (x.2 ≤ x.1.2)
def moved (k : Int) (l v : List Int) : List Int := if 1 < k ∨ told l = false then [-22] else if fits k l v = true then tellG (gains (mv k v l)) else [-22]
theorem all_fits {k : Int} (h0 : 0 ≤ k) (h1 : k ≤ 1) : ∀ (l v : List Int), (∀ x ∈ l, 0 ≤ x) → (∀ x ∈ v, 0 ≤ x) → ((nz (pr l)).zip (v.map Int.toNat)).all (fun x => decide (x.2 ≤ others k.toNat x.1)) = ((seen k l).zip v).all fun x => decide (x.2 ≤ x.1.2)
  | [], v, _, _ => by cases v <;> rfl
  | [_], v, _, _ => by cases v <;> rfl
  | a :: b :: r, [], _, _ => rfl
  | a :: b :: r, t :: v, h, hv => by
    have ha := h a List.mem_cons_self
    have hb := h b (List.mem_cons_of_mem _ List.mem_cons_self)
    have ht := hv t List.mem_cons_self
    have ih := all_fits h0 h1 r v (fun y hy => h y (List.mem_cons_of_mem _ (List.mem_cons_of_mem _ hy))) fun y hy => hv y (List.mem_cons_of_mem _ hy)
    show (decide (t.toNat ≤ others k.toNat (a.toNat, b.toNat)) && ((nz (pr r)).zip (v.map Int.toNat)).all (fun x => decide (x.2 ≤ others k.toNat x.1))) = (decide (t ≤ (if k = 0 then b else a)) && ((seen k r).zip v).all fun x => decide (x.2 ≤ x.1.2))
    rw [ih]
    congr 1
    rcases (by omega : k = 0 ∨ k = 1) with rfl | rfl
    · exact decide_eq_decide.mpr (by show t.toNat ≤ b.toNat ↔ t ≤ b; omega)
    · exact decide_eq_decide.mpr (by show t.toNat ≤ a.toNat ↔ t ≤ a; omega)
theorem mv_over {k : Int} (h0 : 0 ≤ k) (h1 : k ≤ 1) : ∀ (l v : List Int), (∀ x ∈ l, 0 ≤ x) → (∀ x ∈ v, 0 ≤ x) → v.length = l.length / 2 → ((seen k l).zip v).all (fun x => decide (x.2 ≤ x.1.2)) = true →
    nz (pr (mv k v l)) = over k.toNat (nz (pr l)) (v.map Int.toNat) ∧ ∀ d ∈ pr (mv k v l), 0 ≤ d.1 ∧ 0 ≤ d.2
  | [], [], _, _, _, _ => ⟨rfl, fun d hd => by cases hd⟩
  | [], _ :: _, _, _, h, _ => by simp at h
  | [_], [], _, _, _, _ => ⟨rfl, fun d hd => by cases hd⟩
  | [_], _ :: _, _, _, h, _ => by simp at h
  | a :: b :: r, [], _, _, h, _ => by simp at h; omega
  | a :: b :: r, t :: v, h, hv, hl, hf => by
    have ha := h a List.mem_cons_self
    have hb := h b (List.mem_cons_of_mem _ List.mem_cons_self)
    have ht := hv t List.mem_cons_self
    have hf : (decide (t ≤ (if k = 0 then b else a)) && ((seen k r).zip v).all fun x => decide (x.2 ≤ x.1.2)) = true := hf
    rw [Bool.and_eq_true] at hf
    have hle := of_decide_eq_true hf.1
    obtain ⟨ih, ihn⟩ := mv_over h0 h1 r v (fun y hy => h y (List.mem_cons_of_mem _ (List.mem_cons_of_mem _ hy))) (fun y hy => hv y (List.mem_cons_of_mem _ hy)) (by simp at hl; omega) hf.2
    rcases (by omega : k = 0 ∨ k = 1) with rfl | rfl
    · have hle : t ≤ b := hle
      refine ⟨?_, fun d hd => ?_⟩
      · show ((a + t).toNat, (b - t).toNat) :: nz (pr (mv 0 v r)) = over 0 ((a.toNat, b.toNat) :: nz (pr r)) (t.toNat :: v.map Int.toNat)
        rw [over_cons, ih]
        show _ = (a.toNat + t.toNat, b.toNat - t.toNat) :: _
        have e1 : (a + t).toNat = a.toNat + t.toNat := by omega
        have e2 : (b - t).toNat = b.toNat - t.toNat := by omega
        rw [e1, e2]
        rfl
      · have hd : d ∈ (a + t, b - t) :: pr (mv 0 v r) := hd
        rcases List.mem_cons.mp hd with rfl | hd
        · exact ⟨by show 0 ≤ a + t; omega, by show 0 ≤ b - t; omega⟩
        · exact ihn d hd
    · have hle : t ≤ a := hle
      refine ⟨?_, fun d hd => ?_⟩
      · show ((a - t).toNat, (b + t).toNat) :: nz (pr (mv 1 v r)) = over 1 ((a.toNat, b.toNat) :: nz (pr r)) (t.toNat :: v.map Int.toNat)
        rw [over_cons, ih]
        show _ = (a.toNat - t.toNat, b.toNat + t.toNat) :: _
        have e1 : (a - t).toNat = a.toNat - t.toNat := by omega
        have e2 : (b + t).toNat = b.toNat + t.toNat := by omega
        rw [e1, e2]
        rfl
      · have hd : d ∈ (a - t, b + t) :: pr (mv 1 v r) := hd
        rcases List.mem_cons.mp hd with rfl | hd
        · exact ⟨by show 0 ≤ a - t; omega, by show 0 ≤ b + t; omega⟩
        · exact ihn d hd
theorem moved_is (k : Int) (hk : 0 ≤ k) (l v : List Int) (h : ∀ x ∈ l, 0 ≤ x) (hv : ∀ x ∈ v, 0 ≤ x) : PyKs469.moved k l v = moved k l v := by
  show Ks469Neutral.out (Ks469.given (l.map Int.toNat) fun a => Ks469.camp k.toNat fun _ => if (v.map Int.toNat).length ≠ a.length ∨ ((a.zip (v.map Int.toNat)).all fun x => decide (x.2 ≤ others k.toNat x.1)) = false then Ks469.no (-22) else Ks469.tells (over k.toNat a (v.map Int.toNat))) = moved k l v
  unfold Ks469.given moved
  by_cases c : told l = true
  · rw [if_pos ((told_iff l).mpr c), two_nats]
    unfold Ks469.camp
    dsimp only
    by_cases c1 : 1 < k
    · have c2 : 1 < k.toNat := by omega
      rw [if_pos c2, if_pos (Or.inl c1)]
      rfl
    · have c2 : ¬ 1 < k.toNat := by omega
      have c3 : ¬ (1 < k ∨ told l = false) := by rw [c]; simp; omega
      have hk1 : k ≤ 1 := by omega
      have el : (nz (pr l)).length = l.length / 2 := by
        unfold nz
        rw [List.length_map, pr_len]
      rw [if_neg c2, if_neg c3, all_fits hk hk1 l v h hv, el, List.length_map]
      by_cases c4 : fits k l v = true
      · have c5 := c4
        unfold fits at c5
        rw [Bool.and_eq_true] at c5
        have c6 := of_decide_eq_true c5.1
        obtain ⟨m1, m2⟩ := mv_over hk hk1 l v h hv c6 c5.2
        have c7 : ¬ (v.length ≠ l.length / 2 ∨ (((seen k l).zip v).all fun x => decide (x.2 ≤ x.1.2)) = false) := by
          rw [c5.2]
          simp
          exact c6
        rw [if_pos c4, if_neg c7, ← m1, tells_gs _ m2]
        rfl
      · have c7 : v.length ≠ l.length / 2 ∨ (((seen k l).zip v).all fun x => decide (x.2 ≤ x.1.2)) = false := by
          cases e : ((seen k l).zip v).all fun x => decide (x.2 ≤ x.1.2) with
          | false => exact .inr rfl
          | true =>
            refine .inl fun z => c4 ?_
            unfold fits
            rw [e, decide_eq_true z]
            rfl
        rw [if_neg c4, if_pos c7]
        rfl
  · rw [if_neg (fun z => c ((told_iff l).mp z)), if_pos (Or.inr (by simpa using c))]
    rfl
end Cm
namespace Cm

/-! ### votes_of -/
def votesK (k : Int) (l : List Int) : List Int := (seen k l).map fun d => d.1
theorem votesK_len (k : Int) (l : List Int) : (votesK k l).length = l.length / 2 := by
  unfold votesK
  rw [List.length_map, seen_len]
theorem votesK_at {k : Int} (h0 : 0 ≤ k) (h1 : k ≤ 1) {l : List Int} {i : Nat} (h : 2 * i + 1 < l.length) : (votesK k l)[i]? = some (l.getD (2 * i + k.toNat) 0) := by
  unfold votesK
  rw [List.getElem?_map, seen_at h0 h1 h]
  rfl
theorem votesK_other {k : Int} (h0 : 0 ≤ k) (h1 : k ≤ 1) (l : List Int) : votesK (1 - k) l = (seen k l).map fun d => d.2 := by
  unfold votesK seen
  rw [List.map_map, List.map_map]
  refine List.map_congr_left fun d _ => ?_
  rcases (by omega : k = 0 ∨ k = 1) with rfl | rfl
  · rfl
  · rfl

/-! ### gone_over -/
def gone (k : Int) : List Int → List Int → List Int
  | t :: v, a :: b :: r => if k = 0 then (a + t) :: (b - t) :: gone k v r else (a - t) :: (b + t) :: gone k v r
  | _, l => l
theorem gone_nil (k : Int) (l : List Int) : gone k [] l = l := by cases l <;> rfl
theorem gone_len (k : Int) : ∀ (v l : List Int), (gone k v l).length = l.length
  | [], l => by rw [gone_nil]
  | _ :: _, [] => rfl
  | _ :: _, [_] => rfl
  | t :: v, a :: b :: r => by
    have ih := gone_len k v r
    unfold gone
    split
    · rw [List.length_cons, List.length_cons, ih]; rfl
    · rw [List.length_cons, List.length_cons, ih]; rfl
theorem gone_more {k : Int} (h0 : 0 ≤ k) (h1 : k ≤ 1) : ∀ (i : Nat) (v l : List Int), i < v.length → 2 * i + 1 < l.length →
    (((gone k (v.take i) l).set (2 * i + k.toNat) ((gone k (v.take i) l).getD (2 * i + k.toNat) 0 + v.getD i 0)).set (2 * i + 1 - k.toNat) ((gone k (v.take i) l).getD (2 * i + 1 - k.toNat) 0 - v.getD i 0)) = gone k (v.take (i + 1)) l
  | _, [], _, h, _ => absurd h (Nat.not_lt_zero _)
  | _, _ :: _, [], _, h => absurd h (Nat.not_lt_zero _)
  | _, _ :: _, [_], _, h => by simp at h
  | 0, t :: v, a :: b :: r, _, _ => by
    rcases (by omega : k = 0 ∨ k = 1) with rfl | rfl
    · cases r <;> rfl
    · cases r <;> rfl
  | i + 1, t :: v, a :: b :: r, hv, h => by
    have ih := gone_more h0 h1 i v r (by simp at hv; omega) (by simp at h; omega)
    have e1 : 2 * (i + 1) + k.toNat = 2 * i + k.toNat + 1 + 1 := by omega
    have e2 : 2 * (i + 1) + 1 - k.toNat = 2 * i + 1 - k.toNat + 1 + 1 := by omega
    rw [e1, e2]
    rcases (by omega : k = 0 ∨ k = 1) with rfl | rfl
    · exact congrArg (fun z => (a + t) :: (b - t) :: z) ih
    · exact congrArg (fun z => (a - t) :: (b + t) :: z) ih
theorem gone_mv (k : Int) : ∀ (v l : List Int), v.length = l.length / 2 → l.length % 2 = 0 → gone k v l = mv k v l
  | [], [], _, _ => rfl
  | [], [_], _, h => by simp at h
  | [], _ :: _ :: _, h, _ => by simp at h; omega
  | _ :: _, [], h, _ => by simp at h
  | _ :: _, [_], h, _ => by simp at h
  | t :: v, a :: b :: r, h, h2 => by
    have ih := gone_mv k v r (by simp at h; omega) (by simp at h2; omega)
    unfold gone mv
    rw [ih]
theorem gone_sw {k : Int} (h0 : 0 ≤ k) (h1 : k ≤ 1) (u : Int) : ∀ l : List Int, gone k ((votesK (1 - k) l).map fun x => min u x) l = sw k u l
  | [] => rfl
  | [x] => by
    have e : sw k u [x] = [x] := by
      unfold sw
      rw [show [x].length / 2 = 0 by simp]
      rfl
    rw [e]
    exact gone_nil k [x]
  | a :: b :: r => by
    have ih := gone_sw h0 h1 u r
    rw [votesK_other h0 h1] at ih ⊢
    rw [sw_cons, ← ih]
    rcases (by omega : k = 0 ∨ k = 1) with rfl | rfl
    · rfl
    · rfl
theorem fits_eq {k : Int} (h0 : 0 ≤ k) (h1 : k ≤ 1) (l v : List Int) (h : v.length = l.length / 2) : fits k l v = (v.zip (votesK (1 - k) l)).all fun x => decide (x.1 ≤ x.2) := by
  unfold fits
  rw [decide_eq_true h, Bool.true_and, votesK_other h0 h1]
  generalize seen k l = S
  clear h
  induction v generalizing S with
  | nil => cases S <;> rfl
  | cons t v ih =>
    cases S with
    | nil => rfl
    | cons d S =>
      exact congrArg (decide (t ≤ d.2) && ·) (ih S)
theorem fits_no {k : Int} {l v : List Int} (h : v.length ≠ l.length / 2) : fits k l v = false := by
  unfold fits
  rw [decide_eq_false h]
  rfl
theorem moved_no {k : Int} {l v : List Int} (h : 1 < k ∨ told l = false ∨ fits k l v = false) : moved k l v = [-22] := by
  unfold moved
  by_cases c : 1 < k ∨ told l = false
  · rw [if_pos c]
  · rw [if_neg c]
    have : fits k l v = false := by
      rcases h with h | h | h
      · exact absurd (Or.inl h) c
      · exact absurd (Or.inr h) c
      · exact h
    rw [this]
    rfl
theorem moved_yes {k : Int} {l v : List Int} (h1 : k ≤ 1) (ht : told l = true) (hf : fits k l v = true) : moved k l v = tellG (gains (gone k v l)) := by
  unfold moved
  have c : ¬ (1 < k ∨ told l = false) := by rw [ht]; simp; omega
  rw [if_neg c, if_pos hf]
  unfold fits at hf
  rw [Bool.and_eq_true] at hf
  rw [gone_mv k v l (of_decide_eq_true hf.1) (told_even ht)]

/-! ### idle -/
theorem idles_len (k : Int) (l : List Int) : (idles k l).length = l.length / 2 := by
  unfold idles
  rw [List.length_map, seen_len]
theorem idles_at {k : Int} (h0 : 0 ≤ k) (h1 : k ≤ 1) {l : List Int} {i : Nat} (h : 2 * i + 1 < l.length) : (idles k l)[i]? = some (idleOf (l.getD (2 * i + k.toNat) 0) (l.getD (2 * i + 1 - k.toNat) 0)) := by
  unfold idles
  rw [List.getElem?_map, seen_at h0 h1 h]
  rfl

/-! ### joined -/
def unp : List (Int × Int) → List Int
  | [] => []
  | d :: L => d.1 :: d.2 :: unp L
theorem pr_unp : ∀ L : List (Int × Int), pr (unp L) = L
  | [] => rfl
  | d :: L => by
    show (d.1, d.2) :: pr (unp L) = d :: L
    rw [pr_unp L]
theorem unp_len : ∀ L : List (Int × Int), (unp L).length = 2 * L.length
  | [] => rfl
  | d :: L => by
    show (unp L).length + 1 + 1 = 2 * (L.length + 1)
    rw [unp_len L]
    omega
theorem unp_append : ∀ L M : List (Int × Int), unp (L ++ M) = unp L ++ unp M
  | [], _ => rfl
  | d :: L, M => by
    show d.1 :: d.2 :: unp (L ++ M) = d.1 :: d.2 :: (unp L ++ unp M)
    rw [unp_append L M]
theorem gains_unp (L : List (Int × Int)) : gains (unp L) = gs L := by
  unfold gains gs
  rw [pr_unp]
theorem restP_more (i j : Nat) {L : List (Int × Int)} {m : Nat} (h : m < L.length) : restP i j (L.take (m + 1)) = restP i j (L.take m) ++ (if m ≠ i ∧ m ≠ j then [L.getD m (0, 0)] else []) := by
  have e : L.take (m + 1) = L.take m ++ [L.getD m (0, 0)] := by
    rw [List.take_add_one, List.getElem?_eq_getElem h, List.getD_eq_getElem?_getD, List.getElem?_eq_getElem h]
    rfl
  unfold restP
  rw [e, List.zipIdx_append, List.filter_append, List.map_append, List.length_take, Nat.min_eq_left (Nat.le_of_lt h)]
  congr 1
  show (List.filter (fun x => x.2 != i && x.2 != j) [(L.getD m (0, 0), 0 + m)]).map (fun x => x.1) = _
  rw [Nat.zero_add]
  by_cases c : m ≠ i ∧ m ≠ j
  · rw [if_pos c, List.filter_cons, if_pos (by simpa using c)]
    rfl
  · rw [if_neg c, List.filter_cons, if_neg (by simpa using c)]
    rfl
theorem restP_len (i j : Nat) (L : List (Int × Int)) : (restP i j L).length ≤ L.length := by
  unfold restP
  rw [List.length_map]
  refine Nat.le_trans (List.length_filter_le _ _) ?_
  rw [List.length_zipIdx]
  exact Nat.le_refl _
theorem pr_getD {l : List Int} {i : Nat} (h : 2 * i + 1 < l.length) : (pr l).getD i (0, 0) = (l.getD (2 * i) 0, l.getD (2 * i + 1) 0) := by
  rw [List.getD_eq_getElem?_getD, pr_at l i h]
  rfl
/-- what as_one_district has made when m districts are gone through -/
def oneN (i j : Nat) (l : List Int) (m : Nat) : List Int := [l.getD (2 * i) 0 + l.getD (2 * j) 0, l.getD (2 * i + 1) 0 + l.getD (2 * j + 1) 0] ++ unp (restP i j ((pr l).take m))
theorem oneN_len (i j : Nat) (l : List Int) (m : Nat) : (oneN i j l m).length ≤ 2 + l.length := by
  unfold oneN
  rw [List.length_append, unp_len]
  have h := restP_len i j ((pr l).take m)
  rw [List.length_take, pr_len] at h
  show 2 + _ ≤ _
  omega
theorem oneN_even (i j : Nat) (l : List Int) (m : Nat) : (oneN i j l m).length % 2 = 0 := by
  unfold oneN
  rw [List.length_append, unp_len]
  show (2 + _) % 2 = 0
  omega
theorem oneN_zero (i j : Nat) (l : List Int) : oneN i j l 0 = [l.getD (2 * i) 0 + l.getD (2 * j) 0, l.getD (2 * i + 1) 0 + l.getD (2 * j + 1) 0] := rfl
theorem oneN_yes {i j m : Nat} {l : List Int} (h : 2 * m + 1 < l.length) (hi : m ≠ i) (hj : m ≠ j) : oneN i j l (m + 1) = oneN i j l m ++ [l.getD (2 * m) 0, l.getD (2 * m + 1) 0] := by
  unfold oneN
  rw [restP_more i j (by rw [pr_len]; omega), if_pos ⟨hi, hj⟩, unp_append, pr_getD h, List.append_assoc]
  rfl
theorem oneN_no {i j m : Nat} {l : List Int} (h : 2 * m + 1 < l.length) (hn : m = i ∨ m = j) : oneN i j l (m + 1) = oneN i j l m := by
  unfold oneN
  rw [restP_more i j (by rw [pr_len]; omega), if_neg (by omega), List.append_nil]
theorem oneN_all {i j : Nat} {l : List Int} (hi : 2 * i + 1 < l.length) (hj : 2 * j + 1 < l.length) : gains (oneN i j l (l.length / 2)) = gs (joinP i j (pr l)) := by
  rw [← gains_unp]
  unfold oneN joinP
  rw [List.take_of_length_le (by rw [pr_len]; exact Nat.le_refl _), pr_getD hi, pr_getD hj]
  rfl
theorem joined_yes {i j : Int} {l : List Int} (h0 : 0 ≤ i) (h1 : 0 ≤ j) (ht : told l = true) (hi : i < ((l.length / 2 : Nat) : Int)) (hj : j < ((l.length / 2 : Nat) : Int)) (hn : i ≠ j) : joined i j l = tellG (gains (oneN i.toNat j.toNat l (l.length / 2))) := by
  unfold joined
  rw [if_pos ht, if_neg (by omega), if_neg hn, oneN_all (by omega) (by omega)]
end Cm
namespace Cm
open PySem PySem.Spec PyProof.Rows L2
open PySem.W (Codec)
/-! ### the text -/
def top (i : Nat) : Stmt := PySem.Challenge.pw_camps_s07_moved.main.body.getD i (.Pass ⟨0, 0, 0, 0⟩)
abbrev sTold : Stmt := top 5
theorem scT : FnScope ["land", "votes"] ["land"] (defScope sTold) := ⟨rfl, rfl, rfl, by decide +kernel, rfl, by decide +kernel, by decide +kernel⟩
theorem same_upd {H : Hp} {p : Addr} {o : HO} (h : H p = none) : Same H (upd H p o) := fun b x e => by
  rw [upd_ne (ne_of_none e h)]
  exact e
theorem yes_then {σ : L2.St} {H : Hp} {A B : Hp → Prop} (h : A H) : tYes σ H (fun b H3 => if b = true then A H3 else B H3) := by
  show if true = true then A H else B H
  rw [if_pos rfl]
  exact h
theorem test_then {b : Bool} {A B : Prop} (h1 : b = true → A) (h2 : b = false → B) : if b = true then A else B := by
  cases b with
  | true => rw [if_pos rfl]; exact h1 rfl
  | false => rw [if_neg Bool.false_ne_true]; exact h2 rfl
theorem int_at {l : List Int} {j : Nat} (h : j < l.length) : (l.map V.int)[j]? = some (.int (l.getD j 0)) := by
  rw [List.getElem?_map, List.getElem?_eq_getElem h]
  show some (V.int l[j]) = some (V.int (l.getD j 0))
  rw [List.getD_eq_getElem?_getD, List.getElem?_eq_getElem h]
  rfl
theorem rg2 {n : Nat} (h : n ≤ 18) (he : n % 2 = 0) : RgC 0 (n : Int) 2 (n / 2) := by
  have all : ∀ m : Fin 19, m.val % 2 = 0 → Builtin.Range.small 0 (m.val : Int) 2 = true ∧ Builtin.Range.rangeSize 0 (m.val : Int) 2 = ((m.val / 2 : Nat) : Int) := by decide +kernel
  have q := all ⟨n, by omega⟩ he
  exact ⟨by decide, by decide, q.1, q.2⟩
section
variable {P : Program} {w : World} {K : PySem.W.Frag} {mg : Str → Option Value} {base : Heap}
/-- what the top has written -/
structure Txt (mg : Str → Option Value) : Prop where
  len : mg "len" = none
  all : mg "all" = none
  range : mg "range" = none
  nt : ∃ t, mg "NOT_AS_TOLD" = some (.int (-22) t)
  md : ∃ t, mg "MOST_DISTRICTS" = some (.int 7 t)
  mv : ∃ t, mg "MOST_VOTES" = some (.int 1000 t)
theorem all_map (l : List Int) : (l.map fun v => decide (v ≤ 1000)).all id = l.all fun v => decide (v ≤ 1000) := by
  rw [List.all_map]; rfl
def spTold (K : PySem.W.Frag) : Sp := fun vs H Q _ => ∃ (a : Addr) (ns : List Int), vs = [.ref a] ∧ SqL K H a (ns.map V.int) ∧ ns.length ≤ 18 ∧ ∀ H', Same H H' → Q (.bl (told ns)) H'
theorem ok_told {f : Addr} {fd : FuncData} {k : Nat} (F : Fun K "land_is_as_told" "land_is_as_told" sTold f fd) (T : Txt mg) : FnOk P w K mg base CX0 (k + 1) f fd ["land"] (spTold K) := by
  refine F.ok scT (fun vs H Q E h => ?_) (fun cdv A outer s H vs Q E hr h => ?_)
  · obtain ⟨a, ns, rfl, _⟩ := h
    rfl
  · obtain ⟨a, ns, rfl, hS, hlen, q⟩ := h
    obtain ⟨t1, hmd⟩ := T.md
    obtain ⟨t2, hmv⟩ := T.mv
    refine ⟨_, pss_cons (ps_if (PW.pt (pw_or (pt_cmpR op_eq (pe_op op_mod (pe_callB call_len_seq (by rfl) T.len PySem.boot_len (pa_cons (pv 0) pa_nil)) pe_int) pe_int (nomark _))
          (pw_or1 (pt_cmpR op_gt (pe_callB call_len_seq (by rfl) T.len PySem.boot_len (pa_cons (pv 0) pa_nil)) (pe_op op_mul pe_int (pe_glob (v := .int 7) rfl hmd ⟨_, rfl⟩)) (nomark _)))))
        (pss_one (ps_ret pe_bl)) pss_nil)
      (pss_one (ps_ret (pe_callB (cr_all rfl) (by rfl) T.all (by decide +kernel) (pa_cons
        (pe_lc (own := [("votes", 1)]) (g := gName 1) (tt := tYes) rfl scT.nd (pi_list (pv 0)) (blkOk_by (own := [("votes", 1)]) (N := ["land", "votes"]) (sc := defScope sTold) (by decide +kernel))
          (fun _ _ _ _ _ => pg_name (i := 1) scT.nd rfl (Or.inl rfl)) (fun _ _ _ _ _ => pts_nil) (fun _ _ _ _ _ => pe_cmpR op_le (pv 1) (pe_glob (v := .int 1000) rfl hmv ⟨_, rfl⟩) (nomark _))) pa_nil)))), ?_⟩
    have hno : (ns.length % 2 = 1 ∨ 14 < ns.length) → Q (.bl false) H := fun c => by
      have e : told ns = false := if_pos c
      rw [e] at q
      exact q H (Same.refl H)
    have hyes : ¬ (ns.length % 2 = 1 ∨ 14 < ns.length) → ∀ H', Same H H' → Q (.bl (ns.all fun v => decide (v ≤ 1000))) H' := fun c H' sm => by
      have e : told ns = ns.all fun v => decide (v ≤ 1000) := if_neg c
      rw [e] at q
      exact q H' sm
    have ln : ((ns.map V.int).length : Int) = ns.length := by rw [List.length_map]
    refine ⟨.ref a, rfl, a, ns.map V.int, rfl, .inl hS, _, _, rfl, rfl, (by show (0 : Int) < 2; decide), rfl, _, rfl, ite2 (fun c => ?_) (fun c => ?_)⟩
    · have c := V.int.inj (of_decide_eq_true c)
      rw [ln] at c
      exact iteT (hno (.inl (by omega)))
    · refine ⟨.ref a, rfl, a, ns.map V.int, rfl, .inl hS, _, _, rfl, rfl, .inl ⟨by decide, by decide⟩, _, _, rfl, rfl, _, rfl, ite2 (fun c' => ?_) (fun c' => ?_)⟩
      · have c' := of_decide_eq_true c'
        rw [ln] at c'
        exact hno (.inr (by omega))
      · have n1 : ¬ (ns.length % 2 = 1 ∨ 14 < ns.length) := by
          rintro (z | z)
          · exact c (decide_eq_true (congrArg V.int (by rw [ln]; omega)))
          · exact c' (decide_eq_true (by rw [ln]; omega))
        refine ⟨.ref a, rfl, a, rfl, ⟨_, hS⟩, fun D hD => lc_list (K := K) (a := a) (xs := ns.map V.int)
          (fun i H' => Same H H' ∧ H' D = some (.lst (((ns.take i).map fun v => decide (v ≤ 1000)).map V.bl))) ⟨same_upd hD, upd_same⟩ (fun i H' _ z => z.1.seq hS) (fun i x H' hi ⟨sm, hd⟩ => ?_) (fun H' ⟨sm, hd⟩ => ?_)⟩
        · obtain ⟨z, hz, rfl⟩ : ∃ z, ns[i]? = some z ∧ x = V.int z := by
            rw [List.getElem?_map] at hi
            cases e : ns[i]? with
            | none => rw [e] at hi; cases hi
            | some z => rw [e] at hi; exact ⟨z, rfl, (Option.some.inj hi).symm⟩
          refine ⟨rfl, yes_then ⟨_, rfl, _, _, rfl, rfl, _, hd, ?_, ?_, ?_⟩⟩
          · rw [List.length_map, List.length_map, List.length_take]
            exact Nat.lt_of_le_of_lt (Nat.min_le_right _ _) (small1000 (by omega))
          · exact fun b o e => by
              rw [upd_ne (ne_of_none e hD)]
              exact sm b o e
          · rw [upd_same, List.take_add_one, hz, List.map_append, List.map_append]
            rfl
        · rw [List.length_map, List.take_length] at hd
          refine ⟨D, _, rfl, SqL.of hd, ?_⟩
          rw [all_map]
          exact hyes n1 H' sm
end
end Cm
namespace Cm
open PySem PySem.Spec PyProof.Rows L2
/-! ### gain -/
abbrev sGain : Stmt := top 8
theorem scG : FnScope ["own", "other"] ["own", "other"] (defScope sGain) := ⟨rfl, rfl, rfl, by decide +kernel, rfl, by decide +kernel, by decide +kernel⟩
section
variable {P : Program} {w : World} {K : PySem.W.Frag} {mg : Str → Option Value} {base : Heap}
def spGain : Sp := fun vs H Q _ => ∃ a b : Int, vs = [.int a, .int b] ∧ Q (.int (gain a b)) H
theorem ok_gain {f : Addr} {fd : FuncData} {k : Nat} (F : Fun K "gain" "gain" sGain f fd) : FnOk P w K mg base CX0 (k + 1) f fd ["own", "other"] spGain := by
  refine F.ok scG (fun vs H Q E h => ?_) (fun cdv A outer s H vs Q E hr h => ?_)
  · obtain ⟨a, b, rfl, _⟩ := h
    rfl
  · obtain ⟨a, b, rfl, q⟩ := h
    refine ⟨_, pss_cons (ps_if (pt_cmpR op_gt (pv 0) (pv 1) (nomark _)) (pss_one (ps_ret pe_int)) pss_nil)
      (pss_cons (ps_if (pt_cmpR op_lt (pv 0) (pv 1) (nomark _)) (pss_one (ps_ret (pe_un un_neg pe_int))) pss_nil)
      (pss_one (ps_ret pe_int))), ?_⟩
    refine ⟨_, rfl, _, rfl, _, _, rfl, rfl, _, rfl, ite2 (fun c => ?_) (fun c => ?_)⟩
    · have e : gain a b = 1 := if_pos (of_decide_eq_true c)
      rw [e] at q
      exact q
    · refine ⟨_, rfl, _, rfl, _, _, rfl, rfl, _, rfl, ite2 (fun c' => ?_) (fun c' => ?_)⟩
      · have e : gain a b = -1 := (if_neg (fun z => c (decide_eq_true z))).trans (if_pos (of_decide_eq_true c'))
        rw [e] at q
        exact ⟨_, rfl, q⟩
      · have e : gain a b = 0 := (if_neg (fun z => c (decide_eq_true z))).trans (if_neg (fun z => c' (decide_eq_true z)))
        rw [e] at q
        exact q
end
end Cm
namespace Cm
open PySem PySem.Spec PyProof.Rows L2
/-! ### gains_of -/
abbrev sGains : Stmt := top 9
theorem scV : FnScope ["k", "land", "at"] ["k", "land"] (defScope sGains) := ⟨rfl, rfl, rfl, by decide +kernel, rfl, by decide +kernel, by decide +kernel⟩
section
variable {P : Program} {w : World} {K : PySem.W.Frag} {mg : Str → Option Value} {base : Heap}
def spGains (K : PySem.W.Frag) : Sp := fun vs H Q _ => ∃ (k : Int) (a : Addr) (ns : List Int), vs = [.int k, .ref a] ∧ 0 ≤ k ∧ k ≤ 1 ∧ SqL K H a (ns.map V.int) ∧ ns.length ≤ 18 ∧ ns.length % 2 = 0 ∧ ∀ (H' : Hp) (p : Addr), Same H H' → H' p = some (.lst ((gainsK k ns).map V.int)) → Q (.ref p) H'
theorem ok_gains {f fG : Addr} {fd fdG : FuncData} (F : Fun K "gains_of" "gains_of" sGains f fd) (T : Txt mg) (FG : Fun K "gain" "gain" sGain fG fdG) (bG : Binds K fdG ["own", "other"] []) (gG : mg "gain" = some (.ref fG)) : FnOk P w K mg base CX0 2 f fd ["k", "land"] (spGains K) := by
  have GG : FnOk P w K mg base CX0 1 fG fdG ["own", "other"] spGain := ok_gain FG
  refine F.ok scV (fun vs H Q E h => ?_) (fun cdv A outer s H vs Q E hr h => ?_)
  · obtain ⟨k, a, ns, rfl, _⟩ := h
    rfl
  · obtain ⟨k, a, ns, rfl, hk0, hk1, hS, hlen, hev, q⟩ := h
    refine ⟨_, pss_one (ps_ret (pe_lc (own := [("at", 2)]) (g := gName 2) (tt := tYes) rfl scV.nd
          (pi_range3 rfl T.range (pa_cons pe_int (pa_cons (pe_callB call_len_seq (by rfl) T.len PySem.boot_len (pa_cons (pv 1) pa_nil)) (pa_cons pe_int pa_nil))))
          (blkOk_by (own := [("at", 2)]) (N := ["k", "land", "at"]) (sc := defScope sGains) (by decide +kernel))
          (fun _ _ _ _ _ => pg_name (i := 2) scV.nd rfl (Or.inl rfl)) (fun _ _ _ _ _ => pts_nil)
          (fun _ _ _ _ _ => pe_call GG hr (by rfl) gG FG.kp bG .nil pass0 (pa_cons (pe_ix (r := rIxL K) ix_list (pv 1) (pe_op op_add (pv 2) (pv 0)) (fun _ _ => rfl)) (pa_cons (pe_ix (r := rIxL K) ix_list (pv 1) (pe_op op_sub (pe_op op_add (pv 2) pe_int) (pv 0)) (fun _ _ => rfl)) pa_nil))))), ?_⟩
    have ln : ((ns.map V.int).length : Int) = ns.length := by rw [List.length_map]
    refine ⟨.ref a, rfl, a, ns.map V.int, rfl, .inl hS, 0, _, 2, ns.length / 2, rfl, (by rw [ln]; exact rg2 hlen hev), fun D hD => ?_⟩
    refine lc_it walk_rangeC (fun i H' => Same H H' ∧ H' D = some (.lst (((gainsK k ns).take i).map V.int))) ⟨same_upd hD, upd_same⟩ (fun i H' _ z => trivial) ?_ ?_
    · rintro i x H2 H2' hi ⟨sm2, hd⟩ ⟨rfl, rfl⟩
      have hj : 2 * i + 1 < ns.length := by omega
      have e0 : (0 : Int) + (i : Int) * 2 + k = ((2 * i + k.toNat : Nat) : Int) := by omega
      have e1 : (0 : Int) + (i : Int) * 2 + 1 - k = ((2 * i + 1 - k.toNat : Nat) : Int) := by omega
      refine ⟨rfl, yes_then ?_⟩
      have hl := sm2.seq hS
      refine ⟨_, rfl, _, rfl, _, rfl, _, _, rfl, rfl, a, _, _, _, rfl, rfl, hl, (by rw [e0]; exact atI_nat (int_at (by omega))), _, rfl, _, rfl, _, _, rfl, rfl, _, rfl, _, _, rfl, rfl, a, _, _, _, rfl, rfl, hl, (by show atI _ (0 + (i : Int) * 2 + 1 - k) = _; rw [e1]; exact atI_nat (int_at (by omega))), ?_⟩
      refine ⟨_, _, rfl, _, hd, ?_, ?_, ?_⟩
      · rw [List.length_map, List.length_take]
        exact Nat.lt_of_le_of_lt (Nat.min_le_right _ _) (small1000 (by rw [gainsK_len]; omega))
      · exact fun b o e => by
          rw [upd_ne (ne_of_none e hD)]
          exact sm2 b o e
      · rw [upd_same, List.take_add_one, gainsK_at hk0 hk1 hj, List.map_append]
        rfl
    · rintro H2 ⟨sm2, hd⟩
      rw [List.take_of_length_le (by rw [gainsK_len]; exact Nat.le_refl _)] at hd
      exact q H2 D sm2 hd
end
end Cm
namespace Cm
open PySem PySem.Spec PyProof.Rows L2
/-! ### districts_won -/
abbrev sDw : Stmt := top 10
theorem scDw : FnScope ["land", "gains"] ["land"] (defScope sDw) := ⟨rfl, rfl, rfl, by decide +kernel, rfl, by decide +kernel, by decide +kernel⟩
section
variable {P : Program} {w : World} {K : PySem.W.Frag} {mg : Str → Option Value} {base : Heap}
def spDw (K : PySem.W.Frag) : Sp := fun vs H Q _ => ∃ (a : Addr) (ns : List Int), vs = [.ref a] ∧ SqL K H a (ns.map V.int) ∧ ns.length ≤ 18 ∧ ns.length % 2 = 0 ∧ ∀ (H' : Hp) (p : Addr), H' p = some (.lst ((tellG (gains ns)).map V.int)) → Q (.ref p) H'
theorem ok_dw {f fG fV : Addr} {fd fdG fdV : FuncData} (F : Fun K "districts_won" "districts_won" sDw f fd) (T : Txt mg)
    (FG : Fun K "gain" "gain" sGain fG fdG) (bG : Binds K fdG ["own", "other"] []) (gG : mg "gain" = some (.ref fG))
    (FV : Fun K "gains_of" "gains_of" sGains fV fdV) (bV : Binds K fdV ["k", "land"] []) (gV : mg "gains_of" = some (.ref fV)) : FnOk P w K mg base CX0 3 f fd ["land"] (spDw K) := by
  have GV : FnOk P w K mg base CX0 2 fV fdV ["k", "land"] (spGains K) := ok_gains FV T FG bG gG
  refine F.ok scDw (fun vs H Q E h => ?_) (fun cdv A outer s H vs Q E hr h => ?_)
  · obtain ⟨a, ns, rfl, _⟩ := h
    rfl
  · obtain ⟨a, ns, rfl, hS, hlen, hev, q⟩ := h
    refine ⟨_, pss_cons (ps_set (i := 1) scDw.nd rfl (.inl rfl) (pe_call GV hr (by rfl) gV FV.kp bV .nil pass0 (pa_cons pe_int (pa_cons (pv 0) pa_nil))))
      (pss_one (ps_ret (pe_lst (pa_cons (pe_bm PySem.F.plainAttrs_list PySem.F.slot_list_count PySem.F.type_list_count mt_lcount (pv 1) (pa_cons pe_int pa_nil))
        (pa_cons (pe_bm PySem.F.plainAttrs_list PySem.F.slot_list_count PySem.F.type_list_count mt_lcount (pv 1) (pa_cons (pe_un un_neg pe_int) pa_nil))
        (pa_cons (pe_bm PySem.F.plainAttrs_list PySem.F.slot_list_count PySem.F.type_list_count mt_lcount (pv 1) (pa_cons pe_int pa_nil)) pa_nil)))))), ?_⟩
    refine ⟨_, rfl, 0, a, ns, rfl, (by decide), (by decide), hS, hlen, hev, fun H2 D sm2 hd => ?_⟩
    rw [← gains_gainsK] at hd
    have tq : tyV K "list" (.ref D) H2 := .inl ⟨rfl, _, SqL.of hd⟩
    refine ⟨_, rfl, tq, D, gains ns, 1, rfl, rfl, SqL.of hd, _, rfl, tq, _, rfl, D, gains ns, -1, rfl, rfl, SqL.of hd, _, rfl, tq, D, gains ns, 0, rfl, rfl, SqL.of hd, (by show 3 ≤ sizeLine; decide), fun p hp => ?_⟩
    exact q _ p upd_same
end
end Cm
namespace Cm
open PySem PySem.Spec PyProof.Rows L2
/-! ### xs[i] op= e: the item of a list that is read -/
theorem ixN_at {n j : Nat} (hj : j < n) : ixN n (j : Int) = some j := by
  unfold ixN
  rw [if_pos (by omega), if_pos (by omega), Int.toNat_natCast]
def rGetL (K : PySem.W.Frag) : V → V → Hp → VK → Prop := fun o i H Q => ∃ p xs k v, o = .ref p ∧ i = .int k ∧ 0 ≤ k ∧ SqL K H p xs ∧ atI xs k = some v ∧ Q v H
theorem get_list {X : Cx} : PGet X (rGetL X.K) := by
  intro pins s σ H o i ov iv Q I ro ri h
  obtain ⟨p, xs, k, z, rfl, rfl, h0, hq, he, q⟩ := h
  cases ro
  obtain ⟨t, rfl⟩ := ri
  obtain ⟨its, r, pl, hz⟩ := I.list hq
  obtain ⟨j, h1, h2, h3, h4, h5⟩ := atI_get he
  obtain ⟨w, ew, rw'⟩ := r.get h2
  have hl := r.length
  have hn := line63
  have hj : k.toNat = j := by
    rw [seqIndex_of h0 h5] at h1
    exact Option.some.inj h1
  exact wpAny_getItem_list pl.isList h0 (by omega) (by rw [hj]; simpa using ew) ⟨z, H, I, rw', q⟩
theorem getD_set_ne {L : List Int} {p q : Nat} {z : Int} (h : p ≠ q) : (L.set p z).getD q 0 = L.getD q 0 := by
  rw [List.getD_eq_getElem?_getD, List.getElem?_set_ne h, List.getD_eq_getElem?_getD]
theorem at_is {l : List Int} {i : Nat} {y : V} (h : (l.map V.int)[i]? = some y) : y = .int (l.getD i 0) := by
  have hi : i < l.length := by
    have := (List.getElem?_eq_some_iff.mp h).1
    rwa [List.length_map] at this
  rw [int_at hi] at h
  exact (Option.some.inj h).symm
/-! ### votes_of, gone_over -/
abbrev sVotes : Stmt := top 7
abbrev sGone : Stmt := top 11
theorem scVo : FnScope ["k", "land", "at"] ["k", "land"] (defScope sVotes) := ⟨rfl, rfl, rfl, by decide +kernel, rfl, by decide +kernel, by decide +kernel⟩
theorem scGo : FnScope ["k", "land", "voters", "after", "district", "over"] ["k", "land", "voters"] (defScope sGone) := ⟨rfl, rfl, rfl, by decide +kernel, rfl, by decide +kernel, by decide +kernel⟩
section
variable {P : Program} {w : World} {K : PySem.W.Frag} {mg : Str → Option Value} {base : Heap}
def spVotes (K : PySem.W.Frag) : Sp := fun vs H Q _ => ∃ (k : Int) (a : Addr) (ns : List Int), vs = [.int k, .ref a] ∧ 0 ≤ k ∧ k ≤ 1 ∧ SqL K H a (ns.map V.int) ∧ ns.length ≤ 18 ∧ ns.length % 2 = 0 ∧ ∀ (H' : Hp) (p : Addr), Same H H' → H' p = some (.lst ((votesK k ns).map V.int)) → Q (.ref p) H'
theorem ok_votes {f : Addr} {fd : FuncData} {n : Nat} (F : Fun K "votes_of" "votes_of" sVotes f fd) (T : Txt mg) : FnOk P w K mg base CX0 (n + 1) f fd ["k", "land"] (spVotes K) := by
  refine F.ok scVo (fun vs H Q E h => ?_) (fun cdv A outer s H vs Q E hr h => ?_)
  · obtain ⟨k, a, ns, rfl, _⟩ := h
    rfl
  · obtain ⟨k, a, ns, rfl, hk0, hk1, hS, hlen, hev, q⟩ := h
    refine ⟨_, pss_one (ps_ret (pe_lc (own := [("at", 2)]) (g := gName 2) (tt := tYes) rfl scVo.nd
          (pi_range3 rfl T.range (pa_cons pe_int (pa_cons (pe_callB call_len_seq (by rfl) T.len PySem.boot_len (pa_cons (pv 1) pa_nil)) (pa_cons pe_int pa_nil))))
          (blkOk_by (own := [("at", 2)]) (N := ["k", "land", "at"]) (sc := defScope sVotes) (by decide +kernel))
          (fun _ _ _ _ _ => pg_name (i := 2) scVo.nd rfl (Or.inl rfl)) (fun _ _ _ _ _ => pts_nil)
          (fun _ _ _ _ _ => pe_ix (r := rIxL K) ix_list (pv 1) (pe_op op_add (pv 2) (pv 0)) (fun _ _ => rfl)))), ?_⟩
    have ln : ((ns.map V.int).length : Int) = ns.length := by rw [List.length_map]
    refine ⟨.ref a, rfl, a, ns.map V.int, rfl, .inl hS, 0, _, 2, ns.length / 2, rfl, (by rw [ln]; exact rg2 hlen hev), fun D hD => ?_⟩
    refine lc_it walk_rangeC (fun i H' => Same H H' ∧ H' D = some (.lst (((votesK k ns).take i).map V.int))) ⟨same_upd hD, upd_same⟩ (fun i H' _ z => trivial) ?_ ?_
    · rintro i x H2 H2' hi ⟨sm2, hd⟩ ⟨rfl, rfl⟩
      have hj : 2 * i + 1 < ns.length := by omega
      have e0 : (0 : Int) + (i : Int) * 2 + k = ((2 * i + k.toNat : Nat) : Int) := by omega
      refine ⟨rfl, yes_then ?_⟩
      have hl := sm2.seq hS
      refine ⟨_, rfl, _, rfl, _, rfl, _, _, rfl, rfl, a, _, _, _, rfl, rfl, hl, (by rw [e0]; exact atI_nat (int_at (by omega))), ?_⟩
      refine ⟨_, hd, ?_, ?_, ?_⟩
      · rw [List.length_map, List.length_take]
        exact Nat.lt_of_le_of_lt (Nat.min_le_right _ _) (small1000 (by rw [votesK_len]; omega))
      · exact fun b o e => by
          rw [upd_ne (ne_of_none e hD)]
          exact sm2 b o e
      · rw [upd_same, List.take_add_one, votesK_at hk0 hk1 hj, List.map_append]
        rfl
    · rintro H2 ⟨sm2, hd⟩
      rw [List.take_of_length_le (by rw [votesK_len]; exact Nat.le_refl _)] at hd
      exact q H2 D sm2 hd
def spGone (K : PySem.W.Frag) : Sp := fun vs H Q _ => ∃ (k : Int) (a b : Addr) (ns ts : List Int), vs = [.int k, .ref a, .ref b] ∧ 0 ≤ k ∧ k ≤ 1 ∧ SqL K H a (ns.map V.int) ∧ SqL K H b (ts.map V.int) ∧ ts.length ≤ ns.length / 2 ∧ ∀ (H' : Hp) (p : Addr), Same H H' → H' p = some (.lst ((gone k ts ns).map V.int)) → Q (.ref p) H'
theorem ok_gone {f : Addr} {fd : FuncData} {n : Nat} (F : Fun K "gone_over" "gone_over" sGone f fd) (mlist : mg "list" = none) (menum : mg "enumerate" = none) : FnOk P w K mg base CX0 (n + 1) f fd ["k", "land", "voters"] (spGone K) := by
  refine F.ok scGo (fun vs H Q E h => ?_) (fun cdv A outer s H vs Q E hr h => ?_)
  · obtain ⟨k, a, b, ns, ts, rfl, _⟩ := h
    rfl
  · obtain ⟨k, a, b, ns, ts, rfl, hk0, hk1, hS, hV, hlt, q⟩ := h
    refine ⟨_, pss_cons (ps_set (i := 3) scGo.nd rfl (.inl rfl) (pe_callTy call_list_of (by rfl) mlist (by decide +kernel) (pa_cons (pv 1) pa_nil)))
      (pss_cons (ps_for PassesOwn.never rfl (pi_enum (by rfl) menum (pa_cons (pv 2) pa_nil)) (pg_tup rfl (pgs_cons (pg_name (i := 4) scGo.nd rfl (.inl rfl)) (pgs_cons (pg_name (i := 5) scGo.nd rfl (.inl rfl)) pgs_nil)))
        (pss_cons (ps_augS (pv 3) (pe_op op_add (pe_op op_mul pe_int (pv 4)) (pv 0)) get_list (pv 5) ip_add set_list)
        (pss_one (ps_augS (pv 3) (pe_op op_sub (pe_op op_add (pe_op op_mul pe_int (pv 4)) pe_int) (pv 0)) get_list (pv 5) ip_sub set_list))))
      (pss_one (ps_ret (pv 3)))), ?_⟩
    refine ⟨.ref a, rfl, a, ns.map V.int, rfl, .inl hS, fun p np => ?_⟩
    have s0 : Same H (upd H p (.lst (ns.map V.int))) := same_upd np
    refine ⟨.ref b, rfl, b, ts.map V.int, rfl, s0.seq hV, ?_⟩
    refine for_it (walk_enum (K := K) (a := b) (xs := ts.map V.int)) (fun i σ H' => ∃ v4 v5, σ = [some (.int k), some (.ref a), some (.ref b), some (.ref p), v4, v5] ∧ Same H H' ∧ H' p = some (.lst ((gone k (ts.take i) ns).map V.int)))
      ⟨none, none, rfl, s0, ?_⟩ (fun i σ H' _ z => ?_) ?_ ?_
    · rw [upd_same, List.take_zero, gone_nil]
    · obtain ⟨_, _, _, sm, _⟩ := z
      exact sm.seq hV
    · rintro i x σ H2 H2' hi ⟨v4, v5, rfl, sm2, hd⟩ ⟨T, y1, y2, rfl, hT, rfl, ey1, ey2⟩
      rw [List.length_map] at hi
      have hj : 2 * i + 1 < ns.length := by omega
      have ey2 := at_is ey2
      have ey1 := (Option.some.inj ey1).symm
      subst ey1
      subst ey2
      have hpT : p ≠ T := ne_of_none hd hT
      generalize hL : gone k (ts.take i) ns = L at hd
      have hLl : L.length = ns.length := by rw [← hL]; exact gone_len _ _ _
      have hd3 : upd H2 T (.tup [.int (i : Nat), .int (ts.getD i 0)]) p = some (.lst (L.map V.int)) := by rw [upd_ne hpT]; exact hd
      have e0 : (2 : Int) * ((i : Nat) : Int) + k = ((2 * i + k.toNat : Nat) : Int) := by omega
      have e1 : (2 : Int) * ((i : Nat) : Int) + 1 - k = ((2 * i + 1 - k.toNat : Nat) : Int) := by omega
      refine ⟨T, _, rfl, SqT.of upd_same, rfl, _, _, rfl, _, _, rfl, rfl, ?_⟩
      -- after[2 * district + k] += over
      refine ⟨_, rfl, _, rfl, _, _, rfl, rfl, .inl ⟨by decide, by decide⟩, _, rfl, _, _, rfl, rfl, p, _, _, _, rfl, rfl, (by omega), SqL.of hd3, (by rw [e0]; exact atI_nat (int_at (by omega))), _, rfl, _, _, rfl, rfl, p, _, _, 2 * i + k.toNat, rfl, rfl, hd3, (by rw [e0]; exact ixN_at (by rw [List.length_map]; omega)), ?_⟩
      rw [← List.map_set]
      -- after[2 * district + 1 - k] -= over
      refine ⟨_, rfl, _, rfl, _, _, rfl, rfl, .inl ⟨by decide, by decide⟩, _, _, rfl, rfl, _, rfl, _, _, rfl, rfl, p, _, _, _, rfl, rfl, (by omega), SqL.of upd_same, (by show atI _ ((2 : Int) * ((i : Nat) : Int) + 1 - k) = _; rw [e1]; exact atI_nat (int_at (by rw [List.length_set]; omega))), _, rfl, _, _, rfl, rfl, p, _, _, 2 * i + 1 - k.toNat, rfl, rfl, upd_same, (by show ixN _ ((2 : Int) * ((i : Nat) : Int) + 1 - k) = _; rw [e1]; exact ixN_at (by rw [List.length_map, List.length_set]; omega)), ?_⟩
      refine ⟨_, _, rfl, fun x o e => ?_, ?_⟩
      · rw [upd_ne (ne_of_none e np), upd_ne (ne_of_none e np), upd_ne (ne_of_none (sm2 x o e) hT)]
        exact sm2 x o e
      · rw [upd_same, ← List.map_set, getD_set_ne (by omega), ← gone_more hk0 hk1 i ts ns hi hj, hL]
    · rintro σ H2 ⟨v4, v5, rfl, sm2, hd⟩
      rw [List.length_map, List.take_length] at hd
      exact ⟨_, rfl, q H2 p sm2 hd⟩
end
end Cm
namespace Cm
open PySem PySem.Spec PyProof.Rows L2
/-! ### moved -/
abbrev sCan : Stmt := top 6
abbrev sMoved : Stmt := top 4
theorem scC : FnScope ["k", "land", "voters", "others", "over", "other"] ["k", "land", "voters"] (defScope sCan) := ⟨rfl, rfl, rfl, by decide +kernel, rfl, by decide +kernel, by decide +kernel⟩
theorem scM : FnScope ["k", "land", "voters"] ["k", "land", "voters"] (defScope sMoved) := ⟨rfl, rfl, rfl, by decide +kernel, rfl, by decide +kernel, by decide +kernel⟩
theorem all_zip (l : List (Int × Int)) : (l.map fun x => decide (x.1 ≤ x.2)).all id = l.all fun x => decide (x.1 ≤ x.2) := by
  rw [List.all_map]; rfl
theorem zip_at {l m : List Int} {i : Nat} (h1 : i < l.length) (h2 : i < m.length) : (l.zip m)[i]? = some (l.getD i 0, m.getD i 0) := by
  rw [List.getElem?_eq_getElem (by rw [List.length_zip]; omega), List.getElem_zip, List.getD_eq_getElem?_getD, List.getD_eq_getElem?_getD, List.getElem?_eq_getElem h1, List.getElem?_eq_getElem h2]
  rfl
section
variable {P : Program} {w : World} {K : PySem.W.Frag} {mg : Str → Option Value} {base : Heap}
def spCan (K : PySem.W.Frag) : Sp := fun vs H Q _ => ∃ (k : Int) (a b : Addr) (ns ts : List Int), vs = [.int k, .ref a, .ref b] ∧ 0 ≤ k ∧ k ≤ 1 ∧ SqL K H a (ns.map V.int) ∧ SqL K H b (ts.map V.int) ∧ ns.length ≤ 18 ∧ ns.length % 2 = 0 ∧ ∀ H' : Hp, Same H H' → Q (.bl (fits k ns ts)) H'
theorem ok_can {f fVo : Addr} {fd fdVo : FuncData} (F : Fun K "can_go_over" "can_go_over" sCan f fd) (T : Txt mg) (mzip : mg "zip" = none)
    (FVo : Fun K "votes_of" "votes_of" sVotes fVo fdVo) (bVo : Binds K fdVo ["k", "land"] []) (gVo : mg "votes_of" = some (.ref fVo)) : FnOk P w K mg base CX0 2 f fd ["k", "land", "voters"] (spCan K) := by
  have GVo : FnOk P w K mg base CX0 1 fVo fdVo ["k", "land"] (spVotes K) := ok_votes FVo T
  refine F.ok scC (fun vs H Q E h => ?_) (fun cdv A outer s H vs Q E hr h => ?_)
  · obtain ⟨k, a, b, ns, ts, rfl, _⟩ := h
    rfl
  · obtain ⟨k, a, b, ns, ts, rfl, hk0, hk1, hS, hV, hlen, hev, q⟩ := h
    refine ⟨_, pss_cons (ps_set (i := 3) scC.nd rfl (.inl rfl) (pe_call GVo hr (by rfl) gVo FVo.kp bVo .nil pass0 (pa_cons (pe_op op_sub pe_int (pv 0)) (pa_cons (pv 1) pa_nil))))
      (pss_cons (ps_if (pt_cmpR op_ne (pe_callB call_len_seq (by rfl) T.len PySem.boot_len (pa_cons (pv 2) pa_nil)) (pe_callB call_len_seq (by rfl) T.len PySem.boot_len (pa_cons (pv 3) pa_nil)) (nomark _)) (pss_one (ps_ret pe_bl)) pss_nil)
      (pss_one (ps_ret (pe_callB (cr_all rfl) (by rfl) T.all (by decide +kernel) (pa_cons
        (pe_lc (own := [("over", 4), ("other", 5)]) (g := gTup K 2 (gCons (gName 4) (gCons (gName 5) gNil))) (tt := tYes) rfl scC.nd (pi_zip (by rfl) mzip (pa_cons (pv 2) (pa_cons (pv 3) pa_nil)))
          (blkOk_by (own := [("over", 4), ("other", 5)]) (N := ["k", "land", "voters", "others", "over", "other"]) (sc := defScope sCan) (by decide +kernel))
          (fun _ _ _ _ _ => pg_tup rfl (pgs_cons (pg_name (i := 4) scC.nd rfl (Or.inl rfl)) (pgs_cons (pg_name (i := 5) scC.nd rfl (Or.inl rfl)) pgs_nil))) (fun _ _ _ _ _ => pts_nil)
          (fun _ _ _ _ _ => pe_cmpR op_le (pv 4) (pv 5) (nomark _))) pa_nil))))), ?_⟩
    refine ⟨_, rfl, _, _, rfl, rfl, _, rfl, 1 - k, a, ns, rfl, by omega, by omega, hS, hlen, hev, fun H1 o sm1 ho => ?_⟩
    have hV1 : SqL K H1 b (ts.map V.int) := sm1.seq hV
    have ln1 : ((ts.map V.int).length : Int) = ts.length := by rw [List.length_map]
    have ln2 : (((votesK (1 - k) ns).map V.int).length : Int) = ((ns.length / 2 : Nat) : Int) := by rw [List.length_map, votesK_len]
    refine ⟨.ref b, rfl, b, ts.map V.int, rfl, .inl hV1, .ref o, rfl, o, _, rfl, .inl (SqL.of ho), rfl, _, rfl, test_then (fun c => ?_) (fun c => ?_)⟩
    · have hn : ts.length ≠ ns.length / 2 := fun z => by
        have : V.int ((ts.map V.int).length : Int) = V.int (((votesK (1 - k) ns).map V.int).length : Int) := by rw [ln1, ln2, z]
        rw [decide_eq_true this] at c
        cases c
      rw [fits_no hn] at q
      exact q H1 sm1
    · have hn : ts.length = ns.length / 2 := by
        have c : decide (V.int ((ts.map V.int).length : Int) = V.int (((votesK (1 - k) ns).map V.int).length : Int)) = true := by simpa using c
        have z := V.int.inj (of_decide_eq_true c)
        rw [ln1, ln2] at z
        omega
      rw [fits_eq hk0 hk1 ns ts hn] at q
      have hlv := votesK_len (1 - k) ns
      refine ⟨.ref b, rfl, .ref o, rfl, b, o, _, _, rfl, hV1, SqL.of ho, fun D hD => ?_⟩
      refine lc_it (walk_zip (K := K) (a := b) (b := o) (xs := ts.map V.int) (ys := (votesK (1 - k) ns).map V.int) (n := ts.length) (by rw [List.length_map, List.length_map]; omega))
        (fun i H' => Same H1 H' ∧ H' D = some (.lst ((((ts.zip (votesK (1 - k) ns)).take i).map fun x => decide (x.1 ≤ x.2)).map V.bl))) ⟨same_upd hD, upd_same⟩ (fun i H' _ z => ⟨z.1.seq hV1, z.1.seq (SqL.of ho)⟩) ?_ ?_
      · rintro i x H2 H2' hi ⟨sm2, hd⟩ ⟨Tp, y1, y2, rfl, hT, rfl, ey1, ey2⟩
        have ey1 := at_is ey1
        have ey2 := at_is ey2
        subst ey1
        subst ey2
        have hDT : D ≠ Tp := ne_of_none hd hT
        refine ⟨Tp, _, rfl, SqT.of upd_same, rfl, _, _, rfl, _, _, rfl, rfl, rfl, yes_then ⟨_, rfl, _, rfl, _, _, rfl, rfl, _, (by rw [upd_ne hDT]; exact hd), ?_, ?_, ?_⟩⟩
        · rw [List.length_map, List.length_map, List.length_take]
          exact Nat.lt_of_le_of_lt (Nat.min_le_right _ _) (small1000 (by rw [List.length_zip]; omega))
        · exact fun x o e => by
            rw [upd_ne (ne_of_none e hD), upd_ne (ne_of_none (sm2 x o e) hT)]
            exact sm2 x o e
        · rw [upd_same, List.take_add_one, zip_at hi (by omega), List.map_append, List.map_append]
          rfl
      · rintro H2 ⟨sm2, hd⟩
        rw [List.take_of_length_le (by rw [List.length_zip]; omega)] at hd
        refine ⟨D, _, rfl, SqL.of hd, ?_⟩
        rw [all_zip]
        exact q H2 (fun x o e => sm2 x o (sm1 x o e))
def spMoved (K : PySem.W.Frag) : Sp := fun vs H Q _ => ∃ (k : Int) (a b : Addr) (ns ts : List Int), vs = [.int k, .ref a, .ref b] ∧ 0 ≤ k ∧ SqL K H a (ns.map V.int) ∧ SqL K H b (ts.map V.int) ∧ ns.length ≤ 18 ∧ ∀ (H' : Hp) (p : Addr), H' p = some (.lst ((moved k ns ts).map V.int)) → Q (.ref p) H'
theorem ok_moved {f fT fG fV fW fVo fGo fC : Addr} {fd fdT fdG fdV fdW fdVo fdGo fdC : FuncData} (F : Fun K "moved" "moved" sMoved f fd) (T : Txt mg) (mzip : mg "zip" = none) (mlist : mg "list" = none) (menum : mg "enumerate" = none)
    (FT : Fun K "land_is_as_told" "land_is_as_told" sTold fT fdT) (bT : Binds K fdT ["land"] []) (gT : mg "land_is_as_told" = some (.ref fT))
    (FG : Fun K "gain" "gain" sGain fG fdG) (bG : Binds K fdG ["own", "other"] []) (gG : mg "gain" = some (.ref fG))
    (FV : Fun K "gains_of" "gains_of" sGains fV fdV) (bV : Binds K fdV ["k", "land"] []) (gV : mg "gains_of" = some (.ref fV))
    (FW : Fun K "districts_won" "districts_won" sDw fW fdW) (bW : Binds K fdW ["land"] []) (gW : mg "districts_won" = some (.ref fW))
    (FVo : Fun K "votes_of" "votes_of" sVotes fVo fdVo) (bVo : Binds K fdVo ["k", "land"] []) (gVo : mg "votes_of" = some (.ref fVo))
    (FGo : Fun K "gone_over" "gone_over" sGone fGo fdGo) (bGo : Binds K fdGo ["k", "land", "voters"] []) (gGo : mg "gone_over" = some (.ref fGo))
    (FC : Fun K "can_go_over" "can_go_over" sCan fC fdC) (bC : Binds K fdC ["k", "land", "voters"] []) (gC : mg "can_go_over" = some (.ref fC)) : FnOk P w K mg base CX0 4 f fd ["k", "land", "voters"] (spMoved K) := by
  have GT : FnOk P w K mg base CX0 1 fT fdT ["land"] (spTold K) := ok_told FT T
  have GW : FnOk P w K mg base CX0 3 fW fdW ["land"] (spDw K) := ok_dw FW T FG bG gG FV bV gV
  have GGo : FnOk P w K mg base CX0 1 fGo fdGo ["k", "land", "voters"] (spGone K) := ok_gone FGo mlist menum
  have GC : FnOk P w K mg base CX0 2 fC fdC ["k", "land", "voters"] (spCan K) := ok_can FC T mzip FVo bVo gVo
  refine F.ok scM (fun vs H Q E h => ?_) (fun cdv A outer s H vs Q E hr h => ?_)
  · obtain ⟨k, a, b, ns, ts, rfl, _⟩ := h
    rfl
  · obtain ⟨k, a, b, ns, ts, rfl, hk0, hS, hV, hlen, q⟩ := h
    obtain ⟨t1, hnt⟩ := T.nt
    have hr1 : Room 1 _ := hr.mono (by decide)
    have hr2 : Room 2 _ := hr.mono (by decide)
    refine ⟨_, pss_cons (ps_if (PW.pt (pw_or (pt_cmpR op_gt (pv 0) pe_int (nomark _)) (pw_or (pt_not (pt_val (pe_call GT hr1 (by rfl) gT FT.kp bT .nil pass0 (pa_cons (pv 1) pa_nil))))
        (pw_or1 (pt_not (pt_val (pe_call GC hr2 (by rfl) gC FC.kp bC .nil pass0 (pa_cons (pv 0) (pa_cons (pv 1) (pa_cons (pv 2) pa_nil)))))))))) (pss_one (ps_ret (pe_lst (pa_cons (pe_glob (v := .int (-22)) rfl hnt ⟨_, rfl⟩) pa_nil)))) pss_nil)
      (pss_one (ps_ret (pe_call GW hr (by rfl) gW FW.kp bW .nil pass0 (pa_cons (pe_call GGo hr1 (by rfl) gGo FGo.kp bGo .nil pass0 (pa_cons (pv 0) (pa_cons (pv 1) (pa_cons (pv 2) pa_nil)))) pa_nil)))), ?_⟩
    have hno : (1 < k ∨ told ns = false ∨ fits k ns ts = false) → ∀ (H' : Hp) (p : Addr), H' p = some (.lst [V.int (-22)]) → Q (.ref p) H' := fun c H' p hp => by
      rw [moved_no c] at q
      exact q H' p hp
    refine ⟨_, rfl, _, _, rfl, rfl, _, rfl, ite2 (fun c => ?_) (fun c => ?_)⟩
    · exact iteT ⟨(by show 1 ≤ sizeLine; decide), fun p hp => hno (.inl (of_decide_eq_true c)) _ p upd_same⟩
    · have hk1 : k ≤ 1 := by
        have : ¬ 1 < k := fun z => c (decide_eq_true z)
        omega
      refine ⟨.ref a, rfl, a, ns, rfl, hS, hlen, fun H1 sm => ⟨_, rfl, test_then (fun c' => ?_) (fun c' => ?_)⟩⟩
      · exact iteT ⟨(by show 1 ≤ sizeLine; decide), fun p hp => hno (.inr (.inl (by simpa using c'))) _ p upd_same⟩
      · have ht : told ns = true := by simpa using c'
        have hS1 : SqL K H1 a (ns.map V.int) := sm.seq hS
        have hV1 : SqL K H1 b (ts.map V.int) := sm.seq hV
        refine ⟨_, rfl, _, rfl, _, rfl, k, a, b, ns, ts, rfl, hk0, hk1, hS1, hV1, hlen, told_even ht, fun H2 sm2 => ⟨_, rfl, test_then (fun c2 => ?_) (fun c2 => ?_)⟩⟩
        · exact ⟨(by show 1 ≤ sizeLine; decide), fun p hp => hno (.inr (.inr (by simpa using c2))) _ p upd_same⟩
        · have hf : fits k ns ts = true := by simpa using c2
          rw [moved_yes hk1 ht hf] at q
          have hfl : ts.length = ns.length / 2 := by
            unfold fits at hf
            rw [Bool.and_eq_true] at hf
            exact of_decide_eq_true hf.1
          refine ⟨_, rfl, _, rfl, _, rfl, k, a, b, ns, ts, rfl, hk0, hk1, sm2.seq hS1, sm2.seq hV1, Nat.le_of_eq hfl, fun H3 p sm3 hp => ?_⟩
          exact ⟨p, gone k ts ns, rfl, SqL.of hp, by rw [gone_len]; exact hlen, by rw [gone_len]; exact told_even ht, q⟩
end
end Cm
namespace Cm
open PySem PySem.Spec PyProof.Rows L2
open PySem.W (Codec)
theorem all_mk {P : Program} {w : World} {K : PySem.W.Frag} {h : Heap} {mg : Str → Option Value} {fa f1 f2 f3 f4 f5 f6 f7 f8 : Addr} (X : K.In h) (G : h.Ns mainGlobals mg) (hfa : mg "moved" = some (.ref fa))
    {od1 an1 od2 an2 od3 an3 od4 an4 od5 an5 od6 an6 od7 an7 od8 an8 : Option Addr} {sl1 sl2 sl3 sl4 sl5 sl6 sl7 sl8 : Array (Option Value)} {oc1 kV1 dc1 pm1 cd1 ct1 oc2 kV2 dc2 pm2 cd2 ct2 oc3 kV3 dc3 pm3 cd3 ct3 oc4 kV4 dc4 pm4 cd4 ct4 oc5 kV5 dc5 pm5 cd5 ct5 oc6 kV6 dc6 pm6 cd6 ct6 oc7 kV7 dc7 pm7 cd7 ct7 oc8 kV8 dc8 pm8 cd8 ct8 : Value} {t1 t2 t3 : Tok}
    (a1 : PySem.W.nsIn K mainGlobals "gain" = some (some (.ref f1))) (l1 : K.lookup f1 = some ⟨oc1, od1, .func (PySem.W.fnOf "gain" "gain" (defArgs sGain) (defBody sGain) (defScope sGain) .none kV1 dc1 pm1 an1 cd1 ct1), sl1⟩) (c1 : PySem.W.codeIn K cd1 "gain" = true) (k1 : PySem.W.keepIn K (.ref f1) = true)
    (a2 : PySem.W.nsIn K mainGlobals "land_is_as_told" = some (some (.ref f2))) (l2 : K.lookup f2 = some ⟨oc2, od2, .func (PySem.W.fnOf "land_is_as_told" "land_is_as_told" (defArgs sTold) (defBody sTold) (defScope sTold) .none kV2 dc2 pm2 an2 cd2 ct2), sl2⟩) (c2 : PySem.W.codeIn K cd2 "land_is_as_told" = true) (k2 : PySem.W.keepIn K (.ref f2) = true)
    (a3 : PySem.W.nsIn K mainGlobals "gains_of" = some (some (.ref f3))) (l3 : K.lookup f3 = some ⟨oc3, od3, .func (PySem.W.fnOf "gains_of" "gains_of" (defArgs sGains) (defBody sGains) (defScope sGains) .none kV3 dc3 pm3 an3 cd3 ct3), sl3⟩) (c3 : PySem.W.codeIn K cd3 "gains_of" = true) (k3 : PySem.W.keepIn K (.ref f3) = true)
    (a4 : PySem.W.nsIn K mainGlobals "districts_won" = some (some (.ref f4))) (l4 : K.lookup f4 = some ⟨oc4, od4, .func (PySem.W.fnOf "districts_won" "districts_won" (defArgs sDw) (defBody sDw) (defScope sDw) .none kV4 dc4 pm4 an4 cd4 ct4), sl4⟩) (c4 : PySem.W.codeIn K cd4 "districts_won" = true) (k4 : PySem.W.keepIn K (.ref f4) = true)
    (a5 : PySem.W.nsIn K mainGlobals "votes_of" = some (some (.ref f5))) (l5 : K.lookup f5 = some ⟨oc5, od5, .func (PySem.W.fnOf "votes_of" "votes_of" (defArgs sVotes) (defBody sVotes) (defScope sVotes) .none kV5 dc5 pm5 an5 cd5 ct5), sl5⟩) (c5 : PySem.W.codeIn K cd5 "votes_of" = true) (k5 : PySem.W.keepIn K (.ref f5) = true)
    (a6 : PySem.W.nsIn K mainGlobals "gone_over" = some (some (.ref f6))) (l6 : K.lookup f6 = some ⟨oc6, od6, .func (PySem.W.fnOf "gone_over" "gone_over" (defArgs sGone) (defBody sGone) (defScope sGone) .none kV6 dc6 pm6 an6 cd6 ct6), sl6⟩) (c6 : PySem.W.codeIn K cd6 "gone_over" = true) (k6 : PySem.W.keepIn K (.ref f6) = true)
    (a7 : PySem.W.nsIn K mainGlobals "can_go_over" = some (some (.ref f7))) (l7 : K.lookup f7 = some ⟨oc7, od7, .func (PySem.W.fnOf "can_go_over" "can_go_over" (defArgs sCan) (defBody sCan) (defScope sCan) .none kV7 dc7 pm7 an7 cd7 ct7), sl7⟩) (c7 : PySem.W.codeIn K cd7 "can_go_over" = true) (k7 : PySem.W.keepIn K (.ref f7) = true)
    (a8 : PySem.W.nsIn K mainGlobals "moved" = some (some (.ref f8))) (l8 : K.lookup f8 = some ⟨oc8, od8, .func (PySem.W.fnOf "moved" "moved" (defArgs sMoved) (defBody sMoved) (defScope sMoved) .none kV8 dc8 pm8 an8 cd8 ct8), sl8⟩) (c8 : PySem.W.codeIn K cd8 "moved" = true) (k8 : PySem.W.keepIn K (.ref f8) = true)
    (z1 : PySem.W.nsIn K mainGlobals "len" = some none)
    (z2 : PySem.W.nsIn K mainGlobals "all" = some none)
    (z3 : PySem.W.nsIn K mainGlobals "range" = some none)
    (z4 : PySem.W.nsIn K mainGlobals "zip" = some none)
    (z5 : PySem.W.nsIn K mainGlobals "list" = some none)
    (z6 : PySem.W.nsIn K mainGlobals "enumerate" = some none)
    (g1 : PySem.W.nsIn K mainGlobals "NOT_AS_TOLD" = some (some (.int (-22) t1)))
    (g2 : PySem.W.nsIn K mainGlobals "MOST_DISTRICTS" = some (some (.int 7 t2)))
    (g3 : PySem.W.nsIn K mainGlobals "MOST_VOTES" = some (some (.int 1000 t3))) :
    ∃ fd : FuncData, (∀ (s : Shared) (us : List Value), us.length = (["k", "land", "voters"] : List Str).length → BindsTo s fd ⟨us, []⟩ ((["k", "land", "voters"] : List Str).zip us)) ∧ ∀ base : Heap, K.In base → base.Ns mainGlobals mg → FnOk P w K mg base CX0 4 fa fd ["k", "land", "voters"] (spMoved K) := by
  have e := hfa.symm.trans (PySem.W.mg_of X G a8)
  cases e
  have F1 := fun_mk (st := sGain) l1 c1 k1
  have F2 := fun_mk (st := sTold) l2 c2 k2
  have F3 := fun_mk (st := sGains) l3 c3 k3
  have F4 := fun_mk (st := sDw) l4 c4 k4
  have F5 := fun_mk (st := sVotes) l5 c5 k5
  have F6 := fun_mk (st := sGone) l6 c6 k6
  have F7 := fun_mk (st := sCan) l7 c7 k7
  have F8 := fun_mk (st := sMoved) l8 c8 k8
  have b1 := F1.binds (ps := ["own", "other"]) fun _ _ _ _ _ _ us hl => match us, hl with | [_, _], _ => rfl
  have b2 := F2.binds (ps := ["land"]) fun _ _ _ _ _ _ us hl => match us, hl with | [_], _ => rfl
  have b3 := F3.binds (ps := ["k", "land"]) fun _ _ _ _ _ _ us hl => match us, hl with | [_, _], _ => rfl
  have b4 := F4.binds (ps := ["land"]) fun _ _ _ _ _ _ us hl => match us, hl with | [_], _ => rfl
  have b5 := F5.binds (ps := ["k", "land"]) fun _ _ _ _ _ _ us hl => match us, hl with | [_, _], _ => rfl
  have b6 := F6.binds (ps := ["k", "land", "voters"]) fun _ _ _ _ _ _ us hl => match us, hl with | [_, _, _], _ => rfl
  have b7 := F7.binds (ps := ["k", "land", "voters"]) fun _ _ _ _ _ _ us hl => match us, hl with | [_, _, _], _ => rfl
  have m1 := PySem.W.mg_of X G a1
  have m2 := PySem.W.mg_of X G a2
  have m3 := PySem.W.mg_of X G a3
  have m4 := PySem.W.mg_of X G a4
  have m5 := PySem.W.mg_of X G a5
  have m6 := PySem.W.mg_of X G a6
  have m7 := PySem.W.mg_of X G a7
  exact ⟨PySem.W.fnOf "moved" "moved" (defArgs sMoved) (defBody sMoved) (defScope sMoved) .none kV8 dc8 pm8 an8 cd8 ct8, fun s us hu => match us, hu with | [_, _, _], _ => .of_eq rfl, fun base _ _ => ok_moved F8 ⟨(PySem.W.mg_none_of X G z1), (PySem.W.mg_none_of X G z2), (PySem.W.mg_none_of X G z3), ⟨_, PySem.W.mg_of X G g1⟩, ⟨_, PySem.W.mg_of X G g2⟩, ⟨_, PySem.W.mg_of X G g3⟩⟩ (PySem.W.mg_none_of X G z4) (PySem.W.mg_none_of X G z5) (PySem.W.mg_none_of X G z6) F2 b2 m2 F1 b1 m1 F3 b3 m3 F4 b4 m4 F5 b5 m5 F6 b6 m6 F7 b7 m7⟩
end Cm
open PySem PySem.W PyProof.Rows
set_option maxRecDepth 100000 in
set_option maxHeartbeats 8000000 in
theorem PySem.Challenge.cw_camps_s07_moved_holds : PySem.Challenge.rw_camps_s07_moved.Holds := by
  w_on; k_headS; (case hw => exact ⟨[.int 0, .list [], .list []], by decide +kernel, by decide +kernel⟩)
  k_fillS
  refine L2.walk_specK (r := PySem.Challenge.rw_camps_s07_moved) (k := 4) (CX := L2.CX0) (ps := ["k", "land", "voters"]) (sp := Cm.spMoved) (by decide +kernel) rfl rfl ⟨rfl, by decide, by decide⟩ (fun w h Y => PySem.W.kIn_of Y) ?F ?S (fun _ _ _ _ z => z)
  case F =>
    intro w mg fa h Y KX G hmg
    refine' Cm.all_mk KX G hmg ?a1 ?l1 ?c1 ?k1 ?a2 ?l2 ?c2 ?k2 ?a3 ?l3 ?c3 ?k3 ?a4 ?l4 ?c4 ?k4 ?a5 ?l5 ?c5 ?k5 ?a6 ?l6 ?c6 ?k6 ?a7 ?l7 ?c7 ?k7 ?a8 ?l8 ?c8 ?k8 ?z1 ?z2 ?z3 ?z4 ?z5 ?z6 ?g1 ?g2 ?g3
    (case a1 => k_is)
    (case l1 => k_is)
    (case c1 => k_is)
    (case k1 => k_is)
    (case a2 => k_is)
    (case l2 => k_is)
    (case c2 => k_is)
    (case k2 => k_is)
    (case a3 => k_is)
    (case l3 => k_is)
    (case c3 => k_is)
    (case k3 => k_is)
    (case a4 => k_is)
    (case l4 => k_is)
    (case c4 => k_is)
    (case k4 => k_is)
    (case a5 => k_is)
    (case l5 => k_is)
    (case c5 => k_is)
    (case k5 => k_is)
    (case a6 => k_is)
    (case l6 => k_is)
    (case c6 => k_is)
    (case k6 => k_is)
    (case a7 => k_is)
    (case l7 => k_is)
    (case c7 => k_is)
    (case k7 => k_is)
    (case a8 => k_is)
    (case l8 => k_is)
    (case c8 => k_is)
    (case k8 => k_is)
    (case z1 => k_is)
    (case z2 => k_is)
    (case z3 => k_is)
    (case z4 => k_is)
    (case z5 => k_is)
    (case z6 => k_is)
    (case g1 => k_is)
    (case g2 => k_is)
    (case g3 => k_is)
  case S =>
    intro K H xs a hO hwi hask hx
    cases hx with
    | cons h1 h2 =>
      cases h2 with
      | cons h2 h3 =>
        cases h3 with
        | cons h3 h4 =>
          cases h4
          cases h1
          cases h2 with
          | lst hs ha =>
            cases h3 with
            | lst hs2 ha2 =>
              have e := L2.ints_dw a.2.1 _ ha
              subst e
              have e' := L2.ints_dw a.2.2.1 _ ha2
              subst e'
              have q : (Codec.inInt 0 4294967295 a.1 && ((Codec.inLen 0 18 a.2.1 && a.2.1.all (Codec.inInt 0 4294967295)) && ((Codec.inLen 0 10 a.2.2.1 && a.2.2.1.all (Codec.inInt 0 4294967295)) && true))) = true := hwi
              rw [Bool.and_eq_true, Bool.and_eq_true, Bool.and_eq_true, Bool.and_eq_true, Bool.and_eq_true] at q
              have hk := (Codec.inInt_iff.mp q.1).1
              refine ⟨a.1, _, _, a.2.1, a.2.2.1, rfl, hk, hs, hs2, (Codec.inNat_iff.mp q.2.1.1).2, fun H' p hp => ?_⟩
              have e2 : PyKs469.moved a.1 a.2.1 a.2.2.1 = Cm.moved a.1 a.2.1 a.2.2.1 := Cm.moved_is a.1 hk a.2.1 a.2.2.1 (fun x hx => by
                have z := List.all_eq_true.mp q.2.1.2 x hx
                exact (Codec.inInt_iff.mp z).1) fun x hx => by
                have z := List.all_eq_true.mp q.2.2.1.2 x hx
                exact (Codec.inInt_iff.mp z).1
              rw [← e2] at hp
              exact .lst (L2.SqL.of hp) (L2.dw_ints _)
#print axioms PySem.Challenge.cw_camps_s07_moved_holds
