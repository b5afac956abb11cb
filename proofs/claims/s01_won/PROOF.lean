import PyProof.Rows.All
import Wide.All
import OpenK.AllK
import Wide.FinOn
import Open.SpecLaws
import KE.OsGo
import HandS.ForSpec
import HandS.Comp
import HandS.Iter
import HandS.Walk
import HandS.SetFor
import PySem.Challenge.RW_camps_s01_won
set_option Elab.async false
set_option maxRecDepth 100000
set_option maxHeartbeats 2000000
namespace Cm
open Ks469 (two okLand)

def gain (a b : Int) : Int := if b < a then 1 else if a < b then -1 else 0
def told (l : List Int) : Bool := if l.length % 2 = 1 ∨ 14 < l.length then false else l.all fun v => decide (v ≤ 1000)
/-- the districts -/
def pr : List Int → List (Int × Int)
  | a :: b :: r => (a, b) :: pr r
  | _ => []
def nz (L : List (Int × Int)) : List (Nat × Nat) := L.map fun d => (d.1.toNat, d.2.toNat)

theorem pr_len : ∀ l : List Int, (pr l).length = l.length / 2
  | [] => by simp [pr]
  | [_] => by simp [pr]
  | a :: b :: r => by
    show (pr r).length + 1 = (r.length + 1 + 1) / 2
    rw [pr_len r]; omega
theorem pr_at : ∀ (l : List Int) (i : Nat), 2 * i + 1 < l.length → (pr l)[i]? = some (l.getD (2 * i) 0, l.getD (2 * i + 1) 0)
  | [], _, h => absurd h (Nat.not_lt_zero _)
  | [_], i, h => by simp at h
  | a :: b :: r, 0, _ => rfl
  | a :: b :: r, i + 1, h => by
    have ih := pr_at r i (by simp at h; omega)
    show (pr r)[i]? = _
    rw [ih]
    have e1 : 2 * (i + 1) = 2 * i + 1 + 1 := by omega
    rw [e1]
    rfl
theorem two_nats : ∀ l : List Int, two (l.map Int.toNat) = nz (pr l)
  | [] => rfl
  | [_] => rfl
  | a :: b :: r => by
    show (a.toNat, b.toNat) :: two (r.map Int.toNat) = (a.toNat, b.toNat) :: nz (pr r)
    rw [two_nats r]
theorem pr_all (p : Int → Bool) : ∀ l : List Int, l.length % 2 = 0 → (pr l).all (fun d => p d.1 && p d.2) = l.all p
  | [], _ => rfl
  | [_], h => by simp at h
  | a :: b :: r, h => by
    have ih := pr_all p r (by simp at h; omega)
    show ((p a && p b) && (pr r).all (fun d => p d.1 && p d.2)) = (p a && (p b && r.all p))
    rw [ih, Bool.and_assoc]
theorem pr_mem : ∀ (l : List Int) (d : Int × Int), d ∈ pr l → d.1 ∈ l ∧ d.2 ∈ l
  | [], _, h => by cases h
  | [_], _, h => by cases h
  | a :: b :: r, d, h => by
    rcases List.mem_cons.mp h with rfl | h
    · exact ⟨List.mem_cons_self, List.mem_cons_of_mem _ List.mem_cons_self⟩
    · have := pr_mem r d h
      exact ⟨List.mem_cons_of_mem _ (List.mem_cons_of_mem _ this.1), List.mem_cons_of_mem _ (List.mem_cons_of_mem _ this.2)⟩
theorem told_iff (l : List Int) : ((l.map Int.toNat).length % 2 = 0 ∧ okLand (two (l.map Int.toNat)) = true) ↔ told l = true := by
  rw [two_nats, List.length_map]
  unfold told
  by_cases h : l.length % 2 = 1 ∨ 14 < l.length
  · rw [if_pos h]
    constructor
    · rintro ⟨h1, h2⟩
      exfalso
      unfold okLand at h2
      rw [Bool.and_eq_true, decide_eq_true_iff] at h2
      have h3 := h2.1
      unfold nz at h3
      rw [List.length_map, pr_len] at h3
      unfold Ks469.DISTRICTS at h3
      omega
    · intro h; cases h
  · rw [if_neg h]
    have e : okLand (nz (pr l)) = l.all fun v => decide (v ≤ 1000) := by
      rw [← pr_all _ l (by omega)]
      unfold okLand nz
      rw [List.length_map, pr_len, List.all_map]
      have h7 : decide (l.length / 2 ≤ Ks469.DISTRICTS) = true := decide_eq_true (by unfold Ks469.DISTRICTS; omega)
      rw [h7, Bool.true_and]
      congr 1
      funext d
      show (decide (d.1.toNat ≤ Ks469.VOTES) && decide (d.2.toNat ≤ Ks469.VOTES)) = (decide (d.1 ≤ 1000) && decide (d.2 ≤ 1000))
      unfold Ks469.VOTES
      congr 1
      · exact decide_eq_decide.mpr (by omega)
      · exact decide_eq_decide.mpr (by omega)
    rw [e]
    constructor
    · exact fun h => h.2
    · exact fun h' => ⟨by omega, h'⟩

/-! ### won -/
def gains (l : List Int) : List Int := (pr l).map fun d => gain d.1 d.2
def won (l : List Int) : List Int := if told l = true then [((gains l).count 1 : Nat), ((gains l).count (-1) : Nat), ((gains l).count 0 : Nat)] else [-22]
theorem gain_cases (a b : Int) : (b < a ∧ gain a b = 1) ∨ (a < b ∧ gain a b = -1) ∨ (a = b ∧ gain a b = 0) := by
  unfold gain
  by_cases h : b < a
  · exact .inl ⟨h, if_pos h⟩
  · rw [if_neg h]
    by_cases h' : a < b
    · exact .inr (.inl ⟨h', if_pos h'⟩)
    · exact .inr (.inr ⟨by omega, if_neg h'⟩)
theorem won_counts : ∀ L : List (Int × Int), (∀ d ∈ L, 0 ≤ d.1 ∧ 0 ≤ d.2) →
    Ks469.won 0 (nz L) = (L.map fun d => gain d.1 d.2).count 1 ∧ Ks469.won 1 (nz L) = (L.map fun d => gain d.1 d.2).count (-1) ∧
    (nz L).length = Ks469.won 0 (nz L) + Ks469.won 1 (nz L) + (L.map fun d => gain d.1 d.2).count 0
  | [], _ => ⟨rfl, rfl, rfl⟩
  | d :: L, h => by
    obtain ⟨i1, i2, i3⟩ := won_counts L fun x hx => h x (List.mem_cons_of_mem _ hx)
    have hd := h d List.mem_cons_self
    have e0 : Ks469.won 0 (nz (d :: L)) = (if d.2 < d.1 then 1 else 0) + Ks469.won 0 (nz L) := by
      show (List.filter _ ((d.1.toNat, d.2.toNat) :: nz L)).length = _
      unfold Ks469.won
      rw [List.filter_cons]
      show (if decide (d.2.toNat < d.1.toNat) = true then _ else _ : List _).length = _
      by_cases c : d.2 < d.1
      · rw [if_pos c, if_pos (decide_eq_true (by omega)), List.length_cons]; omega
      · rw [if_neg c, if_neg (fun z => c (by have := of_decide_eq_true z; omega))]; omega
    have e1 : Ks469.won 1 (nz (d :: L)) = (if d.1 < d.2 then 1 else 0) + Ks469.won 1 (nz L) := by
      show (List.filter _ ((d.1.toNat, d.2.toNat) :: nz L)).length = _
      unfold Ks469.won
      rw [List.filter_cons]
      show (if decide (d.1.toNat < d.2.toNat) = true then _ else _ : List _).length = _
      by_cases c : d.1 < d.2
      · rw [if_pos c, if_pos (decide_eq_true (by omega)), List.length_cons]; omega
      · rw [if_neg c, if_neg (fun z => c (by have := of_decide_eq_true z; omega))]; omega
    have el : (nz (d :: L)).length = (nz L).length + 1 := rfl
    rw [e0, e1, el, List.map_cons]
    rcases gain_cases d.1 d.2 with ⟨c, g⟩ | ⟨c, g⟩ | ⟨c, g⟩
    · rw [if_pos c, if_neg (by omega), g, List.count_cons_self, List.count_cons_of_ne (by decide), List.count_cons_of_ne (by decide)]
      omega
    · rw [if_pos c, if_neg (by omega), g, List.count_cons_self, List.count_cons_of_ne (by decide), List.count_cons_of_ne (by decide)]
      omega
    · rw [if_neg (by omega), if_neg (by omega), g, List.count_cons_self, List.count_cons_of_ne (by decide), List.count_cons_of_ne (by decide)]
      omega
theorem won_is (l : List Int) (h : ∀ x ∈ l, 0 ≤ x) : PyKs469.won l = won l := by
  show Ks469Neutral.out (Ks469.given (l.map Int.toNat) fun a => Ks469.tells a) = won l
  unfold Ks469.given won
  by_cases c : told l = true
  · rw [if_pos ((told_iff l).mpr c), if_pos c, two_nats]
    obtain ⟨h1, h2, h3⟩ := won_counts (pr l) fun d hd => ⟨h _ (pr_mem l d hd).1, h _ (pr_mem l d hd).2⟩
    show [((Ks469.won 0 (nz (pr l)) : Nat) : Int), ((Ks469.won 1 (nz (pr l)) : Nat) : Int), (((nz (pr l)).length - Ks469.won 0 (nz (pr l)) - Ks469.won 1 (nz (pr l)) : Nat) : Int)] = _
    have e : (nz (pr l)).length - Ks469.won 0 (nz (pr l)) - Ks469.won 1 (nz (pr l)) = (gains l).count 0 := by unfold gains; omega
    rw [e, h1, h2]
    rfl
  · rw [if_neg (fun z => c ((told_iff l).mp z)), if_neg c]
    rfl
end Cm
namespace Cm
open PySem PySem.Spec PyProof.Rows L2
open PySem.W (Codec)
/-! ### the text -/
def top (i : Nat) : Stmt := PySem.Challenge.pw_camps_s01_won.main.body.getD i (.Pass ⟨0, 0, 0, 0⟩)
abbrev sTold : Stmt := top 5
abbrev sGain : Stmt := top 6
theorem scT : FnScope ["land", "votes"] ["land"] (defScope sTold) := ⟨rfl, rfl, rfl, by decide +kernel, rfl, by decide +kernel, by decide +kernel⟩
theorem scG : FnScope ["own", "other"] ["own", "other"] (defScope sGain) := ⟨rfl, rfl, rfl, by decide +kernel, rfl, by decide +kernel, by decide +kernel⟩
theorem same_upd {H : Hp} {p : Addr} {o : HO} (h : H p = none) : Same H (upd H p o) := fun b x e => by
  rw [upd_ne (ne_of_none e h)]
  exact e
theorem yes_then {σ : L2.St} {H : Hp} {A B : Hp → Prop} (h : A H) : tYes σ H (fun b H3 => if b = true then A H3 else B H3) := by
  show if true = true then A H else B H
  rw [if_pos rfl]
  exact h
theorem rg2 {n : Nat} (h : n ≤ 18) (he : n % 2 = 0) : RgC 0 (n : Int) 2 (n / 2) := by
  have all : ∀ m : Fin 19, m.val % 2 = 0 → Builtin.Range.small 0 (m.val : Int) 2 = true ∧ Builtin.Range.rangeSize 0 (m.val : Int) 2 = ((m.val / 2 : Nat) : Int) := by decide +kernel
  have q := all ⟨n, by omega⟩ he
  exact ⟨by decide, by decide, q.1, q.2⟩
section
variable {P : Program} {w : World} {K : PySem.W.Frag} {mg : Str → Option Value} {base : Heap}
def spGain : Sp := fun vs H Q _ => ∃ a b : Int, vs = [.int a, .int b] ∧ Q (.int (gain a b)) H
theorem ok_gain {f : Addr} {fd : FuncData} {k : Nat} (F : Fun K "gain" "gain" sGain f fd) : FnOk P w K mg base CX0 (k + 1) f fd ["own", "other"] spGain := by
  refine F.ok scG (fun vs H Q E h => ?_) (fun cdv A outer s H vs Q E hr h => ?_)
  · obtain ⟨a, b, rfl, _⟩ := h
    rfl
  · obtain ⟨a, b, rfl, q⟩ := h
    refine ⟨_, pss_cons (ps_if (pt_cmpR op_gt (pv 0) (pv 1) (nomark _)) (pss_one (ps_ret pe_int)) pss_nil)
      (pss_cons (ps_if (pt_cmpR op_lt (pv 0) (pv 1) (nomark _)) (pss_one (ps_ret (pe_un un_neg pe_int))) pss_nil)
      (pss_one (ps_ret pe_int))), ?_⟩
    refine ⟨_, rfl, _, rfl, _, _, rfl, rfl, _, rfl, ite2 (fun c => ?_) (fun c => ?_)⟩
    · have e : gain a b = 1 := if_pos (of_decide_eq_true c)
      rw [e] at q
      exact q
    · refine ⟨_, rfl, _, rfl, _, _, rfl, rfl, _, rfl, ite2 (fun c' => ?_) (fun c' => ?_)⟩
      · have e : gain a b = -1 := (if_neg (fun z => c (decide_eq_true z))).trans (if_pos (of_decide_eq_true c'))
        rw [e] at q
        exact ⟨_, rfl, q⟩
      · have e : gain a b = 0 := (if_neg (fun z => c (decide_eq_true z))).trans (if_neg (fun z => c' (decide_eq_true z)))
        rw [e] at q
        exact q
/-- what the top has written -/
structure Txt (mg : Str → Option Value) : Prop where
  len : mg "len" = none
  all : mg "all" = none
  range : mg "range" = none
  nt : ∃ t, mg "NOT_AS_TOLD" = some (.int (-22) t)
  md : ∃ t, mg "MOST_DISTRICTS" = some (.int 7 t)
  mv : ∃ t, mg "MOST_VOTES" = some (.int 1000 t)
theorem all_map (l : List Int) : (l.map fun v => decide (v ≤ 1000)).all id = l.all fun v => decide (v ≤ 1000) := by
  rw [List.all_map]; rfl
def spTold (K : PySem.W.Frag) : Sp := fun vs H Q _ => ∃ (a : Addr) (ns : List Int), vs = [.ref a] ∧ SqL K H a (ns.map V.int) ∧ ns.length ≤ 18 ∧ ∀ H', Same H H' → Q (.bl (told ns)) H'
theorem ok_told {f : Addr} {fd : FuncData} {k : Nat} (F : Fun K "land_is_as_told" "land_is_as_told" sTold f fd) (T : Txt mg) : FnOk P w K mg base CX0 (k + 1) f fd ["land"] (spTold K) := by
  refine F.ok scT (fun vs H Q E h => ?_) (fun cdv A outer s H vs Q E hr h => ?_)
  · obtain ⟨a, ns, rfl, _⟩ := h
    rfl
  · obtain ⟨a, ns, rfl, hS, hlen, q⟩ := h
    obtain ⟨t1, hmd⟩ := T.md
    obtain ⟨t2, hmv⟩ := T.mv
    refine ⟨_, pss_cons (ps_if (PW.pt (pw_or (pt_cmpR op_eq (pe_op op_mod (pe_callB call_len_seq (by rfl) T.len PySem.boot_len (pa_cons (pv 0) pa_nil)) pe_int) pe_int (nomark _))
          (pw_or1 (pt_cmpR op_gt (pe_callB call_len_seq (by rfl) T.len PySem.boot_len (pa_cons (pv 0) pa_nil)) (pe_op op_mul pe_int (pe_glob (v := .int 7) rfl hmd ⟨_, rfl⟩)) (nomark _)))))
        (pss_one (ps_ret pe_bl)) pss_nil)
      (pss_one (ps_ret (pe_callB (cr_all rfl) (by rfl) T.all (by decide +kernel) (pa_cons
        (pe_lc (own := [("votes", 1)]) (g := gName 1) (tt := tYes) rfl scT.nd (pi_list (pv 0)) (blkOk_by (own := [("votes", 1)]) (N := ["land", "votes"]) (sc := defScope sTold) (by decide +kernel))
          (fun _ _ _ _ _ => pg_name (i := 1) scT.nd rfl (Or.inl rfl)) (fun _ _ _ _ _ => pts_nil) (fun _ _ _ _ _ => pe_cmpR op_le (pv 1) (pe_glob (v := .int 1000) rfl hmv ⟨_, rfl⟩) (nomark _))) pa_nil)))), ?_⟩
    have hno : (ns.length % 2 = 1 ∨ 14 < ns.length) → Q (.bl false) H := fun c => by
      have e : told ns = false := if_pos c
      rw [e] at q
      exact q H (Same.refl H)
    have hyes : ¬ (ns.length % 2 = 1 ∨ 14 < ns.length) → ∀ H', Same H H' → Q (.bl (ns.all fun v => decide (v ≤ 1000))) H' := fun c H' sm => by
      have e : told ns = ns.all fun v => decide (v ≤ 1000) := if_neg c
      rw [e] at q
      exact q H' sm
    have ln : ((ns.map V.int).length : Int) = ns.length := by rw [List.length_map]
    refine ⟨.ref a, rfl, a, ns.map V.int, rfl, .inl hS, _, _, rfl, rfl, (by show (0 : Int) < 2; decide), rfl, _, rfl, ite2 (fun c => ?_) (fun c => ?_)⟩
    · have c := V.int.inj (of_decide_eq_true c)
      rw [ln] at c
      exact iteT (hno (.inl (by omega)))
    · refine ⟨.ref a, rfl, a, ns.map V.int, rfl, .inl hS, _, _, rfl, rfl, .inl ⟨by decide, by decide⟩, _, _, rfl, rfl, _, rfl, ite2 (fun c' => ?_) (fun c' => ?_)⟩
      · have c' := of_decide_eq_true c'
        rw [ln] at c'
        exact hno (.inr (by omega))
      · have n1 : ¬ (ns.length % 2 = 1 ∨ 14 < ns.length) := by
          rintro (z | z)
          · exact c (decide_eq_true (congrArg V.int (by rw [ln]; omega)))
          · exact c' (decide_eq_true (by rw [ln]; omega))
        refine ⟨.ref a, rfl, a, rfl, ⟨_, hS⟩, fun D hD => lc_list (K := K) (a := a) (xs := ns.map V.int)
          (fun i H' => Same H H' ∧ H' D = some (.lst (((ns.take i).map fun v => decide (v ≤ 1000)).map V.bl))) ⟨same_upd hD, upd_same⟩ (fun i H' _ z => z.1.seq hS) (fun i x H' hi ⟨sm, hd⟩ => ?_) (fun H' ⟨sm, hd⟩ => ?_)⟩
        · obtain ⟨z, hz, rfl⟩ : ∃ z, ns[i]? = some z ∧ x = V.int z := by
            rw [List.getElem?_map] at hi
            cases e : ns[i]? with
            | none => rw [e] at hi; cases hi
            | some z => rw [e] at hi; exact ⟨z, rfl, (Option.some.inj hi).symm⟩
          refine ⟨rfl, yes_then ⟨_, rfl, _, _, rfl, rfl, _, hd, ?_, ?_, ?_⟩⟩
          · rw [List.length_map, List.length_map, List.length_take]
            exact Nat.lt_of_le_of_lt (Nat.min_le_right _ _) (small1000 (by omega))
          · exact fun b o e => by
              rw [upd_ne (ne_of_none e hD)]
              exact sm b o e
          · rw [upd_same, List.take_add_one, hz, List.map_append, List.map_append]
            rfl
        · rw [List.length_map, List.take_length] at hd
          refine ⟨D, _, rfl, SqL.of hd, ?_⟩
          rw [all_map]
          exact hyes n1 H' sm
end
end Cm
namespace Cm
open PySem PySem.Spec PyProof.Rows L2
open PySem.W (Codec)
abbrev sWon : Stmt := top 4
theorem scW : FnScope ["land", "gains", "at"] ["land"] (defScope sWon) := ⟨rfl, rfl, rfl, by decide +kernel, rfl, by decide +kernel, by decide +kernel⟩
theorem gains_len (l : List Int) : (gains l).length = l.length / 2 := by
  unfold gains
  rw [List.length_map, pr_len]
theorem gains_at {l : List Int} {i : Nat} (h : 2 * i + 1 < l.length) : (gains l)[i]? = some (gain (l.getD (2 * i) 0) (l.getD (2 * i + 1) 0)) := by
  unfold gains
  rw [List.getElem?_map, pr_at l i h]
  rfl
theorem int_at {l : List Int} {j : Nat} (h : j < l.length) : (l.map V.int)[j]? = some (.int (l.getD j 0)) := by
  rw [List.getElem?_map, List.getElem?_eq_getElem h]
  show some (V.int l[j]) = some (V.int (l.getD j 0))
  rw [List.getD_eq_getElem?_getD, List.getElem?_eq_getElem h]
  rfl
section
variable {P : Program} {w : World} {K : PySem.W.Frag} {mg : Str → Option Value} {base : Heap}
def spWon (K : PySem.W.Frag) : Sp := fun vs H Q _ => ∃ (a : Addr) (ns : List Int), vs = [.ref a] ∧ SqL K H a (ns.map V.int) ∧ ns.length ≤ 18 ∧ ∀ (H' : Hp) (p : Addr), H' p = some (.lst ((won ns).map V.int)) → Q (.ref p) H'
theorem ok_won {f fT fG : Addr} {fd fdT fdG : FuncData} (F : Fun K "won" "won" sWon f fd) (T : Txt mg) (FT : Fun K "land_is_as_told" "land_is_as_told" sTold fT fdT) (bT : Binds K fdT ["land"] []) (gT : mg "land_is_as_told" = some (.ref fT))
    (FG : Fun K "gain" "gain" sGain fG fdG) (bG : Binds K fdG ["own", "other"] []) (gG : mg "gain" = some (.ref fG)) : FnOk P w K mg base CX0 2 f fd ["land"] (spWon K) := by
  have GT : FnOk P w K mg base CX0 1 fT fdT ["land"] (spTold K) := ok_told FT T
  have GG : FnOk P w K mg base CX0 1 fG fdG ["own", "other"] spGain := ok_gain FG
  refine F.ok scW (fun vs H Q E h => ?_) (fun cdv A outer s H vs Q E hr h => ?_)
  · obtain ⟨a, ns, rfl, _⟩ := h
    rfl
  · obtain ⟨a, ns, rfl, hS, hlen, q⟩ := h
    obtain ⟨t1, hnt⟩ := T.nt
    refine ⟨_, pss_cons (ps_if (pt_not (pt_val (pe_call GT hr (by rfl) gT FT.kp bT .nil pass0 (pa_cons (pv 0) pa_nil)))) (pss_one (ps_ret (pe_lst (pa_cons (pe_glob (v := .int (-22)) rfl hnt ⟨_, rfl⟩) pa_nil)))) pss_nil)
      (pss_cons (ps_setLc (i := 1) (own := [("at", 2)]) (g := gName 2) (tt := tYes) rfl scW.nd rfl rfl (sw_true rfl rfl rfl (by decide +kernel))
          (pi_range3 rfl T.range (pa_cons pe_int (pa_cons (pe_callB call_len_seq (by rfl) T.len PySem.boot_len (pa_cons (pv 0) pa_nil)) (pa_cons pe_int pa_nil))))
          (blkOk_by (own := [("at", 2)]) (N := ["land", "gains", "at"]) (sc := defScope sWon) (by decide +kernel))
          (fun _ _ _ _ _ => pg_name (i := 2) scW.nd rfl (Or.inl rfl)) (fun _ _ _ _ _ => pts_nil)
          (fun _ _ _ _ _ => pe_call GG hr (by rfl) gG FG.kp bG .nil pass0 (pa_cons (pe_ix (r := rIxL K) ix_list (pv 0) (pv 2) (fun _ _ => rfl)) (pa_cons (pe_ix (r := rIxL K) ix_list (pv 0) (pe_op op_add (pv 2) pe_int) (fun _ _ => rfl)) pa_nil))))
      (pss_one (ps_ret (pe_lst (pa_cons (pe_bm PySem.F.plainAttrs_list PySem.F.slot_list_count PySem.F.type_list_count mt_lcount (pv 1) (pa_cons pe_int pa_nil))
        (pa_cons (pe_bm PySem.F.plainAttrs_list PySem.F.slot_list_count PySem.F.type_list_count mt_lcount (pv 1) (pa_cons (pe_un un_neg pe_int) pa_nil))
        (pa_cons (pe_bm PySem.F.plainAttrs_list PySem.F.slot_list_count PySem.F.type_list_count mt_lcount (pv 1) (pa_cons pe_int pa_nil)) pa_nil))))))), ?_⟩
    refine ⟨.ref a, rfl, a, ns, rfl, hS, hlen, fun H1 sm => ⟨_, rfl, ite2 (fun c => ?_) (fun c => ?_)⟩⟩
    · have e : won ns = [-22] := if_neg (fun z => by rw [z] at c; exact absurd c (by decide))
      rw [e] at q
      exact ⟨(by show 1 ≤ sizeLine; decide), fun p hp => q _ p upd_same⟩
    · have ht : told ns = true := by
        cases e : told ns with
        | true => rfl
        | false => rw [e] at c; exact absurd rfl c
      have hev : ns.length % 2 = 0 := by
        have := (told_iff ns).mpr ht
        rw [List.length_map] at this
        exact this.1
      have ln : ((ns.map V.int).length : Int) = ns.length := by rw [List.length_map]
      refine ⟨.ref a, rfl, a, ns.map V.int, rfl, .inl (sm.seq hS), 0, _, 2, ns.length / 2, rfl, (by rw [ln]; exact rg2 hlen hev), fun D hD => ?_⟩
      refine lc_it walk_rangeC (fun i H' => Same H1 H' ∧ H' D = some (.lst (((gains ns).take i).map V.int))) ⟨same_upd hD, upd_same⟩ (fun i H' _ z => trivial) ?_ ?_
      · rintro i x H2 H2' hi ⟨sm2, hd⟩ ⟨rfl, rfl⟩
        have hj : 2 * i + 1 < ns.length := by omega
        have e0 : (0 : Int) + (i : Int) * 2 = ((2 * i : Nat) : Int) := by omega
        have e1 : (0 : Int) + (i : Int) * 2 + 1 = ((2 * i + 1 : Nat) : Int) := by omega
        refine ⟨rfl, yes_then ?_⟩
        have hl := sm2.seq (sm.seq hS)
        refine ⟨_, rfl, _, rfl, a, _, _, _, rfl, rfl, hl, (by rw [e0]; exact atI_nat (int_at (by omega))), _, rfl, _, rfl, _, _, rfl, rfl, a, _, _, _, rfl, rfl, hl, (by show atI _ (0 + (i : Int) * 2 + 1) = _; rw [e1]; exact atI_nat (int_at hj)), ?_⟩
        refine ⟨_, _, rfl, _, hd, ?_, ?_, ?_⟩
        · rw [List.length_map, List.length_take]
          exact Nat.lt_of_le_of_lt (Nat.min_le_right _ _) (small1000 (by rw [gains_len]; omega))
        · exact fun b o e => by
            rw [upd_ne (ne_of_none e hD)]
            exact sm2 b o e
        · rw [upd_same, List.take_add_one, gains_at hj, List.map_append]
          rfl
      · rintro H2 ⟨sm2, hd⟩
        have hd : H2 D = some (.lst ((gains ns).map V.int)) := by
          rw [List.take_of_length_le (by rw [gains_len]; exact Nat.le_refl _)] at hd
          exact hd
        have tq : tyV K "list" (.ref D) H2 := .inl ⟨rfl, _, SqL.of hd⟩
        refine ⟨_, rfl, tq, D, gains ns, 1, rfl, rfl, SqL.of hd, _, rfl, tq, _, rfl, D, gains ns, -1, rfl, rfl, SqL.of hd, _, rfl, tq, D, gains ns, 0, rfl, rfl, SqL.of hd, (by show 3 ≤ sizeLine; decide), fun p hp => ?_⟩
        have e : won ns = [(((gains ns).count 1 : Nat) : Int), (((gains ns).count (-1) : Nat) : Int), (((gains ns).count 0 : Nat) : Int)] := if_pos ht
        rw [e] at q
        exact q _ p upd_same
end
theorem mg_no {K : PySem.W.Frag} {h : Heap} {mg : Str → Option Value} {n : Str} (X : K.In h) (G : h.Ns mainGlobals mg) (e : PySem.W.nsIn K mainGlobals n = some none) : mg n = none := PySem.W.mg_none_of X G e
theorem all_mk {P : Program} {w : World} {K : PySem.W.Frag} {h : Heap} {mg : Str → Option Value} {fa f1 f2 f3 : Addr} (X : K.In h) (G : h.Ns mainGlobals mg) (hfa : mg "won" = some (.ref fa))
    {od1 an1 od2 an2 od3 an3 : Option Addr} {sl1 sl2 sl3 : Array (Option Value)} {oc1 kV1 dc1 pm1 cd1 ct1 oc2 kV2 dc2 pm2 cd2 ct2 oc3 kV3 dc3 pm3 cd3 ct3 : Value} {t1 t2 t3 : Tok}
    (a1 : PySem.W.nsIn K mainGlobals "gain" = some (some (.ref f1))) (l1 : K.lookup f1 = some ⟨oc1, od1, .func (PySem.W.fnOf "gain" "gain" (defArgs sGain) (defBody sGain) (defScope sGain) .none kV1 dc1 pm1 an1 cd1 ct1), sl1⟩) (c1 : PySem.W.codeIn K cd1 "gain" = true) (k1 : PySem.W.keepIn K (.ref f1) = true)
    (a2 : PySem.W.nsIn K mainGlobals "land_is_as_told" = some (some (.ref f2))) (l2 : K.lookup f2 = some ⟨oc2, od2, .func (PySem.W.fnOf "land_is_as_told" "land_is_as_told" (defArgs sTold) (defBody sTold) (defScope sTold) .none kV2 dc2 pm2 an2 cd2 ct2), sl2⟩) (c2 : PySem.W.codeIn K cd2 "land_is_as_told" = true) (k2 : PySem.W.keepIn K (.ref f2) = true)
    (a3 : PySem.W.nsIn K mainGlobals "won" = some (some (.ref f3))) (l3 : K.lookup f3 = some ⟨oc3, od3, .func (PySem.W.fnOf "won" "won" (defArgs sWon) (defBody sWon) (defScope sWon) .none kV3 dc3 pm3 an3 cd3 ct3), sl3⟩) (c3 : PySem.W.codeIn K cd3 "won" = true) (k3 : PySem.W.keepIn K (.ref f3) = true)
    (z1 : PySem.W.nsIn K mainGlobals "len" = some none) (z2 : PySem.W.nsIn K mainGlobals "all" = some none) (z3 : PySem.W.nsIn K mainGlobals "range" = some none)
    (g1 : PySem.W.nsIn K mainGlobals "NOT_AS_TOLD" = some (some (.int (-22) t1))) (g2 : PySem.W.nsIn K mainGlobals "MOST_DISTRICTS" = some (some (.int 7 t2))) (g3 : PySem.W.nsIn K mainGlobals "MOST_VOTES" = some (some (.int 1000 t3))) :
    ∃ fd : FuncData, (∀ (s : Shared) (us : List Value), us.length = (["land"] : List Str).length → BindsTo s fd ⟨us, []⟩ ((["land"] : List Str).zip us)) ∧ ∀ base : Heap, K.In base → base.Ns mainGlobals mg → FnOk P w K mg base CX0 2 fa fd ["land"] (spWon K) := by
  have e := hfa.symm.trans (PySem.W.mg_of X G a3)
  cases e
  have T : Txt mg := ⟨mg_no X G z1, mg_no X G z2, mg_no X G z3, ⟨_, PySem.W.mg_of X G g1⟩, ⟨_, PySem.W.mg_of X G g2⟩, ⟨_, PySem.W.mg_of X G g3⟩⟩
  have F1 := fun_mk (st := sGain) l1 c1 k1
  have F2 := fun_mk (st := sTold) l2 c2 k2
  have F3 := fun_mk (st := sWon) l3 c3 k3
  have b1 := F1.binds (ps := ["own", "other"]) fun _ _ _ _ _ _ us hl => match us, hl with | [_, _], _ => rfl
  have b2 := F2.binds (ps := ["land"]) fun _ _ _ _ _ _ us hl => match us, hl with | [_], _ => rfl
  exact ⟨PySem.W.fnOf "won" "won" (defArgs sWon) (defBody sWon) (defScope sWon) .none kV3 dc3 pm3 an3 cd3 ct3, fun s us hu => match us, hu with | [_], _ => .of_eq rfl, fun base _ _ => ok_won F3 T F2 b2 (PySem.W.mg_of X G a2) F1 b1 (PySem.W.mg_of X G a1)⟩
end Cm
open PySem PySem.W PyProof.Rows
set_option maxRecDepth 100000 in
set_option maxHeartbeats 8000000 in
theorem PySem.Challenge.cw_camps_s01_won_holds : PySem.Challenge.rw_camps_s01_won.Holds := by
  w_on; k_headS; (case hw => exact ⟨[.list []], by decide +kernel, by decide +kernel⟩)
  k_fillS
  refine L2.walk_specK (r := PySem.Challenge.rw_camps_s01_won) (k := 2) (CX := L2.CX0) (ps := ["land"]) (sp := Cm.spWon) (by decide +kernel) rfl rfl ⟨rfl, by decide, by decide⟩ (fun w h Y => PySem.W.kIn_of Y) ?F ?S (fun _ _ _ _ z => z)
  case F =>
    intro w mg fa h Y KX G hmg
    refine' Cm.all_mk KX G hmg ?a1 ?l1 ?c1 ?k1 ?a2 ?l2 ?c2 ?k2 ?a3 ?l3 ?c3 ?k3 ?z1 ?z2 ?z3 ?g1 ?g2 ?g3
    (case a1 => k_is); (case l1 => k_is); (case c1 => k_is); (case k1 => k_is)
    (case a2 => k_is); (case l2 => k_is); (case c2 => k_is); (case k2 => k_is)
    (case a3 => k_is); (case l3 => k_is); (case c3 => k_is); (case k3 => k_is)
    (case z1 => k_is); (case z2 => k_is); (case z3 => k_is); (case g1 => k_is); (case g2 => k_is); (case g3 => k_is)
  case S =>
    intro K H xs a hO hwi hask hx
    cases hx with
    | cons h1 h2 =>
      cases h2
      cases h1 with
      | lst hs ha =>
        have e := L2.ints_dw a.1 _ ha
        subst e
        have q : ((Codec.inLen 0 18 a.1 && a.1.all (Codec.inInt 0 4294967295)) && true) = true := hwi
        rw [Bool.and_eq_true, Bool.and_eq_true] at q
        refine ⟨_, a.1, rfl, hs, (Codec.inNat_iff.mp q.1.1).2, fun H' p hp => ?_⟩
        have e2 : PyKs469.won a.1 = Cm.won a.1 := Cm.won_is a.1 fun x hx => by
          have z := List.all_eq_true.mp q.1.2 x hx
          exact (Codec.inInt_iff.mp z).1
        rw [← e2] at hp
        exact .lst (L2.SqL.of hp) (L2.dw_ints _)
#print axioms PySem.Challenge.cw_camps_s01_won_holds
