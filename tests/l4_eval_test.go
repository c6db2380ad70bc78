package tests

import (
	"iter"
	"maps"
	"slices"
	"strings"
	"testing"

	"loop.example/springhead/impl"
)

// evalKinds is how many terms each name has in the rules and facts that are made up here.
var evalKinds = map[string]int{"e": 2, "p": 1, "q": 1, "t": 2, "r": 1, "s": 0, "h": 3}

func (d *dice) evalAtom(names, terms []string) impl.Atom {
	a := impl.Atom{Name: d.one(names...)}
	for range evalKinds[a.Name] {
		x := d.one(terms...)
		a.Args = append(a.Args, impl.Term{Var: x[0] <= 'Z' && x[0] >= 'A', Name: x})
	}
	return a
}

// evalRule is a rule whose variables are all in parts without Not; nots is how many with Not it may have.
func (d *dice) evalRule(names, heads []string, nots int) impl.Rule {
	bound := []string{"a", "b"}
	var r impl.Rule
	for range d.roll(impl.BodyMax) {
		a := d.evalAtom(names, []string{"X", "X", "Y", "Z", "a"})
		for _, x := range a.Args {
			if x.Var && !slices.Contains(bound, x.Name) {
				bound = append(bound, x.Name, x.Name)
			}
		}
		r.Body = append(r.Body, impl.Part{Atom: a})
	}
	for range d.roll(nots + 1) {
		if len(r.Body) < impl.BodyMax {
			part := impl.Part{Not: true, Atom: d.evalAtom(names, bound)}
			r.Body = slices.Insert(r.Body, d.roll(len(r.Body)+1), part)
		}
	}
	r.Head = d.evalAtom(heads, bound)
	return r
}

// evalRules is rules that are fine, of a few names, so that one needs another one.
func (d *dice) evalRules(most, nots int) []impl.Rule {
	var out []impl.Rule
	heads := []string{d.one("t", "q"), d.one("t", "r"), d.one("s", "r"), d.one("h", "q", "t")}
	names := append([]string{"e", d.one("e", "p")}, heads...)
	for range d.roll(most + 1) {
		r := d.evalRule(names, heads, nots)
		if d.roll(3) == 0 {
			// By chance alone facts would seldom follow of others that follow.
			r = readRule(d.one("t(X,Y) if e(X,Y)", "t(X,Z) if t(X,Y) and e(Y,Z)", "t(Y,X) if t(X,Y)", "q(Y) if q(X) and t(X,Y)", "q(Y) if e(X,Y) and q(X)"))
		}
		if impl.ProgCheck(append(slices.Clone(out), r)) == impl.ProgFine {
			out = append(out, r)
		}
	}
	return out
}

// evalFacts is facts that fit such rules.
func (d *dice) evalFacts(most int) []impl.Atom {
	set := map[string]bool{}
	for range d.roll(most + 1) {
		names := []string{"e", "e", "e", "e", "p", "p", "q", "t", "r", "s", "h"}
		set[impl.AtomPut(d.evalAtom(names, []string{"a", "b", "c"}))] = true
	}
	return listOf(set)
}

func (d *dice) evalChange(most int) impl.Change {
	return impl.ChangeOf(d.evalFacts(most), d.evalFacts(most))
}

// allWords is all words of rules and facts.
func allWords(list []impl.Rule, facts []impl.Atom) []string {
	all := slices.Clone(facts)
	for _, r := range list {
		all = append(all, atomsOfRule(r)...)
	}
	set := map[string]bool{}
	for _, a := range all {
		for _, x := range a.Args {
			if !x.Var {
				set[x.Name] = true
			}
		}
	}
	return slices.Collect(maps.Keys(set))
}

// replaced is an atom's text with words in the place of variables.
func replaced(a impl.Atom, words map[string]string) string {
	var args []string
	for _, x := range a.Args {
		if x.Var {
			args = append(args, words[x.Name])
		} else {
			args = append(args, x.Name)
		}
	}
	return a.Name + "(" + strings.Join(args, ",") + ")"
}

// choices goes through all ways to give one of words to each variable.
func choices(variables, words []string) iter.Seq[map[string]string] {
	return func(yield func(map[string]string) bool) {
		if len(variables) == 0 {
			yield(map[string]string{})
			return
		}
		for more := range choices(variables[1:], words) {
			for _, w := range words {
				more[variables[0]] = w
				if !yield(more) {
					return
				}
			}
		}
	}
}

// followsAtOnce tries all of words for all variables of all rules.
func followsAtOnce(list []impl.Rule, set map[string]bool, words []string) map[string]bool {
	out := map[string]bool{}
	for _, r := range list {
		var variables []string
		for _, a := range atomsOfRule(r) {
			for _, x := range a.Args {
				if x.Var && !slices.Contains(variables, x.Name) {
					variables = append(variables, x.Name)
				}
			}
		}
		for chosen := range choices(variables, words) {
			fails := func(p impl.Part) bool { return set[replaced(p.Atom, chosen)] == p.Not }
			if !slices.ContainsFunc(r.Body, fails) {
				out[replaced(r.Head, chosen)] = true
			}
		}
	}
	return out
}

// roundsOf is in which round each fact comes, as the document says it, step by step.
func roundsOf(list []impl.Rule, given []impl.Atom) map[string]int {
	rounds := map[string]int{}
	set := setOf(given)
	for s := range set {
		rounds[s] = 0
	}
	strata, words, last := impl.ProgStrata(list), allWords(list, given), 0
	for level := range len(list) {
		var some []impl.Rule
		for i, r := range list {
			if strata[i] == level {
				some = append(some, r)
			}
		}
		for grows := true; grows; {
			grows = false
			for s := range followsAtOnce(some, set, words) {
				if !set[s] {
					rounds[s] = last + 1
					grows = true
				}
			}
			for s := range rounds {
				set[s] = true
			}
			if grows {
				last++
			}
		}
	}
	return rounds
}

// checkRounds holds Eval and Rounds against roundsOf.
func checkRounds(t *testing.T, list []impl.Rule, given []impl.Atom) map[string]int {
	t.Helper()
	want := roundsOf(list, given)
	set := map[string]bool{}
	for s := range want {
		set[s] = true
	}
	all, ok := impl.Eval(list, given)
	again, rounds, told := impl.Rounds(list, given)
	expect(t, list, ok, len(want) <= impl.AllMax)
	expect(t, list, told, ok)
	expect(t, list, again, all)
	if !ok {
		expect(t, list, all, []impl.Atom(nil))
		expect(t, list, rounds, []int(nil))
		return nil
	}
	expect(t, []any{list, given}, all, listOf(set))
	expect(t, list, len(rounds), len(all))
	for i, a := range all {
		expect(t, []any{list, given, a}, rounds[i], want[impl.AtomPut(a)])
	}
	return want
}

// mustEval is Eval where it has to be true.
func mustEval(t *testing.T, list []impl.Rule, given []impl.Atom) []impl.Atom {
	t.Helper()
	all, ok := impl.Eval(list, given)
	expect(t, []any{list, given}, ok, true)
	return all
}

// ofName is the facts of a name.
func ofName(list []impl.Atom, names ...string) []impl.Atom {
	var out []impl.Atom
	for _, a := range list {
		if slices.Contains(names, a.Name) {
			out = append(out, a)
		}
	}
	return out
}

// hasAll says whether all facts of one list are in the other one.
func hasAll(all, some []impl.Atom) bool {
	set := setOf(all)
	for s := range setOf(some) {
		if !set[s] {
			return false
		}
	}
	return true
}

func TestP13AllThatFollows(t *testing.T) {
	d := newDice(50)
	high, later := 0, 0
	for range 1500 {
		list, given := d.evalRules(impl.RuleMax, 2), d.evalFacts(8)
		rounds := checkRounds(t, list, given)
		most := 0
		for _, n := range rounds {
			most = max(most, n)
		}
		if len(list) > 0 && slices.Max(impl.ProgStrata(list)) > 0 {
			high++
		}
		if most > 2 {
			later++
		}
		all := mustEval(t, list, given)
		expect(t, list, hasAll(all, given), true)
		expect(t, list, hasAll(all, impl.Once(list, all)), true)
		if len(all) <= impl.GivenMax {
			expect(t, []any{list, given}, mustEval(t, list, all), all)
		}
	}
	if high < 50 || later < 50 {
		t.Fatal("too few of interest:", high, later)
	}
}

func TestP13Examples(t *testing.T) {
	family := rules("t(X,Y) if e(X,Y)", "t(X,Z) if t(X,Y) and e(Y,Z)", "r(X) if p(X) and not t(a,X)")
	for _, c := range []struct {
		list        []impl.Rule
		given, want string
	}{
		{nil, "", ""},
		{nil, "a() x(a) x(a,b)", "a()0 x(a)0 x(a,b)0"},
		{rules("p(a)"), "", "p(a)1"},
		{rules("p(a)"), "p(a)", "p(a)0"},
		{rules("p(a)"), "p(b) z()", "p(a)1 p(b)0 z()0"},
		{rules("p(X) if q(X)"), "", ""},
		{rules("p(X) if q(X)"), "r(a)", "r(a)0"},
		{rules("p(X) if q(X)"), "p(c) q(b) q(c)", "p(b)1 p(c)0 q(b)0 q(c)0"},
		{rules("p() if not q()"), "", "p()1"},
		{rules("p() if not q()"), "q()", "q()0"},
		{family, "e(a,b) e(b,c) p(c) p(d)", "e(a,b)0 e(b,c)0 p(c)0 p(d)0 r(d)3 t(a,b)1 t(a,c)2 t(b,c)1"},
		{family, "e(a,a)", "e(a,a)0 t(a,a)1"},
		{family, "p(a) t(a,a)", "p(a)0 t(a,a)0"},
		// Follows in two ways, of which one is shorter.
		{rules("c() if b()", "b() if a()", "c() if a()"), "a()", "a()0 b()1 c()1"},
		// The same variable twice, and words in a part.
		{rules("p(X) if e(X,X)", "q(X) if e(a,X)"), "e(a,b) e(b,a) e(b,b) e(c,b)", "e(a,b)0 e(b,a)0 e(b,b)0 e(c,b)0 p(b)1 q(b)1"},
		// In the stratum between nothing new comes.
		{rules("a() if x()", "b() if not a()", "c() if not b()"), "x()", "a()1 c()2 x()0"},
		{rules("c() if not b()", "b() if not a()", "a() if not x()"), "", "a()1 c()2"},
		// A fact is given that a later stratum tells too.
		{rules("c() if not b()", "b() if not a()"), "b()", "b()0"},
		{rules("d() if c()", "c() if not b()", "b() if not a()", "a() if d()"), "", ""},
	} {
		all, rounds, ok := impl.Rounds(c.list, atoms(strings.Fields(c.given)...))
		var got []string
		for i, a := range all {
			got = append(got, impl.AtomPut(a)+string(rune('0'+rounds[i])))
		}
		fine := impl.ProgCheck(c.list) == impl.ProgFine
		expect(t, c, ok, fine)
		expect(t, c, strings.Join(got, " "), c.want)
	}
}

func TestP13GivenMax(t *testing.T) {
	list := rules("q(X) if p(X)")
	for count, want := range map[int]bool{impl.GivenMax - 1: true, impl.GivenMax: true, impl.GivenMax + 1: false, impl.AllMax: false} {
		for _, some := range [][]impl.Rule{nil, list} {
			given := numbered("p", 0, count)
			all, ok := impl.Eval(some, given)
			expect(t, count, ok, want)
			switch {
			case !want:
				expect(t, count, all, []impl.Atom(nil))
			case some == nil:
				expect(t, count, all, given)
			default:
				expect(t, count, all, append(given, numbered("q", 0, count)...))
			}
			_, rounds, ok := impl.Rounds(some, given)
			expect(t, count, ok, want)
			expect(t, count, len(rounds), len(all))
		}
	}
}

func TestP13AllMax(t *testing.T) {
	pairs := "h(X,Y) if p(X) and p(Y)"
	given := append(numbered("p", 0, 16), numbered("x", 0, 24)...)
	for _, c := range []struct {
		list  []impl.Rule
		given []impl.Atom
		count int
	}{
		{rules(pairs), given, 296},
		{rules(pairs, "a()", "b()", "c()"), given, 299},
		{rules(pairs, "a()", "b()", "c()", "d()"), given, 300},
		{rules(pairs, "a()", "b()", "c()", "d()", "e()"), given, 301},
		{rules("a()", "b()", "c()", "d()", "e()", pairs), given, 301},
		{rules("a()", "b()", "c()", "d()", "e()", pairs), given[:39], 300},
		// What is there already is not counted again.
		{rules(pairs, "a()", "b()", "c()", "d()", "a()", "p(000)", "d() if c()"), given, 300},
		{rules(pairs, "a()", "b()", "c() if b()", "d() if c()", "c() if d()"), given, 300},
		// The one too many comes in a later round.
		{rules(pairs, "a()", "b()", "c() if b()", "d() if c()", "e() if d()"), given, 301},
		// It comes in a later stratum.
		{rules(pairs, "a()", "b()", "c()", "d() if not z()", "z() if y()"), given, 300},
		{rules(pairs, "a()", "b()", "c()", "d()", "e() if not z()", "z() if y()"), given, 301},
		{rules("h(X,Y,Z) if p(X) and p(Y) and p(Z)"), numbered("p", 0, 6), 222},
		{rules("h(X,Y,Z) if p(X) and p(Y) and p(Z)"), numbered("p", 0, 7), 350},
	} {
		all, ok := impl.Eval(c.list, c.given)
		again, rounds, told := impl.Rounds(c.list, c.given)
		expect(t, c.list, ok, c.count <= impl.AllMax)
		expect(t, c.list, told, ok)
		expect(t, c.list, again, all)
		expect(t, c.list, len(rounds), len(all))
		if ok {
			expect(t, c.list, len(all), c.count)
		} else {
			expect(t, c.list, len(all), 0)
		}
	}
}

// badGiven is rules and facts that may not be given to them.
func badGiven() [][2]any {
	fine := rules("t(X,Y) if e(X,Y) and not s()")
	out := [][2]any{
		{fine, atoms("e(a)")}, {fine, atoms("e(a,b)", "e(a,b,c)")}, {fine, atoms("s(a)")}, {fine, atoms("t()")},
		{rules("p(a)"), atoms("p()")}, {rules("p(a)"), atoms("p(a,a)")},
	}
	for _, list := range badFacts() {
		out = append(out, [2]any{fine, list}, [2]any{[]impl.Rule(nil), list})
	}
	for _, bad := range badRules() {
		out = append(out, [2]any{bad, []impl.Atom(nil)}, [2]any{bad, atoms("a()")}, [2]any{bad, atoms("p()")})
	}
	return out
}

// badRules is rules none of which are fine.
func badRules() [][]impl.Rule {
	return [][]impl.Rule{
		rules("p(X)"), rules("p() if not p()"), rules("a() if not b()", "b() if a()"), rules("p()", "p(a)"), make([]impl.Rule, 1),
		slices.Repeat(rules("p()"), impl.RuleMax+1), rules("p() if a() and a() and a() and a() and a()"), rules("p() if not q(X)"),
	}
}

func TestP13WhatMayNotBeGiven(t *testing.T) {
	for _, c := range badGiven() {
		list, given := c[0].([]impl.Rule), c[1].([]impl.Atom)
		all, ok := impl.Eval(list, given)
		expect(t, c, ok, false)
		expect(t, c, all, []impl.Atom(nil))
		all, rounds, ok := impl.Rounds(list, given)
		expect(t, c, ok, false)
		expect(t, c, all, []impl.Atom(nil))
		expect(t, c, rounds, []int(nil))
		expect(t, c, impl.Once(list, given), []impl.Atom(nil))
		for _, change := range []impl.Change{{}, {Goes: atoms("z()")}, impl.ChangeOf(given, nil)} {
			delta, ok := impl.Delta(list, given, change)
			expect(t, c, ok, false)
			expect(t, c, delta, impl.Change{})
		}
	}
	fit := rules("t(X,Y) if e(X,Y) and not s()")
	expect(t, "names of no rule", mustEval(t, fit, atoms("x()", "x(a)", "x(a,b)", "x(a,b,c)")), atoms("x()", "x(a)", "x(a,b)", "x(a,b,c)"))
	expect(t, "a full set of rules", len(mustEval(t, slices.Repeat(rules("p()"), impl.RuleMax), nil)), 1)
}

func TestP14NothingElse(t *testing.T) {
	d := newDice(51)
	for range 700 {
		list, given := d.evalRules(impl.RuleMax, 2), d.evalFacts(8)
		all, rounds, ok := impl.Rounds(list, given)
		expect(t, list, ok, true)
		var came []impl.Atom
		for n := 0; len(came) < len(all); n++ {
			var now []impl.Atom
			for i, a := range all {
				if rounds[i] == n {
					now = append(now, a)
				}
			}
			if n == 0 {
				expect(t, list, now, given)
			} else {
				expect(t, []any{list, given, n}, len(now) > 0, true)
				expect(t, []any{list, given, n}, hasAll(impl.Once(list, came), now), true)
			}
			came = append(came, now...)
			slices.SortFunc(came, orderOfAtoms)
		}
	}
}

func TestP14RoundsOfLongChains(t *testing.T) {
	list := rules("n(X,Y) if n(X,Z) and s(Z,Y)", "n(X,a) if n(Z,f) and s(Z,X)", "z() if n(f,f) and not y()", "y() if n(f,e) and n(f,g)")
	given := atoms("n(a,a)", "s(a,b)", "s(b,c)", "s(c,d)", "s(d,e)", "s(e,f)")
	want := checkRounds(t, list, given)
	expect(t, "the last", want["n(f,f)"], 35)
	expect(t, "behind it", want["z()"], 36)
	var chain []impl.Rule
	for _, c := range "hgfedcba" {
		chain = append(chain, readRule("p("+string(c+1)+") if p("+string(c)+") and not q("+string(c)+")"))
	}
	expect(t, "chain", checkRounds(t, chain, atoms("p(a)"))["p(i)"], 8)
	expect(t, "broken chain", len(checkRounds(t, chain, atoms("p(a)", "q(d)"))), 5)
}

func TestP15OrderOfRules(t *testing.T) {
	d := newDice(52)
	for range 700 {
		list, given := d.evalRules(impl.RuleMax, 2), d.evalFacts(10)
		all, rounds, ok := impl.Rounds(list, given)
		turned := slices.Clone(list)
		slices.Reverse(turned)
		again, same, told := impl.Rounds(turned, given)
		expect(t, list, told, ok)
		expect(t, list, again, all)
		expect(t, list, same, rounds)
		expect(t, list, mustEval(t, turned, given), all)
	}
}

func TestP16WithoutNot(t *testing.T) {
	d := newDice(53)
	for range 300 {
		list, given := d.evalRules(impl.RuleMax, 0), d.evalFacts(8)
		all := mustEval(t, list, given)
		for i := range given {
			less := mustEval(t, list, slices.Concat(given[:i], given[i+1:]))
			expect(t, list, hasAll(all, less), true)
		}
	}
	list := rules("p() if q() and not r()")
	expect(t, "with Not", hasAll(mustEval(t, list, atoms("q()", "r()")), mustEval(t, list, atoms("q()"))), false)
}

func TestP17WhatIsNotNeeded(t *testing.T) {
	d := newDice(54)
	for range 400 {
		list, given := d.evalRules(impl.RuleMax, 2), d.evalFacts(12)
		all := mustEval(t, list, given)
		for _, name := range impl.ProgNames(list) {
			needed := ofName(given, impl.ProgNeeds(list, name)...)
			expect(t, name, ofName(mustEval(t, list, needed), name), ofName(all, name))
		}
	}
}

func TestP18Delta(t *testing.T) {
	d := newDice(55)
	for range 1000 {
		list, given, c := d.evalRules(impl.RuleMax, 2), d.evalFacts(8), d.evalChange(5)
		all, then := mustEval(t, list, given), mustEval(t, list, impl.ChangeDo(given, c))
		delta, ok := impl.Delta(list, given, c)
		expect(t, []any{list, given, c}, ok, true)
		expect(t, []any{list, given, c}, delta, impl.ChangeOf(all, then))
		expect(t, []any{list, given, c}, impl.ChangeDo(all, delta), then)
		none, ok := impl.Delta(list, given, impl.Change{})
		expect(t, list, ok, true)
		expect(t, list, none, impl.Change{})
	}
}

func TestP18Examples(t *testing.T) {
	list := rules("t(X,Y) if e(X,Y)", "t(X,Z) if t(X,Y) and e(Y,Z)", "r(X) if p(X) and not t(a,X)", "s() if p(X) and not r(X)")
	given := atoms("e(a,b)", "e(b,c)", "p(c)", "p(d)")
	for _, c := range []struct{ change, want string }{
		{"", ""},
		{"+e(a,b) ", ""},
		{"-e(c,c) ", ""},
		{"-e(a) -s() ", ""},
		{"+t(a,b) ", ""},
		{"+x(a,b,c) ", "+x(a,b,c) "},
		{"-e(b,c) +p(a) ", "-e(b,c) -s() -t(a,c) -t(b,c) +p(a) +r(a) +r(c) "},
		{"+t(a,d) ", "-r(d) +t(a,d) "},
		{"-e(a,b) -e(b,c) -p(c) -p(d) ", "-e(a,b) -e(b,c) -p(c) -p(d) -r(d) -s() -t(a,b) -t(a,c) -t(b,c) "},
	} {
		change, ok := impl.ChangeGet(c.change)
		expect(t, c, ok, true)
		delta, ok := impl.Delta(list, given, change)
		expect(t, c, ok, true)
		expect(t, c, impl.ChangePut(delta), c.want)
	}
	for _, text := range []string{"+e(a) ", "+s(a) ", "-p(c) +p() ", "+t(a,b,c) "} {
		change, ok := impl.ChangeGet(text)
		expect(t, text, ok, true)
		delta, ok := impl.Delta(list, given, change)
		expect(t, text, ok, false)
		expect(t, text, delta, impl.Change{})
	}
	for _, bad := range badChanges() {
		delta, ok := impl.Delta(list, given, bad)
		expect(t, bad, ok, false)
		expect(t, bad, delta, impl.Change{})
	}
}

func TestP18TooMuch(t *testing.T) {
	p := numbered("p", 0, impl.AllMax)
	full := p[:impl.GivenMax]
	for _, c := range []struct {
		list   []impl.Rule
		given  []impl.Atom
		change impl.Change
		ok     bool
	}{
		{nil, nil, impl.Change{Comes: full}, true},
		{nil, nil, impl.Change{Comes: p[:impl.GivenMax+1]}, false},
		{nil, full, impl.Change{Comes: atoms("q()")}, false},
		{nil, full, impl.Change{Comes: atoms("q()"), Goes: full[:1]}, true},
		{nil, full, impl.Change{Comes: full}, true},
		{nil, full, impl.Change{Goes: p}, true},
		{nil, full, impl.Change{Comes: p[impl.GivenMax:]}, false},
		// Behind it there would be more than AllMax, of which ChangeDo has nothing.
		{nil, full, impl.Change{Comes: numbered("q", 0, impl.AllMax)}, false},
		{nil, full, impl.Change{Comes: numbered("q", 0, impl.AllMax-impl.GivenMax+1)}, false},
		{nil, full, impl.Change{Comes: numbered("q", 0, impl.AllMax), Goes: full}, false},
		{rules("q(X) if p(X)"), full, impl.Change{Goes: full}, true},
		{rules("h(X,Y) if p(X) and p(Y)"), p[:16], impl.Change{Comes: p[16:17]}, false},
		{rules("h(X,Y) if p(X) and p(Y)"), p[:17], impl.Change{Goes: p[:1]}, false},
		{rules("h(X,Y) if p(X) and p(Y)"), p[:16], impl.Change{Comes: p[16:17], Goes: p[:1]}, true},
	} {
		delta, ok := impl.Delta(c.list, c.given, c.change)
		expect(t, c, ok, c.ok)
		if !ok {
			expect(t, c, delta, impl.Change{})
			continue
		}
		all := mustEval(t, c.list, c.given)
		expect(t, c, impl.ChangeDo(all, delta), mustEval(t, c.list, impl.ChangeDo(c.given, c.change)))
	}
}

func TestP50BothDeltas(t *testing.T) {
	d := newDice(56)
	for range 700 {
		list, given, a, b := d.evalRules(impl.RuleMax, 2), d.evalFacts(8), d.evalChange(4), d.evalChange(4)
		all := mustEval(t, list, given)
		both, ok := impl.ChangeBoth(a, b)
		expect(t, list, ok, true)
		together, ok := impl.Delta(list, given, both)
		expect(t, list, ok, true)
		first, ok := impl.Delta(list, given, a)
		expect(t, list, ok, true)
		second, ok := impl.Delta(list, impl.ChangeDo(given, a), b)
		expect(t, list, ok, true)
		expect(t, []any{list, given, a, b}, impl.ChangeDo(all, together), impl.ChangeDo(impl.ChangeDo(all, first), second))
	}
}

func TestP51WhatIsNotNeededChangesNothing(t *testing.T) {
	d := newDice(57)
	untouched, touched := 0, 0
	for range 700 {
		list, given, c := d.evalRules(impl.RuleMax, 2), d.evalFacts(8), d.evalChange(2)
		delta, ok := impl.Delta(list, given, c)
		expect(t, list, ok, true)
		for _, name := range impl.ProgNames(list) {
			needs := impl.ProgNeeds(list, name)
			changed := len(ofName(delta.Comes, name)) + len(ofName(delta.Goes, name))
			if len(ofName(c.Comes, needs...))+len(ofName(c.Goes, needs...)) > 0 {
				touched += changed
				continue
			}
			expect(t, []any{list, given, c, name}, changed, 0)
			untouched++
		}
	}
	if untouched < 100 || touched < 100 {
		t.Fatal("too few of interest:", untouched, touched)
	}
}

func TestP52OnceByEach(t *testing.T) {
	d := newDice(58)
	for range 1000 {
		list, facts := d.evalRules(impl.RuleMax, 2), d.evalFacts(15)
		once := impl.Once(list, facts)
		expect(t, []any{list, facts}, once, listOf(followsAtOnce(list, setOf(facts), allWords(list, facts))))
		together := map[string]bool{}
		for _, r := range list {
			maps.Copy(together, setOf(impl.Once([]impl.Rule{r}, facts)))
		}
		expect(t, []any{list, facts}, once, listOf(together))
	}
}

func TestP52OnceExamples(t *testing.T) {
	for _, c := range []struct {
		list        []impl.Rule
		facts, want string
	}{
		{nil, "a()", ""},
		{rules("p(a)", "p(a)"), "", "p(a)"},
		{rules("p(X) if q(X)"), "", ""},
		{rules("p(X) if q(X)"), "p(a) q(a)", "p(a)"},
		{rules("c() if b()", "b() if a()"), "a()", "b()"},
		{rules("c() if b()", "b() if a()"), "a() b()", "b() c()"},
		// Once does not wait for what an earlier stratum would tell.
		{rules("c() if not b()", "b() if a()"), "a()", "b() c()"},
		{rules("p(X) if q(X) and not r(X)"), "q(a) q(b) r(b)", "p(a)"},
		{rules("p(X) if q(X) and not q(a)"), "q(a) q(b)", ""},
		{rules("p() if q(X) and not r(X)"), "q(a) q(b) r(b)", "p()"},
	} {
		expect(t, c, impl.Once(c.list, atoms(strings.Fields(c.facts)...)), atoms(strings.Fields(c.want)...))
	}
	square := rules("h(X,Y) if p(X) and p(Y)")
	expect(t, "more than GivenMax", len(impl.Once(square, numbered("p", 0, impl.GivenMax+1))), 1681)
	expect(t, "AllMax", len(impl.Once(square, numbered("p", 0, impl.AllMax))), 90000)
	expect(t, "more than AllMax", len(impl.Once(square, numbered("p", 0, impl.AllMax+1))), 0)
}

// TestManyWords is of rules for which there are very many words, and few that make a difference.
func TestManyWords(t *testing.T) {
	p := numbered("p", 0, impl.AllMax)
	for text, want := range map[string]int{
		"r() if p(A) and p(B) and p(C) and p(D)":                              1,
		"r(D) if p(A) and p(B) and p(C) and p(D)":                             300,
		"r() if p(A) and p(B) and p(C) and q(D)":                              0,
		"r(A) if p(A) and p(B) and p(C) and q(A)":                             0,
		"r() if p(A) and p(B) and p(C) and not p(005)":                        0,
		"r(A) if p(A) and p(B) and p(C) and not p(A)":                         0,
		"r(B,D) if p(A) and p(B) and p(C) and p(D)":                           90000,
		"r() if p(000) and p(A) and p(299) and not p(300)":                    1,
		"r(A) if p(A) and p(A) and p(A) and p(A)":                             300,
		"abcdefgh(A,hgfedcba,A) if p(A) and p(Abcdefgh) and p(B) and not q()": 300,
	} {
		expect(t, text, len(impl.Once(rules(text), p)), want)
	}
	list := rules("q(X,Y) if p(X) and p(Y)", "h(D) if q(A,E) and q(B,F) and q(C,G) and q(D,H)", "z() if q(A,B) and q(C,D) and q(E,F) and q(a,zz)", "y(X) if q(X,A) and q(X,B) and q(X,C) and q(X,D)")
	expect(t, "Eval", len(mustEval(t, list, p[:15])), 15+225+15+15)
}
