package tests

import (
	"slices"
	"testing"

	"loop.example/springhead/impl"
)

func TestP5Codes(t *testing.T) {
	for _, c := range []struct {
		list []impl.Rule
		want int
	}{
		{nil, impl.ProgFine},
		{[]impl.Rule{}, impl.ProgFine},
		{rules("p()"), impl.ProgFine},
		{rules("p(a)", "p(b)", "p(a)"), impl.ProgFine},
		{rules("p(X) if q(X)"), impl.ProgFine},
		{rules("p() if a() and b() and c() and d()"), impl.ProgFine},
		{rules("p() if a() and b() and c() and d() and e()"), impl.ProgRule},
		{make([]impl.Rule, 1), impl.ProgRule},
		{rules("p()", "not()"), impl.ProgRule},
		{rules("p(a,b,c,d)"), impl.ProgRule},
		{rules("p(a) if q(not)"), impl.ProgRule},
		{rules("p() if not P()"), impl.ProgRule},
		{rules("a()", "b()", "c()", "d()", "e()", "f()", "g()", "h()"), impl.ProgFine},
		{rules("a()", "b()", "c()", "d()", "e()", "f()", "g()", "h()", "i()"), impl.ProgMany},
		{rules("p(a)", "p()"), impl.ProgArgs},
		{rules("p(a) if p(a,b)"), impl.ProgArgs},
		{rules("p(a) if q(a) and not q()"), impl.ProgArgs},
		{rules("a() if q(a)", "b() if q(a,a)"), impl.ProgArgs},
		{rules("p(p) if q(q,p)"), impl.ProgFine},
		{rules("p(X)"), impl.ProgLoose},
		{rules("p(X) if q(Y)"), impl.ProgLoose},
		{rules("p(X) if not q(X)"), impl.ProgLoose},
		{rules("p() if not q(X)"), impl.ProgLoose},
		{rules("p(a) if q(a) and not r(a,Y)"), impl.ProgLoose},
		{rules("p(X) if q(X) and not r(X,Y)", "s()"), impl.ProgLoose},
		{rules("s()", "p(X,Y) if q(X)"), impl.ProgLoose},
		{rules("p(X) if q(Y)", "r(Y) if q(Y)"), impl.ProgLoose},
		{rules("p(X) if not r(X) and q(X)"), impl.ProgFine},
		{rules("p(X,Y) if q(X) and r(Y) and not s(Y,X)"), impl.ProgFine},
		{rules("p() if not p()"), impl.ProgCycle},
		{rules("p(a) if not p(b)"), impl.ProgCycle},
		{rules("p() if p()"), impl.ProgFine},
		{rules("p() if q()", "q() if p()"), impl.ProgFine},
		{rules("p() if not q()", "q() if not p()"), impl.ProgCycle},
		{rules("p() if q()", "q() if r()", "r() if not p()"), impl.ProgCycle},
		{rules("p() if q()", "q() if r()", "r() if p()", "s() if not p()"), impl.ProgFine},
		{rules("s() if not p()", "p() if q()", "q() if r()", "r() if s()"), impl.ProgCycle},
		{rules("p() if not e()", "p() if p() and not f()"), impl.ProgFine},
		{rules("p()", "p() if q()", "q() if e() and not p()"), impl.ProgCycle},
	} {
		expect(t, c.list, impl.ProgCheck(c.list), c.want)
	}
}

func TestP5FirstCodeFirst(t *testing.T) {
	many := rules("a()", "b()", "c()", "d()", "e()", "f()", "g()", "h()")
	with := func(texts ...string) []impl.Rule { return append(slices.Clone(many), rules(texts...)...) }
	for _, c := range []struct {
		list []impl.Rule
		want int
	}{
		{with("not()", "a(X)", "p() if not p()"), impl.ProgRule},
		{with("a(X)", "p() if not p()"), impl.ProgMany},
		{rules("a()", "a(X)", "p() if not p()"), impl.ProgArgs},
		{rules("p() if not p()", "a(X)"), impl.ProgLoose},
		{rules("p() if not p()", "p(a,b,c,d)"), impl.ProgRule},
		{rules("p(X) if not p(X)"), impl.ProgLoose},
		{rules("p(X) if not p()"), impl.ProgArgs},
	} {
		expect(t, c.list, impl.ProgCheck(c.list), c.want)
	}
}

func TestP5OneRuleLessAndOneMore(t *testing.T) {
	d := newDice(10)
	for range 400 {
		list := d.fineRules(impl.RuleMax - 1)
		expect(t, list, impl.ProgCheck(list), impl.ProgFine)
		for i := range list {
			expect(t, list[:i], impl.ProgCheck(list[:i]), impl.ProgFine)
		}
		for _, r := range list {
			for _, a := range atomsOfRule(r) {
				fact := impl.Atom{Name: a.Name}
				for range a.Args {
					fact.Args = append(fact.Args, impl.Term{Name: "a"})
				}
				more := append(slices.Clone(list), impl.Rule{Head: fact, Body: []impl.Part{{Not: true, Atom: fact}}})
				expect(t, more, impl.ProgCheck(more), impl.ProgCycle)
			}
		}
	}
}

func atomsOfRule(r impl.Rule) []impl.Atom {
	out := []impl.Atom{r.Head}
	for _, p := range r.Body {
		out = append(out, p.Atom)
	}
	return out
}

// fits says whether numbers of rules are strata.
func fits(list []impl.Rule, strata []int) bool {
	for i, r := range list {
		for j, q := range list {
			if q.Head.Name == r.Head.Name && strata[i] != strata[j] {
				return false
			}
			for _, p := range r.Body {
				if p.Atom.Name == q.Head.Name && (strata[i] < strata[j] || p.Not && strata[i] == strata[j]) {
					return false
				}
			}
		}
	}
	return true
}

// leastStrata tries all numbers below the number of rules; of those that fit it takes the least at each place.
func leastStrata(list []impl.Rule) []int {
	var least []int
	now := make([]int, len(list))
	var try func(int)
	try = func(i int) {
		if i < len(now) {
			for now[i] = 0; now[i] < len(now); now[i]++ {
				try(i + 1)
			}
			return
		}
		if !fits(list, now) {
			return
		}
		if least == nil {
			least = slices.Clone(now)
		}
		for k, n := range now {
			least[k] = min(least[k], n)
		}
	}
	try(0)
	return least
}

func TestP6Strata(t *testing.T) {
	for _, c := range []struct {
		list []impl.Rule
		want []int
	}{
		{nil, nil},
		{rules("p()"), []int{0}},
		{rules("p() if not e()"), []int{0}},
		{rules("p() if not q()", "q()"), []int{1, 0}},
		{rules("c() if not b()", "b() if not a()", "a() if not e()", "c()"), []int{2, 1, 0, 2}},
		{rules("d() if c()", "c() if d() and not b()", "b() if not a()", "a()"), []int{2, 2, 1, 0}},
		{rules("h() if not g()", "g() if not f()", "f() if not e()", "e() if not d()", "d() if not c()", "c() if not b()", "b() if not a()", "a()"), []int{7, 6, 5, 4, 3, 2, 1, 0}},
		{rules("p() if not p()"), nil},
		{rules("p(X)"), nil},
		{make([]impl.Rule, 2), nil},
	} {
		expect(t, c.list, impl.ProgStrata(c.list), c.want)
	}
}

func TestP6StrataAreLeast(t *testing.T) {
	d := newDice(11)
	cycles, high := 0, 0
	for range 3000 {
		list := d.rules(4)
		code, strata := impl.ProgCheck(list), impl.ProgStrata(list)
		if code != impl.ProgFine && code != impl.ProgCycle {
			expect(t, list, strata, []int(nil))
			continue
		}
		least := leastStrata(list)
		expect(t, list, strata, least)
		expect(t, list, code == impl.ProgCycle, least == nil && len(list) > 0)
		if code == impl.ProgCycle {
			cycles++
		} else if len(list) > 0 && slices.Max(least) > 0 {
			high++
		}
	}
	if cycles < 20 || high < 20 {
		t.Fatal("too few of interest:", cycles, high)
	}
}

func TestNamesAndHeads(t *testing.T) {
	list := rules("t(X) if e(X,q) and not b2(X)", "b2(a)", "t(a)", "b(X) if b2(X) and not c()")
	expect(t, "names", impl.ProgNames(list), []string{"b", "b2", "c", "e", "t"})
	for _, name := range []string{"t", "b2", "b"} {
		expect(t, name, impl.ProgHeads(list, name), true)
	}
	for _, name := range []string{"e", "c", "q", "a", "X", "", "not", "tt"} {
		expect(t, name, impl.ProgHeads(list, name), false)
	}
	expect(t, "no rules", impl.ProgNames(nil), []string(nil))
	for _, bad := range [][]impl.Rule{rules("p(X)"), rules("p() if not p()"), rules("p()", "p(a)"), make([]impl.Rule, 1)} {
		expect(t, bad, impl.ProgNames(bad), []string(nil))
		expect(t, bad, impl.ProgHeads(bad, "p"), false)
		expect(t, bad, impl.ProgHeads(bad, ""), false)
	}
}

func TestNamesAreAll(t *testing.T) {
	d := newDice(12)
	for range 500 {
		list := d.fineRules(impl.RuleMax)
		var all []string
		for _, r := range list {
			for _, a := range atomsOfRule(r) {
				all = append(all, a.Name)
			}
			expect(t, list, impl.ProgHeads(list, r.Head.Name), true)
		}
		slices.Sort(all)
		expect(t, list, impl.ProgNames(list), slices.Compact(all))
	}
}

func TestP7Needs(t *testing.T) {
	list := rules("t(X) if e(X,q) and not b2(X)", "b2(a)", "t(a)", "b(X) if b2(X) and not c()", "x() if y()", "y() if x()")
	for name, want := range map[string][]string{
		"t": {"b2", "e", "t"}, "b2": {"b2"}, "b": {"b", "b2", "c"}, "c": {"c"}, "e": {"e"}, "x": {"x", "y"}, "y": {"x", "y"},
		"q": nil, "a": nil, "": nil, "not": nil, "X": nil, "zz": nil,
	} {
		expect(t, name, impl.ProgNeeds(list, name), want)
	}
	chain := rules("a() if b()", "b() if c()", "c() if not d()", "d() if e()", "e() if not f()", "f() if g()", "g() if h()", "h() if i()")
	expect(t, "chain", impl.ProgNeeds(chain, "a"), []string{"a", "b", "c", "d", "e", "f", "g", "h", "i"})
	slices.Reverse(chain)
	expect(t, "chain turned", impl.ProgNeeds(chain, "c"), []string{"c", "d", "e", "f", "g", "h", "i"})
	for _, bad := range [][]impl.Rule{rules("p(X)"), rules("p() if not p()"), rules("p()", "p(a)"), make([]impl.Rule, 1), nil} {
		expect(t, bad, impl.ProgNeeds(bad, "p"), []string(nil))
	}
}

// reaches says whether a name leads to another one from heads to parts, in so many steps at most.
func reaches(list []impl.Rule, from, to string, steps int) bool {
	if from == to {
		return true
	}
	for _, r := range list {
		if steps == 0 || r.Head.Name != from {
			continue
		}
		for _, p := range r.Body {
			if reaches(list, p.Atom.Name, to, steps-1) {
				return true
			}
		}
	}
	return false
}

func TestP7NeedsNothingMore(t *testing.T) {
	d := newDice(13)
	for range 200 {
		list := d.fineRules(6)
		for _, name := range impl.ProgNames(list) {
			var want []string
			for _, other := range impl.ProgNames(list) {
				if reaches(list, name, other, 5) {
					want = append(want, other)
				}
			}
			needs := impl.ProgNeeds(list, name)
			expect(t, name, needs, want)
			for _, other := range needs {
				for _, more := range impl.ProgNeeds(list, other) {
					expect(t, more, slices.Contains(needs, more), true)
				}
			}
		}
	}
}
