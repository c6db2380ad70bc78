package tests

import (
	"math"
	"math/big"
	"regexp"
	"slices"
	"strconv"
	"strings"
	"testing"

	"loop.example/springhead/impl"
)

func TestP37ChangeText(t *testing.T) {
	c := impl.Change{Comes: atoms("a()", "p(b)"), Goes: atoms("b(a,b)", "p(a)")}
	expect(t, "put", impl.ChangePut(c), "-b(a,b) -p(a) +a() +p(b) ")
	expect(t, "nothing", impl.ChangePut(impl.Change{}), "")
	got, ok := impl.ChangeGet("")
	expect(t, "nothing", ok, true)
	expect(t, "nothing", got, impl.Change{})
	d := newDice(30)
	for range 2000 {
		c := d.change(8)
		got, ok := impl.ChangeGet(impl.ChangePut(c))
		expect(t, c, ok, true)
		expect(t, c, got, c)
	}
	full := impl.Change{Comes: numbered("p", 0, impl.AllMax), Goes: numbered("q", 0, impl.AllMax)}
	got, ok = impl.ChangeGet(impl.ChangePut(full))
	expect(t, "full", ok, true)
	expect(t, "full", got, full)
}

func TestP37ChangesThatAreNone(t *testing.T) {
	for _, c := range badChanges() {
		expect(t, c, impl.ChangePut(c), "")
	}
	tooMany := ""
	for _, a := range numbered("p", 0, impl.AllMax+1) {
		tooMany += "+" + impl.AtomPut(a) + " "
	}
	for _, s := range []string{
		" ", "+", "-", "+ ", "- ", "+a()", "-a()", "+a() -b() ", "+b() +a() ", "-b() -a() ", "+a() +a() ", "-a() -a() ", "-a() +a() ", "a() ", "*a() ", "++a() ", "+-a() ", "+a()  ", " +a() ",
		"+a() +b()", "+a()+b() ", "+a(X) ", "+not() ", "+a(not) ", "+a(a,b,c,d) ", "+a( a) ", "+a()\n", "+a() x", "-a() b() ", "+a(b,) ", "\xff", tooMany, strings.ReplaceAll(tooMany, "+", "-"),
		strings.Repeat("a", 300000), strings.Repeat("+a() ", 50000),
	} {
		c, ok := impl.ChangeGet(s)
		expect(t, s, ok, false)
		expect(t, s, c, impl.Change{})
	}
}

func TestP37TurnedChanges(t *testing.T) {
	d := newDice(31)
	shape := regexp.MustCompile(`^(?:-` + atomShape + ` )*(?:\+` + atomShape + ` )*$`)
	read := 0
	for range 20000 {
		text := d.turned(impl.ChangePut(d.change(4)) + "+z() ")
		c, ok := impl.ChangeGet(text)
		if ok && (impl.ChangePut(c) != text || !impl.ChangeOk(c) || !fitsShape(shape, text)) || !ok && !same(c, impl.Change{}) {
			t.Fatalf("%q: %v", text, c)
		}
		if ok {
			read++
		}
	}
	if read < 100 {
		t.Fatal("too few are read:", read)
	}
}

// sumOf is what the document says of Sum, said once more with numbers of any size.
func sumOf(text string) int {
	sum := big.NewInt(1)
	for _, b := range []byte(text) {
		sum.Add(sum.Mul(sum, big.NewInt(31)), big.NewInt(int64(b)+7))
	}
	return int(sum.Mod(sum, big.NewInt(1000003)).Int64())
}

func (d *dice) bytes(most int) string {
	var out []byte
	for range d.roll(most + 1) {
		out = append(out, byte(d.roll(256)))
	}
	return string(out)
}

func TestP38Sum(t *testing.T) {
	for text, want := range map[string]int{"": 1, "\x00": 38, "a": 135, "abc": 133096, "\x7f": 165, "\x80": 166, "\xff": 293, "\xc3\xa4": 31*(31+0xc3+7) + 0xa4 + 7, "7:-e(b,c) +p(a) ": 30577} {
		expect(t, text, impl.Sum(text), want)
	}
	d := newDice(94)
	for range 500 {
		text := d.bytes(60)
		sum := impl.Sum(text)
		expect(t, text, sum, sumOf(text))
		for i := range len(text) {
			turned := []byte(text)
			turned[i] += byte(1 + d.roll(255))
			if impl.Sum(string(turned)) == sum {
				t.Fatalf("%q has the sum of %q", turned, text)
			}
		}
	}
	long := strings.Repeat("\xff\x00a", 1000)
	expect(t, "long", impl.Sum(long), sumOf(long))
	if n := impl.Sum(strings.Repeat("\xff", 3000000)); n < 0 || n >= 1000003 {
		t.Fatal("longer:", n)
	}
}

// recordOf is what the document says of LogPut of a change that is ok.
func recordOf(time int, c impl.Change) string {
	text := strconv.Itoa(time) + ":"
	for _, a := range c.Goes {
		text += "-" + replaced(a, nil) + " "
	}
	for _, a := range c.Comes {
		text += "+" + replaced(a, nil) + " "
	}
	return text + strconv.Itoa(sumOf(text)) + "\n"
}

// logOf is a log of changes.
func logOf(changes ...impl.Change) string {
	var out strings.Builder
	for i, c := range changes {
		out.WriteString(recordOf(i, c))
	}
	return out.String()
}

func (d *dice) changes(most int) []impl.Change {
	var out []impl.Change
	for range d.roll(most + 1) {
		out = append(out, d.change(4))
	}
	return out
}

// expectLog fails unless a text begins with a log of changes, and goes on with something else.
func expectLog(t *testing.T, text string, want []impl.Change) {
	t.Helper()
	list, size := impl.LogGet(text)
	expect(t, text, list, want)
	expect(t, text, size, len(logOf(want...)))
	put := ""
	for i, c := range list {
		put += impl.LogPut(i, c)
	}
	expect(t, text, put, text[:size])
}

func TestP39Records(t *testing.T) {
	c := impl.Change{Comes: atoms("p(a)"), Goes: atoms("e(b,c)")}
	expect(t, "record", impl.LogPut(7, c), "7:-e(b,c) +p(a) 30577\n")
	expect(t, "no change", impl.LogPut(0, impl.Change{}), "0:"+strconv.Itoa(sumOf("0:"))+"\n")
	expect(t, "last", impl.LogPut(lastTime, c), recordOf(lastTime, c))
	for _, time := range []int{-1, lastTime + 1, math.MinInt, math.MaxInt} {
		expect(t, time, impl.LogPut(time, c), "")
	}
	for _, bad := range badChanges() {
		expect(t, bad, impl.LogPut(3, bad), "")
	}
	d := newDice(95)
	for range 1000 {
		time, c := d.roll(lastTime+1), d.change(8)
		expect(t, c, impl.LogPut(time, c), recordOf(time, c))
	}
	full := impl.Change{Comes: numbered("p", 0, impl.AllMax), Goes: numbered("q", 0, impl.AllMax)}
	expect(t, "full", impl.LogPut(1, full), recordOf(1, full))
	expectLog(t, logOf(impl.Change{}, full), []impl.Change{{}, full})
}

func TestP39ReadsAsFarAsTheyGo(t *testing.T) {
	d := newDice(96)
	for range 500 {
		list := d.changes(6)
		log := logOf(list...)
		expectLog(t, log, list)
		for _, rest := range []string{"x", "\n", "0", strconv.Itoa(len(list)) + ":", d.bytes(9), recordOf(len(list)+1, d.change(2)), recordOf(lastTime, impl.Change{})} {
			expectLog(t, log+rest, list)
		}
		c := d.change(4)
		expectLog(t, log+recordOf(len(list), c), append(list, c))
		// Behind something else nothing is read.
		expectLog(t, log+"\n"+recordOf(len(list), c), list)
	}
}

func TestP39RecordsThatAreNone(t *testing.T) {
	one := comes("p(a)")
	first := recordOf(0, one)
	withSum := func(text string) string { return text + strconv.Itoa(sumOf(text)) + "\n" }
	for _, s := range []string{
		"", "\n", "0", "0:", "0:\n", ":", ":\n", "0:+p(a) ", "0:+p(a) \n", "+p(a) 1\n",
		recordOf(1, one), recordOf(lastTime, one), "0" + first, " " + first, "+" + first, "-" + first, "\n" + first, first[1:], first[2:],
		withSum("00:+p(a) "), withSum("-0:+p(a) "), withSum("+0:+p(a) "), withSum("0 :+p(a) "), withSum("0;+p(a) "), withSum("0+p(a) "), withSum("1:+p(a) "), withSum(":+p(a) "),
		withSum("0:+p(a)"), withSum("0:p(a) "), withSum("0: +p(a) "), withSum("0:+p(a)  "), withSum("0:+q() +p(a) "), withSum("0:+p(a) -q() "), withSum("0:+p(a) +p(a) "), withSum("0:+p(X) "), withSum("0: "),
		withSum("0:+p(a) ")[:len(first)-1] + " \n", "0:+p(a) 0" + strconv.Itoa(sumOf("0:+p(a) ")) + "\n", "0:+p(a) +" + strconv.Itoa(sumOf("0:+p(a) ")) + "\n", "0:+p(a) -1\n",
		"0:+p(a) " + strconv.Itoa(sumOf("0:+p(a) ")+1000003) + "\n", "0:+p(a) " + strconv.Itoa(sumOf("0:+p(a)")) + "\n", strings.TrimSuffix(first, "\n") + "\r\n", strings.TrimSuffix(first, "\n") + "\x00",
		"0:+p(a) \n" + strconv.Itoa(sumOf("0:+p(a) ")) + "\n", "\xff\xfe", strings.Repeat("0:", 100000), strings.Repeat("\n", 300000), strings.Repeat("+p(a) ", 60000),
	} {
		expectLog(t, s, nil)
		b, ok := impl.LogBase(nil, s)
		expect(t, s, ok, true)
		expect(t, s, b, impl.Base{})
	}
	// The same where a record was read ahead of it.
	for _, s := range []string{first, "01" + first[1:], recordOf(2, one), " " + recordOf(1, one), "\n" + recordOf(1, one), withSum("1:+q() +p(a) "), recordOf(1, one)[:len(recordOf(1, one))-1]} {
		expectLog(t, first+s, []impl.Change{one})
		expectLog(t, first+s+recordOf(1, one), []impl.Change{one})
	}
}

func TestP40LogsThatBreakOff(t *testing.T) {
	d := newDice(97)
	for range 60 {
		list := d.changes(5)
		log := logOf(list...)
		whole, next := 0, len(logOf(list[:min(1, len(list))]...))
		for cut := range len(log) + 1 {
			if cut == next && whole < len(list) {
				whole++
				next = len(logOf(list[:min(whole+1, len(list))]...))
			}
			expectLog(t, log[:cut], list[:whole])
		}
		expect(t, log, whole, len(list))
	}
}

func TestP40TurnedBytes(t *testing.T) {
	d := newDice(98)
	for range 25 {
		log := logOf(append(d.changes(3), d.change(3), impl.Change{})...)
		for i := range len(log) {
			want, size := impl.LogGet(log[:i])
			for _, by := range []int{1, 2, 10, 127, 1 + d.roll(127), 1 + d.roll(255)} {
				for _, b := range []byte{log[i] + byte(by), log[i] - byte(by), log[i] ^ byte(by), '\n', ' ', ':', '+', '-', '0'} {
					if b == log[i] {
						continue
					}
					text := log[:i] + string([]byte{b}) + log[i+1:]
					got, read := impl.LogGet(text)
					expect(t, text, read, size)
					expect(t, text, got, want)
				}
			}
		}
	}
}

// logOfSize is a log of so many bytes, and its changes: a fact comes and goes, and at last another one comes.
func logOfSize(size int) (string, []impl.Change) {
	var log strings.Builder
	var list []impl.Change
	for i, c := range toggles("p()", size) {
		record := recordOf(i, c)
		if log.Len()+len(record) > size-26 {
			break
		}
		log.WriteString(record)
		list = append(list, c)
	}
	word := strings.Repeat("q", impl.NameMax)
	for n := 1; n <= impl.NameMax; n++ {
		for _, args := range []string{"", "a", "a,a", word, word + ",a", word + "," + word, word + "," + word + ",a"} {
			c := comes(word[:n] + "(" + args + ")")
			if record := recordOf(len(list), c); log.Len()+len(record) == size {
				return log.String() + record, append(list, c)
			}
		}
	}
	return "", nil
}

// TestP41LogMax is of as many bytes as a log may have, and one more.
func TestP41LogMax(t *testing.T) {
	log, want := logOfSize(impl.LogMax)
	expect(t, "size", len(log), impl.LogMax)
	list, size := impl.LogGet(log)
	expect(t, "LogMax", size, impl.LogMax)
	expect(t, "LogMax", same(list, want), true)
	b, ok := impl.LogBase(rules("r() if p()"), log)
	expect(t, "LogMax", ok, true)
	expect(t, "LogMax", b.Time, len(want))
	expect(t, "LogMax", b.Hist, want[len(want)-impl.HistMax:])
	expect(t, "LogMax", impl.FactsHas(b.Given, want[len(want)-1].Comes[0]), true)
	expect(t, "LogMax", impl.BaseOk(b), true)
	longer, _ := logOfSize(impl.LogMax + 1)
	expect(t, "size", len(longer), impl.LogMax+1)
	for _, text := range []string{log + "x", log + "\n", longer, longer + log} {
		list, size := impl.LogGet(text)
		expect(t, "one more", size, 0)
		expect(t, "one more", list, []impl.Change(nil))
		b, ok := impl.LogBase(rules("r() if p()"), text)
		expect(t, "one more", ok, true)
		expect(t, "one more", b, impl.Base{Rules: rules("r() if p()")})
	}
}

// forLogs rolls rules, and commits that can be made one behind the other, from time 0 on.
func forLogs(d *dice, rounds int, do func(list []impl.Rule, changes []impl.Change, p past)) {
	for range rounds {
		p := d.past(1)
		list := p.base.Rules
		p = pastOf(list, 0)
		var changes []impl.Change
		for range d.roll(40) {
			then := turnedFacts(p.now(), d.evalFacts(4))
			c := changeBetween(p.now(), then)
			if len(saidIn(c)) > 0 && allowed(list, then) {
				changes = append(changes, c)
				p = p.with(c)
			}
		}
		do(list, changes, p)
	}
}

func TestP41MakesTheBase(t *testing.T) {
	forLogs(newDice(100), 200, func(list []impl.Rule, changes []impl.Change, p past) {
		log := logOf(changes...)
		b, ok := impl.LogBase(list, log)
		expect(t, log, ok, true)
		expect(t, log, b, p.base)
		expect(t, log, b.Time, len(changes))
		var given []impl.Atom
		for _, c := range changes {
			given = impl.ChangeDo(given, c)
		}
		expect(t, log, b.Given, given)
		// What is not whole is not there.
		b, ok = impl.LogBase(list, log+"x")
		expect(t, log, ok, true)
		expect(t, log, b, p.base)
	})
}

func TestP41LogsThatMakeNone(t *testing.T) {
	seven := numbered("d", 0, 7)
	toLast := toggles("p()", 50)
	for _, c := range []struct {
		list    []impl.Rule
		changes []impl.Change
		want    bool
	}{
		{nil, nil, true}, {nil, []impl.Change{comes("a()")}, true}, {nil, []impl.Change{comes("a()"), goes("a()")}, true}, {nil, toLast, true},
		{nil, []impl.Change{{}}, false}, {nil, []impl.Change{comes("a()"), {}}, false}, {nil, []impl.Change{comes("a()"), {}, goes("a()")}, false}, {nil, append(slices.Clone(toLast), impl.Change{}), false},
		{nil, []impl.Change{goes("a()")}, false}, {nil, []impl.Change{comes("a()"), comes("a()")}, false}, {nil, []impl.Change{comes("a()"), comes("a()"), comes("b()")}, false}, {nil, []impl.Change{comes("a()"), goes("b()")}, false},
		{nil, []impl.Change{{Comes: numbered("p", 0, impl.GivenMax)}}, true}, {nil, []impl.Change{{Comes: numbered("p", 0, impl.GivenMax+1)}}, false}, {nil, []impl.Change{{Comes: numbered("p", 0, impl.GivenMax)}, comes("z()")}, false},
		{nil, []impl.Change{{Comes: numbered("p", 0, impl.GivenMax)}, {Comes: atoms("z()"), Goes: numbered("p", 0, 1)}}, true},
		{rules("p(X) if q(X)"), []impl.Change{comes("p(a)", "x()")}, true}, {rules("p(X) if q(X)"), []impl.Change{comes("p()")}, false}, {rules("p(X) if q(X)"), []impl.Change{comes("p(a)"), comes("q(a,b)")}, false},
		{cube(), []impl.Change{{Comes: seven[:6]}}, true}, {cube(), []impl.Change{{Comes: seven}}, false}, {cube(), []impl.Change{{Comes: seven[:6]}, {Comes: seven[6:]}}, false},
		{cube(), []impl.Change{{Comes: append(slices.Clone(seven), readAtom("s()"))}}, true}, {cube(), []impl.Change{{Comes: append(slices.Clone(seven), readAtom("s()"))}, goes("s()")}, false},
	} {
		b, ok := impl.LogBase(c.list, logOf(c.changes...))
		expect(t, c, ok, c.want)
		if !ok {
			expect(t, c, b, impl.Base{})
			continue
		}
		expect(t, c, b, pastOf(c.list, 0, c.changes...).base)
	}
	for _, bad := range badRules() {
		for _, log := range []string{"", "x", logOf(comes("a()"))} {
			b, ok := impl.LogBase(bad, log)
			expect(t, bad, ok, false)
			expect(t, bad, b, impl.Base{})
		}
	}
	// Of these too much follows, but nothing is committed.
	much := badBases()["rules of which too much"]
	b, ok := impl.LogBase(much.Rules, "")
	expect(t, "too much", ok, true)
	expect(t, "too much", b, much)
	b, ok = impl.LogBase(much.Rules, logOf(comes("a()")))
	expect(t, "too much", ok, false)
	expect(t, "too much", b, impl.Base{})
}

func TestP58OneRecordMore(t *testing.T) {
	d := newDice(101)
	refused := 0
	forLogs(newDice(102), 200, func(list []impl.Rule, changes []impl.Change, p past) {
		log := logOf(changes...)
		b, ok := impl.LogBase(list, log)
		expect(t, log, ok, true)
		for range 6 {
			c := d.change(3)
			if d.roll(3) > 0 {
				c = changeBetween(p.now(), turnedFacts(p.now(), d.evalFacts(3)))
			}
			then, code := impl.TxnEnd(b, impl.Txn{From: len(changes), Change: c})
			more, ok := impl.LogBase(list, log+impl.LogPut(len(changes), c))
			expect(t, []any{log, c}, ok, code == impl.TxnFine && len(saidIn(c)) > 0)
			if ok {
				expect(t, []any{log, c}, more, then)
				continue
			}
			refused++
			expect(t, []any{log, c}, more, impl.Base{})
		}
	})
	if refused < 100 {
		t.Fatal("too few are refused:", refused)
	}
}
