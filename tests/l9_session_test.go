package tests

import (
	"fmt"
	"regexp"
	"slices"
	"strconv"
	"strings"
	"testing"

	"loop.example/springhead/impl"
)

// The shapes of lines, and of a number.
var (
	clientLine = regexp.MustCompile(`^(begin|end|drop) ([^ ]*)$`)
	textLine   = regexp.MustCompile(`^(add|gone|watch|fall) ([^ ]*) ([^ ]*)$`)
	askLine    = regexp.MustCompile(`(?s)^ask ([^ ]*) (.*)$`)
	whyLine    = regexp.MustCompile(`^why ([^ ]*)$`)
	numberText = regexp.MustCompile(`^(0|[1-9][0-9]{0,8})$`)
)

var kindOfWord = map[string]int{"begin": 1, "add": 2, "gone": 3, "end": 4, "drop": 5, "watch": 6, "fall": 7}

func numberIn(text string) int {
	if !numberText.MatchString(text) {
		return -1
	}
	n, _ := strconv.Atoi(text)
	return n
}

// lineEvent is the event that a line tells; false if it tells none.
func lineEvent(line string) (impl.Event, bool) {
	if m := clientLine.FindStringSubmatch(line); m != nil {
		return impl.Event{Kind: kindOfWord[m[1]], Client: numberIn(m[2])}, true
	}
	m := textLine.FindStringSubmatch(line)
	if m == nil {
		return impl.Event{}, false
	}
	e := impl.Event{Kind: kindOfWord[m[1]], Client: numberIn(m[2])}
	switch m[1] {
	case "watch":
		e.Name = m[3]
	case "fall":
		e.Bytes = numberIn(m[3])
	default:
		if a := readAtom(m[3]); impl.AtomPut(a) == m[3] {
			e.Atom = a
		}
	}
	return e, true
}

// answerOf is what a session answers a line, as the document says it.
func (s *served) answerOf(line string) string {
	if e, ok := lineEvent(line); ok {
		told, code := s.happen(e)
		text := ""
		for _, n := range told {
			record := recordOf(0, n.Change)
			text += fmt.Sprintf("to %d %s %s\n", n.Client, n.Name, record[2:strings.LastIndexByte(record, ' ')+1])
		}
		if code == impl.TxnFine {
			return text + "ok\n"
		}
		return text + fmt.Sprintf("no %d\n", code)
	}
	if m := askLine.FindStringSubmatch(line); m != nil {
		return s.askedOf(numberIn(m[1]), m[2])
	}
	if m := whyLine.FindStringSubmatch(line); m != nil {
		p, ok := impl.ProofFind(s.base.Rules, s.base.Given, readAtom(m[1]))
		if !ok {
			return "not known\n"
		}
		return textOf(p, "")
	}
	if line == "log" {
		return s.log + fmt.Sprintf("at %d\n", s.base.Time)
	}
	return "what\n"
}

func (s *served) askedOf(client int, text string) string {
	body, ok := impl.AskGet(text)
	if !ok || client < 0 || client >= impl.ClientMax {
		return "no\n"
	}
	all := s.all()
	if x, has := s.opens[client]; has {
		seen, known := s.sees(x)
		if !known {
			return "no\n"
		}
		all, _ = impl.Eval(s.base.Rules, listOf(seen))
	}
	out, rows := "", rowsOf(all, body)
	for _, row := range rows {
		var pairs []string
		for i, v := range variablesIn(body) {
			pairs = append(pairs, v+"="+row[i])
		}
		out += "  " + strings.Join(pairs, " ") + "\n"
	}
	return out + fmt.Sprintf("%d rows\n", len(rows))
}

// line is anything that may be said to a server, mostly something that is fine.
func (d *dice) line(s served) string {
	e := d.event(s)
	client := d.one("0", "1", "2", "3", strconv.Itoa(e.Client))
	if d.roll(30) == 0 {
		client = d.one("", "4", "00", "01", "-1", "+1", "x", "1000000000", "999999999", "18446744073709551616", " 1")
	}
	switch d.roll(8) {
	case 0:
		return "ask " + client + " " + impl.AskPut(d.askBody(2, "X", "Y"))
	case 1:
		return "ask " + client + " " + d.one("e(X,Y)", "t(X,Y) and not e(X,Y)", "p(X)", "e(a,b)", "q(X) and r(X)", "not s()", "p(Y)  and p(X)")
	case 2:
		return "why " + impl.AtomPut(d.anyFact(s.all()))
	case 3:
		return d.one("log", "log", "log", "log ", "what", "", " ", "rule p()", "begin", "add 0", "why", "ask 0", "watch 1", "fall 1", "end 1 1", "drop", "begin  0")
	}
	for word, kind := range kindOfWord {
		if kind != e.Kind {
			continue
		}
		switch word {
		case "add", "gone":
			return word + " " + client + " " + impl.AtomPut(e.Atom)
		case "watch":
			return word + " " + client + " " + e.Name
		case "fall":
			return word + " " + client + " " + strconv.Itoa(e.Bytes)
		}
		return word + " " + client
	}
	return "begin " + client
}

// lines is what may be said to a server, one behind the other.
func (d *dice) lines(s served, most int) []string {
	var out []string
	for range d.roll(most + 1) {
		line := d.line(s)
		if d.roll(20) == 0 && line != "" {
			line = d.turned(line)
		}
		out = append(out, line)
		s.answerOf(line)
	}
	return out
}

func TestP49AsTold(t *testing.T) {
	d := newDice(150)
	counts := map[string]int{}
	for range 150 {
		list := d.past(0).base.Rules
		var lines []string
		for _, r := range list {
			lines = append(lines, "rule "+impl.RulePut(r))
		}
		s, want := servedNew(list), ""
		for _, line := range d.lines(servedNew(list), 60-len(lines)) {
			answer := s.answerOf(line)
			lines = append(lines, line)
			want += answer
			word, _, _ := strings.Cut(line, " ")
			last := strings.Split(answer, "\n")
			counts[word+": "+last[len(last)-2]]++
		}
		expect(t, lines, impl.Session(lines), want)
	}
	for _, what := range []string{"begin: ok", "add: ok", "gone: ok", "end: ok", "watch: ok", "fall: ok", "drop: ok", "begin: no 2", "end: no 3", "ask: no", "ask: 0 rows", "ask: 1 rows", "why: not known", "log: at 0", "log: at 1", "rule: what"} {
		if counts[what] < 3 {
			t.Fatal("too few of:", what, counts)
		}
	}
}

// expectSession fails unless the lines behind others are answered so.
func expectSession(t *testing.T, ahead []string, want string, lines ...string) {
	t.Helper()
	before := impl.Session(ahead)
	after := impl.Session(append(slices.Clone(ahead), lines...))
	expect(t, []any{ahead, lines}, after, before+want)
}

func TestP49Example(t *testing.T) {
	ahead := []string{"rule t(X,Y) if e(X,Y)", "rule t(X,Z) if t(X,Y) and e(Y,Z)", "rule r(X) if p(X) and not t(a,X)"}
	expect(t, "rules", impl.Session(ahead), "")
	for _, c := range [][2]string{
		{"begin 0", "ok\n"}, {"watch 1 t", "ok\n"}, {"watch 1 r", "ok\n"},
		{"add 0 e(a,b)", "ok\n"}, {"add 0 e(b,c)", "ok\n"}, {"add 0 p(c)", "ok\n"}, {"add 0 p(d)", "ok\n"}, {"add 0 e(a,b)", "no 2\n"},
		{"ask 0 t(a,X)", "  X=b\n  X=c\n2 rows\n"}, {"ask 1 t(a,X)", "0 rows\n"},
		{"end 0", "to 1 r +r(d) \nto 1 t +t(a,b) +t(a,c) +t(b,c) \nok\n"},
		{"ask 1 r(X) and p(X)", "  X=d\n1 rows\n"},
		{"why t(a,c)", "t(a,c) by 1\n  t(a,b) by 0\n    e(a,b) given\n  e(b,c) given\n"},
		{"begin 0", "ok\n"}, {"begin 1", "ok\n"}, {"gone 0 e(b,c)", "ok\n"}, {"gone 1 e(b,c)", "ok\n"},
		{"end 0", "to 1 r +r(c) \nto 1 t -t(a,c) -t(b,c) \nok\n"}, {"end 1", "no 4\n"},
		{"begin 2", "ok\n"}, {"add 2 e(c,a)", "ok\n"}, {"fall 2 9", "ok\n"},
		{"ask 0 t(X,Y)", "  X=a Y=b\n1 rows\n"}, {"why r(d)", "r(d) by 2\n  p(d) given\n"}, {"why t(a,c)", "not known\n"},
		{"log", "0:+e(a,b) +e(b,c) +p(c) +p(d) 768957\n1:-e(b,c) 288126\nat 2\n"},
		{"add 3 p(a)", "no 3\n"}, {"what", "what\n"},
	} {
		expectSession(t, ahead, c[1], c[0])
		ahead = append(ahead, c[0])
	}
}

func TestP49Rules(t *testing.T) {
	loose, cycle := "rule p(X) if not q(X)", "rule p() if not p()"
	for _, c := range []struct {
		lines []string
		want  string
	}{
		{nil, ""}, {[]string{}, ""}, {[]string{"rule p()"}, ""}, {[]string{"log"}, "at 0\n"}, {[]string{""}, "what\n"},
		{[]string{"rule p()", "why p()"}, "p() by 0\n"}, {[]string{"rule p() if q()", "rule q()", "why p()"}, "p() by 0\n  q() by 1\n"},
		{[]string{loose}, "rules 4\n"}, {[]string{loose, "log"}, "rules 4\n"}, {[]string{cycle, "log", "log"}, "rules 5\n"}, {[]string{"rule p()", "rule p(a)", "what"}, "rules 3\n"},
		{append(slices.Repeat([]string{"rule p()"}, impl.RuleMax), "log"), "at 0\n"}, {append(slices.Repeat([]string{"rule p()"}, impl.RuleMax+1), "log"), "rules 2\n"}, {slices.Repeat([]string{"rule p()"}, 60), "rules 2\n"},
		// What RuleGet does not read is the first line behind the rules.
		{[]string{"rule p", "rule p()", "why p()"}, "what\nwhat\nnot known\n"}, {[]string{"rule p()", "rule", "rule q()", "why q()"}, "what\nwhat\nnot known\n"}, {[]string{"rule  p()"}, "what\n"}, {[]string{" rule p()"}, "what\n"}, {[]string{"rule p() "}, "what\n"},
		{[]string{"rule p() if"}, "what\n"}, {[]string{"rule "}, "what\n"}, {[]string{"rulep()"}, "what\n"}, {[]string{"Rule p()"}, "what\n"}, {[]string{"rule p() if a() and a() and a() and a() and a()", loose}, "what\nwhat\n"}, {[]string{"log", loose}, "at 0\nwhat\n"},
		{[]string{"rule p(a,b,c,d)", cycle}, "what\nwhat\n"}, {[]string{"p()"}, "what\n"},
		// As many lines as there may be, and one more, whatever they are.
		{slices.Repeat([]string{"log"}, 60), strings.Repeat("at 0\n", 60)}, {slices.Repeat([]string{"log"}, 61), "too long\n"}, {append([]string{loose}, make([]string, 60)...), "too long\n"}, {append([]string{"rule p()"}, make([]string, 59)...), strings.Repeat("what\n", 59)},
		{slices.Repeat([]string{"rule p()"}, 61), "too long\n"}, {make([]string, 100000), "too long\n"},
	} {
		expect(t, c.lines, impl.Session(c.lines), c.want)
	}
}

// TestP49RulesOfWhichTooMuch is of a server that is not ok: behind what happens first it is nothing.
func TestP49RulesOfWhichTooMuch(t *testing.T) {
	var ahead []string
	for _, r := range badBases()["rules of which too much"].Rules {
		ahead = append(ahead, "rule "+impl.RulePut(r))
	}
	expectSession(t, ahead, "no\nnot known\nat 0\nwhat\n", "ask 0 d(X)", "why d(0)", "log", "what")
	record := recordOf(0, comes("d(a)"))
	expectSession(t, ahead, "no 1\nok\nok\nok\n  X=a\n1 rows\n"+record+"at 1\nd(a) given\n", "begin 0", "begin 0", "add 0 d(a)", "end 0", "ask 1 d(X)", "log", "why d(a)")
}

func TestP49WordsOfLines(t *testing.T) {
	ahead := []string{"rule r(X) if p(X)", "begin 0", "add 0 p(a)", "end 0", "begin 2", "begin 3", "watch 2 p"}
	for line, want := range map[string]string{
		"begin": "what", "begin 0 0": "what", "begin  0": "what", " begin 0": "what", "begin 0 ": "what", "Begin 0": "what", "begin\t0": "what", "begin0": "what", "begin ": "no 1", "begin 0": "ok", "begin 2": "no 2",
		"end": "what", "end 2 2": "what", "end  2": "what", "end 2 ": "what", "end 0": "no 3", "end 2": "ok", "drop": "what", "drop 2 2": "what", "drop  2": "what", "drop 0": "no 3", "drop 2": "ok",
		"add": "what", "add 2": "what", "add 2 p(b) p(c)": "what", "add  2 p(b)": "what", "add 2  p(b)": "what", "add 2 p(b) ": "what", "add 2 ": "no 1", "add 2 p(b)": "ok", "add 2 p(a)": "no 2", "add 0 p(b)": "no 3", "add 2 p(a, b)": "what",
		"gone": "what", "gone 2": "what", "gone 2 p(a) p(a)": "what", "gone  2 p(a)": "what", "gone 2  p(a)": "what", "gone 2 ": "no 3", "gone 2 p(a)": "ok", "gone 2 p(b)": "no 3", "gone 0 p(a)": "no 3",
		"watch": "what", "watch 2": "what", "watch 2 r r": "what", "watch  2 r": "what", "watch 2  r": "what", "watch 2 ": "no 1", "watch 2 r": "ok", "watch 2 p": "no 2", "watch 2 not": "no 1", "watch 2 r(X)": "no 1", "watch 2 abcdefghi": "no 1", "watch 2 R": "no 1", "watch 2 zz": "ok",
		"fall": "what", "fall 2": "what", "fall 2 0 0": "what", "fall  2 0": "what", "fall 2  0": "what", "fall 2 ": "ok", "fall 2 0": "ok", "fall 2 x": "ok", "fall 2 -7": "ok", "fall 4 0": "no 1",
		"ask": "what", "ask 2": "what", "ask 2 ": "no", "ask 2 p": "no", "ask  2 p(a)": "no", "ask 2  p(a)": "no", "ask 2 p(a) ": "no", "ask 2 p(a)  and p(a)": "no", "ask 2 p(a) p(a)": "no", "ask 2 not p(X)": "no", "ask 4 p(a)": "no", "ask x p(a)": "no", "ask 2 p(X,": "no", "Ask 2 p(a)": "what",
		"why": "what", "why ": "not known", "why p(a) p(a)": "what", "why  p(a)": "what", "why p(a) ": "what", "why p": "not known", "why p(X)": "not known", "why p(b)": "not known", "why r(a,b)": "not known", "why not()": "not known",
		"log ": "what", "log log": "what", " log": "what", "LOG": "what", "log\n": "what", "": "what", " ": "what", "  ": "what", "\xff": "what", "rule p()": "what", "ok": "what", "to 1 p +p(a) ": "what", "rules 1": "what", "serve 1": "what",
		// Atoms that are none are nothing, and that is no fact.
		"add 2 p": "no 1", "add 2 P()": "no 1", "add 2 p(X)": "no 1", "add 2 p()": "no 1", "add 2 r(a,b)": "no 1", "add 2 x(a,b,c)": "ok", "add 2 x(a,b,c,d)": "no 1", "add 2 not()": "no 1", "gone 2 p": "no 3", "gone 2 p(X)": "no 3", "gone 2 p()": "no 3", "add 0 p": "no 3",
	} {
		expectSession(t, ahead, want+"\n", line)
	}
	for _, text := range []string{"", "00", "01", "-1", "-0", "+0", "+1", "x", "1x", "x1", "0x1", "1.0", "1_0", "1e0", "4", "99", "999999999", "000000001", "0000000001", "1000000000", "4294967296", "4294967297", "18446744073709551617", "\xff", "１"} {
		for _, line := range []string{"begin %s", "end %s", "drop %s", "add %s p(b)", "gone %s p(a)", "watch %s r", "fall %s 0"} {
			expectSession(t, ahead, "no 1\n", fmt.Sprintf(line, text))
		}
		expectSession(t, ahead, "no\n", fmt.Sprintf("ask %s p(a)", text))
	}
}

// TestP49BytesOfFalls is of numbers of bytes, of which just some are numbers.
func TestP49BytesOfFalls(t *testing.T) {
	ahead := []string{"begin 1", "add 1 p(a)"}
	record := recordOf(0, comes("p(a)"))
	for text, whole := range map[string]bool{
		strconv.Itoa(len(record)): true, strconv.Itoa(len(record) + 1): true, strconv.Itoa(len(record) - 1): false, "0": false, "999999999": true, "100000000": true,
		"1000000000": false, "9999999999": false, "0" + strconv.Itoa(len(record)): false, "-1": false, "+99": false, "099": false, "99x": false, "18446744073709551999": false, "x": false, "": false,
	} {
		if whole {
			expectSession(t, ahead, "ok\n"+record+"at 1\n", "fall 1 "+text, "log")
			continue
		}
		expectSession(t, ahead, "ok\nat 0\n", "fall 1 "+text, "log")
	}
}

func TestP49Asks(t *testing.T) {
	ahead := []string{"rule t(Y,X) if e(X,Y)", "begin 0", "add 0 e(a,b)", "add 0 e(a,c)", "add 0 s()", "end 0", "begin 1", "gone 1 e(a,b)", "gone 1 s()"}
	for line, want := range map[string]string{
		"ask 0 s()": "  \n1 rows\n", "ask 1 s()": "0 rows\n", "ask 1 not s()": "  \n1 rows\n", "ask 0 s() and not s()": "0 rows\n", "ask 0 e(X,Y)": "  X=a Y=b\n  X=a Y=c\n2 rows\n", "ask 1 e(X,Y)": "  X=a Y=c\n1 rows\n",
		"ask 0 t(Y,X)": "  X=a Y=b\n  X=a Y=c\n2 rows\n", "ask 0 t(X,Y)": "  X=b Y=a\n  X=c Y=a\n2 rows\n", "ask 0 e(Z,X) and not e(Z,b)": "0 rows\n", "ask 3 e(X,Y) and e(X,Z) and s()": "  X=a Y=b Z=b\n  X=a Y=b Z=c\n  X=a Y=c Z=b\n  X=a Y=c Z=c\n4 rows\n",
		"ask 2 zz(X)": "0 rows\n", "ask 2 e(X)": "0 rows\n",
	} {
		expectSession(t, ahead, want, line)
	}
	// Who has a transaction sees its time, whatever is committed meanwhile.
	var commits []string
	for i := range 14 {
		commits = append(commits, "begin 2", fmt.Sprintf("%s 2 s()", []string{"gone", "add"}[i%2]), "end 2")
	}
	expectSession(t, append(slices.Clone(ahead), commits...), "  X=c\n1 rows\n", "ask 1 e(a,X)")
}

func TestP49Why(t *testing.T) {
	ahead := []string{"rule r(Y) if r(X) and e(X,Y)", "rule z() if r(0) and r(29)", "begin 0", "add 0 r(0)"}
	for i := range 29 {
		ahead = append(ahead, fmt.Sprintf("add 0 e(%d,%d)", i, i+1))
	}
	expectSession(t, ahead, "not known\nnot known\n", "why r(0)", "why r(1)")
	ahead = append(ahead, "end 0")
	expectSession(t, ahead, "r(0) given\nr(1) by 0\n  r(0) given\n  e(0,1) given\ne(3,4) given\nnot known\nnot known\nnot known\n", "why r(0)", "why r(1)", "why e(3,4)", "why e(4,3)", "why r(30)", "why q(a)")
	list, given := rules("r(Y) if r(X) and e(X,Y)", "z() if r(0) and r(29)"), []impl.Atom(nil)
	for i := range 29 {
		given = append(given, readAtom(fmt.Sprintf("e(%d,%d)", i, i+1)))
	}
	given = append(given, readAtom("r(0)"))
	slices.SortFunc(given, orderOfAtoms)
	deep := mustFind(t, list, given, readAtom("r(29)"))
	expect(t, "deep", impl.ProofSize(deep), impl.ProofMax-1)
	expectSession(t, ahead, textOf(deep, ""), "why r(29)")
	// That of z() would have one fact more than there may be.
	expectSession(t, ahead, "  \n1 rows\nnot known\n", "ask 1 z()", "why z()")
	// What a transaction gives is not known before it is committed.
	expectSession(t, ahead, "ok\nok\nnot known\nok\nq(a) given\n", "begin 1", "add 1 q(a)", "why q(a)", "end 1", "why q(a)")
}

func TestP49Log(t *testing.T) {
	first, second := recordOf(0, comes("p(a)", "q()")), recordOf(1, goes("q()"))
	ahead := []string{"log", "begin 0", "log"}
	expect(t, "no commits", impl.Session(ahead), "at 0\nok\nat 0\n")
	expectSession(t, ahead, "ok\nok\nat 0\nok\n"+first+"at 1\n", "add 0 q()", "add 0 p(a)", "log", "end 0", "log")
	ahead = append(ahead, "add 0 q()", "add 0 p(a)", "end 0", "begin 1", "gone 1 q()")
	expectSession(t, ahead, "ok\n"+first+second+"at 2\n", "end 1", "log")
	expectSession(t, ahead, "ok\n"+first+"at 1\nok\n", "fall 1 "+strconv.Itoa(len(second)-1), "log", "begin 1")
	expectSession(t, ahead, "ok\n"+first+second+"at 2\nok\n", "fall 1 "+strconv.Itoa(len(second)), "log", "begin 1")
	expectSession(t, ahead, "ok\n"+first+"at 1\nno 3\n", "fall 3 100", "log", "end 1")
}
