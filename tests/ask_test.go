package tests

import (
	"math"
	"math/rand"
	"slices"
	"strings"
	"testing"

	"loop.example/tally/impl"
)

// anything is the question that each note answers.
func anything() impl.Ask {
	return impl.Ask{From: math.MinInt, To: math.MaxInt, Kind: -1, Who: -1}
}

// asking is the question for anything, with some of it changed.
func asking(change func(a *impl.Ask)) impl.Ask {
	a := anything()
	change(&a)
	return a
}

func askTicks(from, to int) impl.Ask {
	return asking(func(a *impl.Ask) { a.From, a.To = from, to })
}

func askKind(kind int) impl.Ask { return asking(func(a *impl.Ask) { a.Kind = kind }) }

func askWho(who int) impl.Ask { return asking(func(a *impl.Ask) { a.Who = who }) }

func askPart(part string) impl.Ask { return asking(func(a *impl.Ask) { a.Part = part }) }

// holds looks for a part byte by byte, without the library.
func holds(text, part string) bool {
	for at := 0; at+len(part) <= len(text); at++ {
		if text[at:at+len(part)] == part {
			return true
		}
	}
	return false
}

// modelFind strikes out what is not asked for.
func modelFind(notes []impl.Note, a impl.Ask) []int {
	var found []int
	for i, n := range notes {
		if n.Tick < a.From || a.To < n.Tick || a.Kind != -1 && a.Kind != n.Kind || a.Who != -1 && a.Who != n.Who || !holds(n.Text, a.Part) {
			continue
		}
		found = append(found, i)
	}
	return found
}

func checkFind(t *testing.T, notes []impl.Note, a impl.Ask, want ...int) {
	t.Helper()
	if got := impl.Find(notes, a); !slices.Equal(got, want) {
		t.Errorf("%#v: %v, not %v", a, got, want)
	}
	if model := modelFind(notes, a); !slices.Equal(model, want) {
		t.Errorf("%#v: the test's own is %v, not %v", a, model, want)
	}
}

func TestFindOfNoNotes(t *testing.T) {
	for _, a := range []impl.Ask{{}, anything(), askKind(0), askWho(0), askPart("x"), askTicks(0, 0), askTicks(1, 0)} {
		checkFind(t, nil, a)
		checkFind(t, []impl.Note{}, a)
	}
}

func TestFindByTick(t *testing.T) {
	notes := []impl.Note{{Tick: 5}, {Tick: 0}, {Tick: 1000000000}, {Tick: 6}, {Tick: 4}, {Tick: 5}}
	for _, c := range []struct {
		from, to int
		want     []int
	}{
		{5, 5, []int{0, 5}},
		{4, 5, []int{0, 4, 5}},
		{5, 6, []int{0, 3, 5}},
		{4, 6, []int{0, 3, 4, 5}},
		{4, 4, []int{4}},
		{6, 6, []int{3}},
		{7, 999999999, nil},
		{1, 3, nil},
		{0, 0, []int{1}},
		{0, 3, []int{1}},
		{-1, 0, []int{1}},
		{-5, -1, nil},
		{-1, -1, nil},
		{7, 1000000000, []int{2}},
		{1000000000, 1000000000, []int{2}},
		{1000000001, math.MaxInt, nil},
		{0, 1000000000, []int{0, 1, 2, 3, 4, 5}},
		{math.MinInt, math.MaxInt, []int{0, 1, 2, 3, 4, 5}},
		{6, 5, nil},
		{6, 4, nil},
		{5, 4, nil},
		{1000000000, 0, nil},
		{math.MaxInt, math.MinInt, nil},
		{0, -1, nil},
		{math.MinInt, math.MinInt, nil},
		{math.MaxInt, math.MaxInt, nil},
	} {
		checkFind(t, notes, askTicks(c.from, c.to), c.want...)
	}
}

func TestFindByKindAndWho(t *testing.T) {
	kinds := []impl.Note{{Kind: 100}, {Kind: 0}, {Kind: 7}, {Kind: 0}, {Kind: 100}, {Kind: 1}}
	checkFind(t, kinds, askKind(-1), 0, 1, 2, 3, 4, 5)
	checkFind(t, kinds, askKind(0), 1, 3)
	checkFind(t, kinds, askKind(100), 0, 4)
	checkFind(t, kinds, askKind(7), 2)
	checkFind(t, kinds, askKind(1), 5)
	for _, none := range []int{2, 99, 101, -2, -100, math.MinInt, math.MaxInt} {
		checkFind(t, kinds, askKind(none))
	}
	whos := []impl.Note{{Who: 1000}, {Who: 0}, {Who: 7}, {Who: 0}, {Who: 1000}, {Who: 1}}
	checkFind(t, whos, askWho(-1), 0, 1, 2, 3, 4, 5)
	checkFind(t, whos, askWho(0), 1, 3)
	checkFind(t, whos, askWho(1000), 0, 4)
	checkFind(t, whos, askWho(7), 2)
	checkFind(t, whos, askWho(1), 5)
	for _, none := range []int{2, 999, 1001, -2, -1000, math.MinInt, math.MaxInt} {
		checkFind(t, whos, askWho(none))
	}
}

// Each of them asks for its own field: the numbers are the same, the notes are not.
func TestFindTellsItsFieldsApart(t *testing.T) {
	notes := []impl.Note{{Tick: 3, Kind: 4, Who: 5, N: 6}, {Tick: 4, Kind: 5, Who: 6, N: 3}, {Tick: 5, Kind: 6, Who: 3, N: 4}, {Tick: 6, Kind: 3, Who: 4, N: 5}}
	for i := range 4 {
		checkFind(t, notes, askTicks(3+i, 3+i), i)
		checkFind(t, notes, askKind(3+i), (i+3)%4)
		checkFind(t, notes, askWho(3+i), (i+2)%4)
	}
}

// Notes that are none can be asked all the same, each by what its fields say.
func TestFindAmongNotesThatAreNone(t *testing.T) {
	long := strings.Repeat("x", 300) + "end"
	notes := []impl.Note{{Kind: -1}, {Kind: 101}, {Tick: -1}, {Text: long}, {Who: -1}, {Who: 1001}, {Tick: 1000000001}, {Kind: -2}, {Who: -2}, {Tick: math.MinInt, Kind: math.MaxInt, Who: math.MinInt}}
	checkFind(t, notes, anything(), 0, 1, 2, 3, 4, 5, 6, 7, 8, 9)
	checkFind(t, notes, askKind(101), 1)
	checkFind(t, notes, askKind(-2), 7)
	checkFind(t, notes, askKind(math.MaxInt), 9)
	checkFind(t, notes, askKind(0), 2, 3, 4, 5, 6, 8)
	checkFind(t, notes, askWho(1001), 5)
	checkFind(t, notes, askWho(-2), 8)
	checkFind(t, notes, askWho(math.MinInt), 9)
	checkFind(t, notes, askWho(0), 0, 1, 2, 3, 6, 7)
	checkFind(t, notes, askTicks(-1, -1), 2)
	checkFind(t, notes, askTicks(math.MinInt, -1), 2, 9)
	checkFind(t, notes, askTicks(-1, 0), 0, 1, 2, 3, 4, 5, 7, 8)
	checkFind(t, notes, askTicks(1000000001, 1000000001), 6)
	checkFind(t, notes, askPart("xend"), 3)
	checkFind(t, notes, askPart(long), 3)
	checkFind(t, notes, askPart("x"+long))
	for i, n := range badNotes() {
		checkFind(t, badNotes()[i:i+1], impl.Ask{From: n.Tick, To: n.Tick, Kind: n.Kind, Who: n.Who, Part: n.Text}, 0)
	}
}

func TestFindByPart(t *testing.T) {
	for _, c := range []struct {
		text, part string
		found      bool
	}{
		{"", "", true},
		{"rain", "", true},
		{"\x00", "", true},
		{"", "r", false},
		{"", "\x00", false},
		{"rain", "rain", true},
		{"rain", "rains", false},
		{"rain", "xrain", false},
		{"rain", "rainrain", false},
		{"rain", "r", true},
		{"rain", "ra", true},
		{"rain", "n", true},
		{"rain", "in", true},
		{"rain", "ai", true},
		{"rain", "rn", false},
		{"rain", "ia", false},
		{"rain", "Rain", false},
		{"rain", "rain\x00", false},
		{"rain rain", "rain", true},
		{"raingrain", "ainr", false},
		{"aaa", "aa", true},
		{"aaa", "aaa", true},
		{"aaa", "aaaa", false},
		{"aaab", "aab", true},
		{"aabaaab", "aaab", true},
		{"aabaab", "aaab", false},
		{"ababac", "abac", true},
		{"aaaaaaaaab", "aaab", true},
		{"aaaaaaaaa", "aaab", false},
		{"a\x00b", "\x00", true},
		{"a\x00b", "\x00b", true},
		{"a\x00b", "ab", false},
		{"\xff\xfe\x80", "\xfe", true},
		{"\xff\xfe\x80", "\xfe\x80", true},
		{"\xff\xfe\x80", "\xff\x80", false},
		{"\xff\xfe\x80", "\xfd", false},
		{"\xff\xfe\x80", "\ufffd", false},
		{"\ufffd", "\xff", false},
		{"\ufffd", "\xbf", true},
		{"\u00e4\u20ac", "\xa4\xe2", true},
		{"\u00e4\u20ac", "\x82", true},
		{"\u00e4", "\u00c4", false},
		{everyByte(200), everyByte(200), true},
		{everyByte(200), everyByte(201), false},
		{everyByte(200), everyByte(200)[150:], true},
		{everyByte(200), everyByte(200)[:50], true},
		{everyByte(200), everyByte(200)[60:130], true},
		{everyByte(200), everyByte(200)[1:] + "\xff", false},
	} {
		want := []int{}
		if c.found {
			want = []int{1}
		}
		notes := []impl.Note{{Tick: -1, Text: c.text}, {Text: c.text}}
		checkFind(t, notes, impl.Ask{Kind: -1, Who: -1, Part: c.part}, want...)
	}
	notes := []impl.Note{{Text: "rain"}, {}, {Text: "grain"}, {Text: "rai"}, {Text: "rain"}}
	checkFind(t, notes, askPart(""), 0, 1, 2, 3, 4)
	checkFind(t, notes, askPart("rain"), 0, 2, 4)
	checkFind(t, notes, askPart("g"), 2)
}

// One note is what is asked for; each other one is another in one thing alone.
func TestFindByAllTogether(t *testing.T) {
	notes := []impl.Note{
		{Tick: 4, Kind: 7, Who: 9, Text: "grain"},
		{Tick: 7, Kind: 7, Who: 9, Text: "grain"},
		{Tick: 5, Kind: 8, Who: 9, Text: "grain"},
		{Tick: 5, Kind: 7, Who: 8, Text: "grain"},
		{Tick: 5, Kind: 7, Who: 9, Text: "grass"},
		{Tick: 5, Kind: 7, Who: 9, N: 3, Text: "grain"},
		{Tick: 6, Kind: 7, Who: 9, N: -3, Text: "rain"},
	}
	a := impl.Ask{From: 5, To: 6, Kind: 7, Who: 9, Part: "rain"}
	checkFind(t, notes, a, 5, 6)
	for _, c := range []struct {
		change func(a *impl.Ask)
		want   []int
	}{
		{func(a *impl.Ask) { a.From = 4 }, []int{0, 5, 6}},
		{func(a *impl.Ask) { a.To = 7 }, []int{1, 5, 6}},
		{func(a *impl.Ask) { a.Kind = -1 }, []int{2, 5, 6}},
		{func(a *impl.Ask) { a.Who = -1 }, []int{3, 5, 6}},
		{func(a *impl.Ask) { a.Part = "" }, []int{4, 5, 6}},
		{func(a *impl.Ask) { a.Part = "g" }, []int{4, 5}},
		{func(a *impl.Ask) { a.From = 6 }, []int{6}},
		{func(a *impl.Ask) { a.To = 5 }, []int{5}},
		{func(a *impl.Ask) { a.To = 4 }, nil},
		{func(a *impl.Ask) { a.Kind = 0 }, nil},
		{func(a *impl.Ask) { a.Who = 0 }, nil},
	} {
		b := a
		c.change(&b)
		checkFind(t, notes, b, c.want...)
	}
}

// The zero value asks for tick 0, kind 0 and person 0, not for all of them.
func TestFindByTheZeroValue(t *testing.T) {
	notes := []impl.Note{{}, {Tick: 1}, {Kind: 1}, {Who: 1}, {N: 1, Text: "rain"}}
	checkFind(t, notes, impl.Ask{}, 0, 4)
}

func anyNote(rnd *rand.Rand) impl.Note {
	text := make([]byte, rnd.Intn(8))
	for i := range text {
		text[i] = "ab\xff"[rnd.Intn(3)]
	}
	return impl.Note{Tick: rnd.Intn(8) - 1, Kind: rnd.Intn(5) - 2, Who: rnd.Intn(5) - 2, N: int64(rnd.Uint64()), Text: string(text)}
}

// The source is seeded: the questions are the same at every run.
func TestFindAtRandom(t *testing.T) {
	rnd := rand.New(rand.NewSource(11))
	some := 0
	for range 20000 {
		notes := make([]impl.Note, rnd.Intn(30))
		for i := range notes {
			notes[i] = anyNote(rnd)
		}
		like := anyNote(rnd)
		a := impl.Ask{From: rnd.Intn(5) - 2, To: rnd.Intn(10) - 2, Kind: like.Kind, Who: like.Who, Part: like.Text[:rnd.Intn(len(like.Text)+1)*rnd.Intn(2)]}
		got, want := impl.Find(notes, a), modelFind(notes, a)
		if !slices.Equal(got, want) || !slices.IsSorted(got) {
			t.Fatalf("%#v of %#v: %v, not %v", a, notes, got, want)
		}
		if len(got) > 1 {
			some++
		}
	}
	if some < 2000 {
		t.Errorf("only %d questions found more than one note", some)
	}
}

// modelCounts goes through the kinds, and for each through all notes.
func modelCounts(notes []impl.Note) []impl.Count {
	var all []impl.Count
	for kind := 0; kind <= 100; kind++ {
		n, sum := 0, uint64(0)
		for _, x := range notes {
			if x.Kind == kind {
				n++
				sum += uint64(x.N)
			}
		}
		if n != 0 {
			all = append(all, impl.Count{Kind: kind, N: n, Sum: int64(sum)})
		}
	}
	return all
}

func checkCounts(t *testing.T, notes []impl.Note, want ...impl.Count) {
	t.Helper()
	if got := impl.Counts(notes); !slices.Equal(got, want) {
		t.Errorf("%v, not %v", got, want)
	}
	if model := modelCounts(notes); !slices.Equal(model, want) {
		t.Errorf("the test's own is %v, not %v", model, want)
	}
}

func TestCounts(t *testing.T) {
	checkCounts(t, nil)
	checkCounts(t, []impl.Note{})
	checkCounts(t, []impl.Note{{}}, impl.Count{N: 1})
	checkCounts(t, []impl.Note{{N: 5}}, impl.Count{N: 1, Sum: 5})
	checkCounts(t, []impl.Note{{Kind: 100, N: 5}}, impl.Count{Kind: 100, N: 1, Sum: 5})
	checkCounts(t, []impl.Note{{Kind: 100, N: 5}, {N: -2}, {Kind: 100, N: 3}, {Kind: 50, N: 1}},
		impl.Count{Kind: 0, N: 1, Sum: -2}, impl.Count{Kind: 50, N: 1, Sum: 1}, impl.Count{Kind: 100, N: 2, Sum: 8})
	checkCounts(t, []impl.Note{{Kind: 3, N: 1}, {Kind: 2, N: 10}, {Kind: 1, N: 100}, {Kind: 2, N: 20}, {Kind: 3, N: 2}},
		impl.Count{Kind: 1, N: 1, Sum: 100}, impl.Count{Kind: 2, N: 2, Sum: 30}, impl.Count{Kind: 3, N: 2, Sum: 3})
}

func TestCountsOfKindsThatThereAreNot(t *testing.T) {
	var none []impl.Note
	for _, kind := range []int{-1, 101, -2, 102, 256, -100, math.MinInt, math.MaxInt} {
		none = append(none, impl.Note{Kind: kind, N: 5})
		checkCounts(t, []impl.Note{{Kind: kind, N: 5}})
	}
	checkCounts(t, none)
	none = append(none, impl.Note{Kind: 100, N: 7}, impl.Note{Kind: 0, N: 8})
	checkCounts(t, none, impl.Count{Kind: 0, N: 1, Sum: 8}, impl.Count{Kind: 100, N: 1, Sum: 7})
}

// What else a note has does not matter to the count of its kind.
func TestCountsOfNotesThatAreNone(t *testing.T) {
	checkCounts(t, []impl.Note{{Tick: -1, Kind: 5, N: 1}, {Who: -1, Kind: 5, N: 2}, {Text: strings.Repeat("x", 300), Kind: 5, N: 4}}, impl.Count{Kind: 5, N: 3, Sum: 7})
}

func TestCountsOfOneKindManyTimes(t *testing.T) {
	checkCounts(t, slices.Repeat([]impl.Note{{Kind: 42, N: -3}}, 70000), impl.Count{Kind: 42, N: 70000, Sum: -210000})
}

func TestCountsOfEachKind(t *testing.T) {
	var notes []impl.Note
	var want []impl.Count
	for kind := 102; kind >= -2; kind-- {
		notes = append(notes, impl.Note{Kind: kind, N: int64(kind)}, impl.Note{Kind: kind, N: 1})
	}
	for kind := range 101 {
		want = append(want, impl.Count{Kind: kind, N: 2, Sum: int64(kind) + 1})
	}
	checkCounts(t, notes, want...)
}

func TestCountsWhoseSumsWrap(t *testing.T) {
	sums := func(sum int64, n ...int64) {
		t.Helper()
		var notes []impl.Note
		for _, v := range n {
			notes = append(notes, impl.Note{Kind: 9, N: v})
		}
		checkCounts(t, notes, impl.Count{Kind: 9, N: len(n), Sum: sum})
	}
	sums(math.MaxInt64, math.MaxInt64)
	sums(math.MinInt64, math.MinInt64)
	sums(math.MaxInt64, math.MaxInt64-1, 1)
	sums(math.MinInt64, math.MaxInt64, 1)
	sums(math.MinInt64+1, math.MaxInt64, 2)
	sums(-2, math.MaxInt64, math.MaxInt64)
	sums(math.MaxInt64, math.MinInt64, -1)
	sums(math.MaxInt64-1, math.MinInt64, -2)
	sums(math.MinInt64, math.MinInt64+1, -1)
	sums(0, math.MinInt64, math.MinInt64)
	sums(0, math.MaxInt64, math.MaxInt64, 2)
	sums(-1, math.MaxInt64, math.MinInt64)
	sums(0, 0)
	sums(0, 0, 0, 0)
	sums(0, 5, -5)
	sums(0, 5, -2, -3)
	sums(5, math.MaxInt64, 5, math.MinInt64, 1)
}

func TestCountsAtRandom(t *testing.T) {
	rnd := rand.New(rand.NewSource(12))
	for range 500 {
		notes := make([]impl.Note, rnd.Intn(60))
		for i := range notes {
			notes[i] = impl.Note{Tick: rnd.Intn(9), Kind: rnd.Intn(1+rnd.Intn(105)) - 2, N: int64(rnd.Uint64())}
		}
		checkCounts(t, notes, modelCounts(notes)...)
	}
}
