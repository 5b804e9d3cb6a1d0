package tests

import (
	"fmt"
	"math/rand"
	"reflect"
	"slices"
	"strings"
	"testing"

	"loop.example/tally/impl"
)

// P10, of every function of the program: its arguments stay as they are, and its answers hang on them alone and share memory with nothing.

// other is a value that stands ahead of an argument's lists and behind them.
func other(kind reflect.Type) reflect.Value {
	v := reflect.New(kind).Elem()
	switch kind.Kind() {
	case reflect.Struct:
		for i := range v.NumField() {
			v.Field(i).Set(other(v.Field(i).Type()))
		}
	case reflect.Slice:
		v.Set(reflect.Append(v, other(kind.Elem())))
	case reflect.String:
		v.SetString("other")
	case reflect.Bool:
		v.SetBool(true)
	case reflect.Uint8:
		v.SetUint(7)
	default:
		v.SetInt(1)
	}
	return v
}

// surrounded copies a value, each list of it into the midst of a longer one. The longer ones are told too.
func surrounded(v reflect.Value, long *[]reflect.Value) reflect.Value {
	out := reflect.New(v.Type()).Elem()
	switch {
	case v.Kind() == reflect.Struct:
		for i := range v.NumField() {
			out.Field(i).Set(surrounded(v.Field(i), long))
		}
	case v.Kind() == reflect.Slice && !v.IsNil():
		all := reflect.MakeSlice(v.Type(), v.Len()+5, v.Len()+5)
		for i := range all.Len() {
			if i < 2 || i >= 2+v.Len() {
				all.Index(i).Set(other(v.Type().Elem()))
			} else {
				all.Index(i).Set(surrounded(v.Index(i-2), long))
			}
		}
		*long = append(*long, all)
		out.Set(all.Slice(2, 2+v.Len()))
	default:
		out.Set(v)
	}
	return out
}

// flat is what a value holds, as a list of plain values; when memory counts also where its lists lie, and what is behind their ends.
func flat(v reflect.Value, memory bool, out []any) []any {
	switch v.Kind() {
	case reflect.Struct:
		for i := range v.NumField() {
			out = flat(v.Field(i), memory, out)
		}
		return out
	case reflect.Slice:
		out = append(out, v.Len())
		if memory {
			out = append(out, v.Pointer(), v.Cap())
			v = v.Slice(0, v.Cap())
		}
		if v.Type().Elem().Kind() == reflect.Uint8 {
			return append(out, string(v.Bytes()))
		}
		for i := range v.Len() {
			out = flat(v.Index(i), memory, out)
		}
		return out
	}
	return append(out, v.Interface())
}

func flatAll(values []reflect.Value, memory bool) []any {
	var out []any
	for _, v := range values {
		out = flat(v, memory, out)
	}
	return out
}

// overwrite changes all that the lists of a value hold, up to all that they have in store.
func overwrite(v reflect.Value) {
	switch v.Kind() {
	case reflect.Struct:
		for i := range v.NumField() {
			overwrite(v.Field(i))
		}
	case reflect.Slice:
		v = v.Slice(0, v.Cap())
		for i := range v.Len() {
			overwrite(v.Index(i))
			change(v.Index(i))
		}
	}
}

func change(v reflect.Value) {
	switch v.Kind() {
	case reflect.Struct:
		for i := range v.NumField() {
			change(v.Field(i))
		}
	case reflect.Slice:
		v.SetZero()
	case reflect.String:
		v.SetString(v.String() + "changed")
	case reflect.Bool:
		v.SetBool(!v.Bool())
	case reflect.Uint8:
		v.SetUint(v.Uint() ^ 0xff)
	default:
		v.SetInt(v.Int() ^ 0x55)
	}
}

// stretch is a piece of memory that one list has.
type stretch struct{ from, to uintptr }

func stretchOf(v reflect.Value) stretch {
	return stretch{v.Pointer(), v.Pointer() + uintptr(v.Cap())*v.Type().Elem().Size()}
}

// stretches are those of all lists that a value has.
func stretches(v reflect.Value, out []stretch) []stretch {
	switch v.Kind() {
	case reflect.Struct:
		for i := range v.NumField() {
			out = stretches(v.Field(i), out)
		}
	case reflect.Slice:
		v = v.Slice(0, v.Cap())
		if v.Cap() > 0 {
			out = append(out, stretchOf(v))
		}
		if v.Type().Elem().Kind() == reflect.Uint8 {
			break
		}
		for i := range v.Len() {
			out = stretches(v.Index(i), out)
		}
	}
	return out
}

// overlap tells whether two pieces of memory have something in common.
func overlap(all []stretch) bool {
	all = slices.Clone(all)
	slices.SortFunc(all, func(a, b stretch) int {
		if a.from < b.from {
			return -1
		}
		return 1
	})
	for i := 1; i < len(all); i++ {
		if all[i].from < all[i-1].to {
			return true
		}
	}
	return false
}

func brief(args []any) string {
	text := fmt.Sprintf("%#v", args)
	return text[:min(len(text), 300)]
}

// checkCall asks one function with one list of arguments.
func checkCall(t *testing.T, name string, f reflect.Value, args []any) {
	t.Helper()
	var plain, given, long []reflect.Value
	for _, a := range args {
		plain = append(plain, reflect.ValueOf(a))
		given = append(given, surrounded(reflect.ValueOf(a), &long))
	}
	was := flatAll(append(slices.Clone(long), given...), true)
	stays := func(when string) {
		t.Helper()
		if !slices.Equal(flatAll(append(slices.Clone(long), given...), true), was) {
			t.Fatalf("%s: %s: the arguments are others: %s", name, when, brief(args))
		}
	}
	first := f.Call(given)
	stays("behind the call")
	want := flatAll(first, false)
	var all []stretch
	for _, v := range long {
		all = append(all, stretchOf(v))
	}
	for _, v := range first {
		all = stretches(v, all)
	}
	if overlap(all) {
		t.Fatalf("%s: lists share memory: %s", name, brief(args))
	}
	for _, v := range first {
		overwrite(v)
	}
	stays("when the answer was written over")
	again := f.Call(given)
	if !slices.Equal(flatAll(again, false), want) {
		t.Fatalf("%s: two answers to one argument: %s", name, brief(args))
	}
	for _, v := range long {
		// The lists in this one are long ones too.
		for i := range v.Len() {
			change(v.Index(i))
		}
	}
	if !slices.Equal(flatAll(again, false), want) {
		t.Fatalf("%s: the answer changed with the arguments: %s", name, brief(args))
	}
	if !slices.Equal(flatAll(f.Call(plain), false), want) {
		t.Fatalf("%s: another answer with nothing behind the lists' ends: %s", name, brief(args))
	}
}

// asked is a function, and the arguments with which it is asked.
type asked struct {
	name string
	f    any
	args [][]any
}

func askedNotes() []asked {
	var notes, frames [][]any
	for _, n := range append(goodNotes(), badNotes()...) {
		notes = append(notes, []any{n})
		f := rawOf(n).bytes()
		frames = append(frames, []any{f}, []any{f[:len(f)-1]}, []any{f[1:]}, []any{append(slices.Clone(f), f...)})
	}
	frames = append(frames, []any{[]byte(nil)}, []any{[]byte{}}, []any{[]byte("N")}, []any{[]byte("M and something")})
	return []asked{{"NoteOk", impl.NoteOk, notes}, {"Frame", impl.Frame, notes}, {"ReadFrame", impl.ReadFrame, frames}}
}

func askedDisks() []asked {
	var disks, puts, crashes [][]any
	for _, x := range append(rightDisks(), wrongDisks()...) {
		disks = append(disks, []any{x.disk})
		for _, block := range []int{0, 127, 128, -1} {
			puts = append(puts, []any{x.disk, block, filled(9)})
		}
		puts = append(puts, []any{x.disk, 3, filled(9)[:63]}, []any{x.disk, 3, []byte(nil)})
		for _, kept := range [][]bool{nil, {}, {true}, {false, true, true}, placesOf(200, 150), placesOf(300, 300)} {
			crashes = append(crashes, []any{x.disk, kept})
		}
	}
	return []asked{{"Blank", impl.Blank, [][]any{nil}}, {"DiskOk", impl.DiskOk, disks}, {"Put", impl.Put, puts}, {"Sync", impl.Sync, disks}, {"Crash", impl.Crash, crashes}, {"Seen", impl.Seen, disks}}
}

func askedPages() []asked {
	var pages, blocks [][]any
	for _, p := range append(goodPages(), badPages()...) {
		pages = append(pages, []any{p})
		if b := impl.PageBlock(p); len(b) > 0 {
			spoilt := slices.Clone(b)
			spoilt[63]++
			blocks = append(blocks, []any{b}, []any{spoilt}, []any{b[:63]})
		}
	}
	blocks = append(blocks, []any{[]byte(nil)}, []any{[]byte{}}, []any{make([]byte, 64)}, []any{make([]byte, 65)})
	return []asked{{"PageBlock", impl.PageBlock, pages}, {"PageOf", impl.PageOf, blocks}}
}

func askedLogs() []asked {
	var disks, opened, notes [][]any
	for _, x := range wrongLogDisks() {
		disks = append(disks, []any{x.disk})
	}
	for _, from := range []map[string]impl.Opened{someOpened(), wrongOpened()} {
		for _, o := range from {
			disks = append(disks, []any{o.Disk})
			opened = append(opened, []any{o})
			for _, n := range []impl.Note{{}, noteOf(217, 9), noteOf(56, 9), {Tick: -1}} {
				notes = append(notes, []any{o, n})
			}
		}
	}
	return []asked{{"Scan", impl.Scan, disks}, {"Open", impl.Open, disks}, {"Append", impl.Append, notes}, {"Commit", impl.Commit, opened}, {"Room", impl.Room, opened}}
}

func askedQuestions() []asked {
	var questions, lists, runs [][]any
	for _, notes := range [][]impl.Note{nil, {}, goodNotes(), badNotes(), fullNotes(), slices.Repeat([]impl.Note{plainNote()}, 300)} {
		lists = append(lists, []any{notes})
		for _, a := range []impl.Ask{{}, anything(), askKind(5), askWho(0), askPart("x"), askPart(""), askTicks(1, 0), askTicks(0, 100)} {
			questions = append(questions, []any{notes, a})
		}
	}
	rnd := rand.New(rand.NewSource(41))
	for _, x := range actings() {
		runs = append(runs, []any{x.anyActs(rnd, 60)}, []any{x.anyActs(rnd, 300)}, []any{x.anyActs(rnd, 301)})
	}
	three := append(acWrites(notesOf(20, 20, 20)...), acAsk(anything()), acAsk(anything()), acLose(true, true), acAsk(anything()), acLose(), acAsk(impl.Ask{}))
	runs = append(runs, []any{[]impl.Act(nil)}, []any{[]impl.Act{}}, []any{make([]impl.Act, 5)}, []any{three})
	return []asked{{"Find", impl.Find, questions}, {"Counts", impl.Counts, lists}, {"Run", impl.Run, runs}}
}

func TestArgumentsStayAndAnswersAreNew(t *testing.T) {
	names := ""
	for _, of := range [][]asked{askedNotes(), askedDisks(), askedPages(), askedLogs(), askedQuestions()} {
		for _, x := range of {
			names += x.name + " "
			for _, args := range x.args {
				checkCall(t, x.name, reflect.ValueOf(x.f), args)
			}
		}
	}
	if n := len(strings.Fields(names)); n != 19 {
		t.Errorf("%d functions: %s", n, names)
	}
}

// What the check above leans on: memory that is shared is seen, and so is what is written behind a list's end.
func TestSharedMemoryIsSeen(t *testing.T) {
	b := make([]byte, 10)
	for _, v := range []any{
		[][]byte{b[:5], b[4:]},
		[][]byte{b[:5:5], b[:5:5]},
		[][]byte{b[:5], b[5:]},
		impl.Disk{Blocks: [][]byte{b}, Waiting: []impl.Write{{Bytes: b}}},
	} {
		if all := stretches(reflect.ValueOf(v), nil); !overlap(all) {
			t.Errorf("%v share memory", all)
		}
	}
	for _, v := range []any{
		[][]byte{b[:5:5], b[5:]},
		[][]byte{nil, {}, {}, b, nil},
		[]impl.Acted{{Found: []int{1}}, {}, {Found: []int{1}}},
	} {
		if all := stretches(reflect.ValueOf(v), nil); overlap(all) {
			t.Errorf("%v lie apart", all)
		}
	}
	var long []reflect.Value
	given := surrounded(reflect.ValueOf([]int{1, 2, 3}), &long).Interface().([]int)
	was := flatAll(long, true)
	given = append(given, 5)
	if slices.Equal(flatAll(long, true), was) {
		t.Errorf("%v: a number that was written behind the end is not seen", given)
	}
}
