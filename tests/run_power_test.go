package tests

import (
	"math/rand"
	"slices"
	"strconv"
	"testing"

	"loop.example/tally/impl"
)

// marksBehind is the Ticks of all notes that a run leaves, in their order: it asks for each Tick from 1 up to the last one.
func marksBehind(t *testing.T, acts []impl.Act, last int) []int {
	t.Helper()
	acts = slices.Clone(acts)
	before := len(acts)
	for mark := 1; mark <= last; mark++ {
		acts = append(acts, acAsk(askTicks(mark, mark)))
	}
	acts = append(acts, acAsk(anything()))
	got := impl.Run(acts)
	if len(got) != len(acts) {
		t.Fatalf("%d answers to %d acts", len(got), len(acts))
	}
	marks := make([]int, got[before].Notes)
	for i, x := range got[before : len(got)-1] {
		for _, place := range x.Found {
			if marks[place] != 0 {
				t.Fatalf("place %d has the Ticks %d and %d", place, marks[place], i+1)
			}
			marks[place] = i + 1
		}
	}
	if slices.Contains(marks, 0) || len(got[len(got)-1].Found) != len(marks) {
		t.Fatalf("a note that was never written is there: %v", marks)
	}
	return marks
}

func marksOf(acts []impl.Act) int {
	last := 0
	for _, a := range acts {
		last = max(last, a.Note.Tick)
	}
	return last
}

// checkHistory goes through a run without spoilt bytes and asks that at each loss a beginning is left, with all that was safe, and that what is written comes behind just that.
func checkHistory(t *testing.T, what string, acts []impl.Act) (lost int) {
	t.Helper()
	got := impl.Run(acts)
	var there []int
	safe := 0
	for i, a := range acts {
		x := got[i]
		if x.Code == 0 && a.Op == impl.AWrite {
			there = append(there, a.Note.Tick)
		}
		if x.Code == 0 && a.Op == impl.ASafe {
			safe = len(there)
		}
		if x.Code == 0 && a.Op == impl.ALose {
			if x.Notes < safe || x.Notes > len(there) {
				t.Fatalf("%s: act %d: of %d with %d safe there are %d", what, i, len(there), safe, x.Notes)
			}
			lost += len(there) - x.Notes
			there, safe = there[:x.Notes], x.Notes
		}
		if x.Notes != len(there) || x.Safe != safe {
			t.Fatalf("%s: act %d: %v, not %d with %d safe", what, i, x, len(there), safe)
		}
		if a.Op != impl.ALose && i != len(acts)-1 && acts[i+1].Op != impl.ALose {
			continue
		}
		if marks := marksBehind(t, acts[:i+1], marksOf(acts)); !slices.Equal(marks, there) {
			t.Fatalf("%s: behind act %d: %v, not %v", what, i, marks, there)
		}
	}
	return lost
}

// The power goes again and again: what was lost does not come back, whatever is written next.
func TestRunBringsNothingBack(t *testing.T) {
	rnd := rand.New(rand.NewSource(31))
	lost := 0
	for _, x := range actings() {
		if x.spoil > 0 || x.lose == 0 {
			continue
		}
		for range 6 {
			lost += checkHistory(t, x.name, x.anyActs(rnd, 130))
		}
	}
	if lost < 300 {
		t.Errorf("only %d notes were lost", lost)
	}
}

// Of each opening pages stand behind the end: the first page is lost and all others are kept, and then come frames that end where those begin.
func TestRunWithElderPagesBehindTheEnd(t *testing.T) {
	for _, first := range []int{0, 1, 2} {
		for _, size := range []int{56, 112, 168, 28} {
			var acts []impl.Act
			mark := 0
			write := func(size int) {
				mark++
				acts = append(acts, acWrite(noteOf(size, mark)))
			}
			for range first {
				write(56)
			}
			acts = append(acts, acSafe())
			kept := slices.Repeat([]bool{true}, 30)
			kept[0] = false
			for range 8 {
				for range 5 {
					write(56)
				}
				acts = append(acts, acLose(kept...))
				write(size)
				acts = append(acts, acSafe(), acLose())
			}
			what := strconv.Itoa(first) + " first, then " + strconv.Itoa(size)
			if lost := checkHistory(t, what, acts); lost < 30 {
				t.Errorf("%s: only %d notes were lost", what, lost)
			}
		}
	}
}

// ghostly is a note of four pages when it begins one; whatever page behind its first is read alone begins with whole frames of ghosts.
func ghostly(mark int) impl.Note {
	text := make([]byte, 39)
	for i := range 2 {
		text = append(text, rawOf(noteOf(56, 200+i)).bytes()...)
	}
	text = append(text, rawOf(noteOf(49, 202)).bytes()...)
	return impl.Note{Tick: mark, Text: string(text)}
}

// A text may hold what frames and pages are made of: they are no notes, and none comes of them when the power goes.
func TestRunWithTextsThatLookLikeNotes(t *testing.T) {
	if n := ghostly(1); len(n.Text) != 200 || !rightNote(n) {
		t.Fatal(len(n.Text))
	}
	for first := range 3 {
		for set := range 16 {
			for _, size := range []int{17, 56, 112, 168} {
				acts := acWrites(notesOf(slices.Repeat([]int{56}, first)...)...)
				acts = append(acts, acSafe(), acWrite(ghostly(50)), acLose(set&1 > 0, set&2 > 0, set&4 > 0, set&8 > 0))
				there := first
				if set == 15 {
					there++
				}
				acts = append(acts, acAsk(askTicks(200, 202)), acWrite(noteOf(size, 60)), acLose(placesOf(200, 200)...), acAsk(askTicks(200, 202)), acAsk(anything()))
				now := impl.Acted{Notes: there + 1, Safe: there + 1}
				all := now
				all.Found = []int{0, 1, 2, 3, 4}[:there+1]
				checkEnd(t, "set "+strconv.Itoa(set), acts, impl.Acted{Notes: there, Safe: there}, impl.Acted{Notes: there + 1, Safe: there}, now, now, all)
			}
		}
	}
}

// A byte is spoilt while pages wait and when they are safe: those notes are left that lie whole ahead of its page, and nothing behind it comes back.
func TestRunSpoiltBringsNothingBack(t *testing.T) {
	rnd := rand.New(rand.NewSource(32))
	for range 60 {
		var acts []impl.Act
		var sizes []int
		for range 4 + rnd.Intn(12) {
			sizes = append(sizes, anySize(rnd))
			acts = append(acts, acWrite(noteOf(sizes[len(sizes)-1], len(sizes))))
			if rnd.Intn(3) == 0 {
				acts = append(acts, acSafe())
			}
		}
		block := rnd.Intn(12)
		left, end := 0, 0
		for _, size := range sizes {
			if end += size; block == 0 || end > (block-1)*56 && len(textOf(notesOf(sizes...)...)) > (block-1)*56 {
				break
			}
			left++
		}
		acts = append(acts, acSpoil(block*64+rnd.Intn(64), 1+rnd.Intn(255)))
		there := make([]int, 0, 40)
		for mark := range left {
			there = append(there, mark+1)
		}
		if marks := marksBehind(t, acts, 60); !slices.Equal(marks, there) {
			t.Fatalf("%v, block %d: %v, not %v", sizes, block, marks, there)
		}
		for i := range 3 {
			acts = append(acts, acWrite(noteOf(anySize(rnd), 30+i)), acSafe(), acLose())
			there = append(there, 30+i)
			if marks := marksBehind(t, acts, 60); !slices.Equal(marks, there) {
				t.Fatalf("%v, block %d, %d written: %v, not %v", sizes, block, i+1, marks, there)
			}
		}
	}
}
