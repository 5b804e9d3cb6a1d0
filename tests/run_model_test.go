package tests

import (
	"bytes"
	"math/rand"
	"slices"
	"testing"

	"loop.example/tally/impl"
)

func acWrite(n impl.Note) impl.Act { return impl.Act{Op: impl.AWrite, Note: n} }

func acSafe() impl.Act { return impl.Act{Op: impl.ASafe} }

func acLose(kept ...bool) impl.Act { return impl.Act{Op: impl.ALose, Kept: kept} }

func acAsk(a impl.Ask) impl.Act { return impl.Act{Op: impl.AAsk, Ask: a} }

func acSpoil(at, by int) impl.Act { return impl.Act{Op: impl.ASpoil, At: at, By: by} }

func acWrites(notes ...impl.Note) []impl.Act {
	var acts []impl.Act
	for _, n := range notes {
		acts = append(acts, acWrite(n))
	}
	return acts
}

// means are the steps of which a run is made.
type means struct {
	open   func(d impl.Disk) impl.Opened
	write  func(o impl.Opened, n impl.Note) impl.Opened
	commit func(o impl.Opened) impl.Opened
	crash  func(d impl.Disk, kept []bool) impl.Disk
	spoil  func(d impl.Disk, block, place int, by byte) impl.Disk
	find   func(notes []impl.Note, a impl.Ask) []int
}

// programsMeans are the functions of the program, one by one.
func programsMeans() means {
	return means{impl.Open, impl.Append, impl.Commit, impl.Crash, programsSpoil, impl.Find}
}

func programsSpoil(d impl.Disk, block, place int, by byte) impl.Disk {
	d = impl.Sync(d)
	b := bytes.Clone(d.Blocks[block])
	b[place] ^= by
	return impl.Put(d, block, b)
}

// testsMeans have nothing of the program.
func testsMeans() means {
	return means{modelOpen, modelAppend, modelCommit, modelCrash, modelSpoil, modelFind}
}

func modelCrash(d impl.Disk, kept []bool) impl.Disk {
	return impl.Disk{Blocks: written(d, func(i int) bool { return i < len(kept) && kept[i] })}
}

func modelSpoil(d impl.Disk, block, place int, by byte) impl.Disk {
	blocks := written(d, keepAll)
	blocks[block][place] ^= by
	return impl.Disk{Blocks: blocks}
}

// rightAct tells whether an act is one that may be tried.
func rightAct(a impl.Act) bool {
	switch a.Op {
	case 1:
		return rightNote(a.Note)
	case 2, 4:
		return true
	case 3:
		return len(a.Kept) <= 200
	case 5:
		return a.At >= 0 && a.At <= 8191 && a.By >= 1 && a.By <= 255
	}
	return false
}

// step is what was opened behind a right act; not Ok when that can't be done.
func (m means) step(o impl.Opened, a impl.Act) impl.Opened {
	switch a.Op {
	case 1:
		return m.write(o, a.Note)
	case 2:
		return m.commit(o)
	case 3:
		return m.open(m.crash(o.Disk, a.Kept))
	case 5:
		return m.open(m.spoil(o.Disk, a.At/64, a.At%64, byte(a.By)))
	}
	return o
}

// run is what acts come to, and what is opened behind them.
func (m means) run(acts []impl.Act) ([]impl.Acted, impl.Opened) {
	o := m.open(impl.Disk{Blocks: cloneLists(slices.Repeat([][]byte{make([]byte, 64)}, 128))})
	var out []impl.Acted
	for _, a := range acts {
		x := impl.Acted{Code: 1}
		if rightAct(a) {
			x.Code = 2
			if next := m.step(o, a); next.Ok {
				x.Code = 0
				o = next
			}
		}
		if x.Notes, x.Safe = len(o.Log.Notes), o.Log.Safe; a.Op == 4 {
			x.Found = m.find(o.Log.Notes, a.Ask)
		}
		out = append(out, x)
	}
	return out, o
}

func sameActed(a, b impl.Acted) bool {
	return a.Code == b.Code && a.Notes == b.Notes && a.Safe == b.Safe && slices.Equal(a.Found, b.Found)
}

// differ is the place of the first act that comes to something else; -1 when there is none.
func differ(a, b []impl.Acted) int {
	for i := range max(len(a), len(b)) {
		if i >= len(a) || i >= len(b) || !sameActed(a[i], b[i]) {
			return i
		}
	}
	return -1
}

// checkRun holds a run against what is wanted, and against the test's own.
func checkRun(t *testing.T, what string, acts []impl.Act, want []impl.Acted) {
	t.Helper()
	got := impl.Run(acts)
	if i := differ(got, want); i >= 0 {
		t.Errorf("%s: act %d: %v, not %v", what, i, got[min(i, len(got)):], want[min(i, len(want)):])
	}
	model, _ := testsMeans().run(acts)
	if i := differ(model, want); i >= 0 {
		t.Errorf("%s: act %d: the test's own is %v, not %v", what, i, model[min(i, len(model)):], want[min(i, len(want)):])
	}
}

// checkEnd asks for the last answers alone.
func checkEnd(t *testing.T, what string, acts []impl.Act, want ...impl.Acted) {
	t.Helper()
	got := impl.Run(acts)
	if len(got) != len(acts) {
		t.Fatalf("%s: %d answers to %d acts", what, len(got), len(acts))
	}
	model, _ := testsMeans().run(acts)
	checkRun(t, what, acts, append(model[:len(acts)-len(want)], want...))
}

// acting is how often which act is drawn, and what notes are written.
type acting struct {
	name                           string
	write, safe, lose, spoil, junk int
	size                           func(rnd *rand.Rand) int
}

func actings() []acting {
	sized := func(sizes ...int) func(rnd *rand.Rand) int {
		return func(rnd *rand.Rand) int { return sizes[rnd.Intn(len(sizes))] }
	}
	return []acting{
		{"all sorts", 50, 8, 12, 6, 6, anySize},
		{"no byte is spoilt", 60, 8, 15, 0, 2, anySize},
		{"the power goes again and again", 40, 3, 40, 0, 0, anySize},
		{"pages' ends", 60, 5, 20, 1, 0, sized(56, 56, 28, 112)},
		{"little is made safe", 94, 1, 0, 0, 1, sized(17, 18, 28, 56)},
		{"until it is full", 80, 10, 2, 0, 1, sized(217, 200, 217, 17)},
		{"bytes are spoilt", 50, 10, 5, 25, 2, anySize},
	}
}

// anyKept is a list of what is kept: some, nearly all, nearly none, or without its beginning; at times a limit is met or passed.
func anyKept(rnd *rand.Rand) []bool {
	size := rnd.Intn(60)
	switch rnd.Intn(20) {
	case 0:
		size = 199 + rnd.Intn(3)
	case 1:
		size = 0
	}
	kept := make([]bool, size)
	rule := rnd.Intn(4)
	for i := range kept {
		kept[i] = rule == 0 && rnd.Intn(2) == 0 || rule == 1 && rnd.Intn(8) > 0 || rule == 2 && rnd.Intn(8) == 0 || rule == 3 && i > 0
	}
	return kept
}

func anyAsk(rnd *rand.Rand, marks int) impl.Ask {
	a := anything()
	if rnd.Intn(2) == 0 {
		a.From = rnd.Intn(marks + 2)
		a.To = a.From + rnd.Intn(20) - 2
	}
	if rnd.Intn(3) == 0 {
		a.Kind = rnd.Intn(103) - 2
	}
	if rnd.Intn(4) == 0 {
		a.Who = rnd.Intn(marks+5) - 2
	}
	if rnd.Intn(2) == 0 {
		a.Part = noteOf(18+rnd.Intn(3), rnd.Intn(marks+2)).Text
	}
	return a
}

// junkAct is one that is no act, or has something past its limit.
func junkAct(rnd *rand.Rand) impl.Act {
	switch rnd.Intn(5) {
	case 0:
		bad := badNotes()
		return acWrite(bad[rnd.Intn(len(bad))])
	case 1:
		return acLose(make([]bool, 201+rnd.Intn(9))...)
	case 2:
		return acSpoil([]int{-1, 8192, -64, 9000}[rnd.Intn(4)], 1)
	case 3:
		return acSpoil(rnd.Intn(8192), []int{0, 256, -1, 512}[rnd.Intn(4)])
	}
	return impl.Act{Op: []int{-1, 0, 6, 7, 100}[rnd.Intn(5)], Note: noteOf(20, 1), Ask: anything(), By: 1}
}

// anyActs draws acts; each note that is written has a mark of its own as its Tick.
func (x acting) anyActs(rnd *rand.Rand, size int) []impl.Act {
	var acts []impl.Act
	mark := 0
	for len(acts) < size {
		draw := rnd.Intn(100)
		switch {
		case draw < x.write:
			mark++
			acts = append(acts, acWrite(noteOf(x.size(rnd), mark)))
		case draw < x.write+x.safe:
			acts = append(acts, acSafe())
		case draw < x.write+x.safe+x.lose:
			acts = append(acts, acLose(anyKept(rnd)...))
		case draw < x.write+x.safe+x.lose+x.spoil:
			at := rnd.Intn(8192)
			if rnd.Intn(3) > 0 {
				at = rnd.Intn(30 * 64)
			}
			acts = append(acts, acSpoil(at, 1+rnd.Intn(255)))
		case draw < x.write+x.safe+x.lose+x.spoil+x.junk:
			acts = append(acts, junkAct(rnd))
		default:
			acts = append(acts, acAsk(anyAsk(rnd, mark)))
		}
	}
	return acts
}
