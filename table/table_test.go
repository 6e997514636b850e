package table

import (
	"math"
	"math/rand"
	"slices"
	"strconv"
	"strings"
	"testing"

	"tinderbox/api"
	"tinderbox/code"
)

// plainly is what is kept without a trial, ready is that with the other slot's image checked, onTrial is that on trial.
var (
	plainly = api.Boot{Active: 0, Least: 3, Version: [2]int{5, 4}, Good: [2]bool{true, false}}
	ready   = api.Boot{Active: 0, Least: 3, Version: [2]int{5, 4}, Good: [2]bool{true, true}}
	onTrial = api.Boot{Active: 0, Trial: true, Tries: 2, Least: 3, Version: [2]int{5, 4}, Good: [2]bool{true, true}}
)

// turned is the same with the two slots' places changed.
func turned(b api.Boot) api.Boot {
	b.Active = 1 - b.Active
	b.Version[0], b.Version[1] = b.Version[1], b.Version[0]
	b.Good[0], b.Good[1] = b.Good[1], b.Good[0]
	return b
}

// but is what is kept with a change.
func but(b api.Boot, change func(*api.Boot)) api.Boot {
	change(&b)
	return b
}

// odd are such that may not be, each by one thing alone; with the first slot active.
func odd() []api.Boot {
	var out []api.Boot
	for _, b := range []api.Boot{plainly, ready, onTrial} {
		for _, n := range []int{-1, 1073741825, math.MinInt, math.MaxInt} {
			out = append(out,
				but(b, func(b *api.Boot) { b.Least, b.Version = n, [2]int{1073741824, 1073741824} }),
				but(b, func(b *api.Boot) { b.Version[0] = n }),
				but(b, func(b *api.Boot) { b.Version[1] = n }))
		}
		for _, n := range []int{-1, 8, math.MinInt, math.MaxInt} {
			out = append(out, but(b, func(b *api.Boot) { b.Tries = n }))
		}
		out = append(out,
			but(b, func(b *api.Boot) { b.Least = 0 }),
			but(b, func(b *api.Boot) { b.Least = 6 }),
			but(b, func(b *api.Boot) { b.Version[0] = 2 }),
			but(b, func(b *api.Boot) { b.Version[0] = 0 }),
			but(b, func(b *api.Boot) { b.Good[0] = false }))
	}
	for tries := 1; tries <= 7; tries++ {
		out = append(out,
			but(plainly, func(b *api.Boot) { b.Tries = tries }),
			but(ready, func(b *api.Boot) { b.Tries = tries }))
	}
	return append(out,
		api.Boot{},
		but(onTrial, func(b *api.Boot) { b.Good[1] = false }),
		but(onTrial, func(b *api.Boot) { b.Version[1] = 2 }),
		but(onTrial, func(b *api.Boot) { b.Version[1] = 0 }),
		but(onTrial, func(b *api.Boot) { b.Least = 5 }))
}

// oddActive are such that may not be, since their active slot is none.
func oddActive() []api.Boot {
	var out []api.Boot
	for _, b := range []api.Boot{plainly, ready, onTrial} {
		for _, n := range []int{-1, 2, 3, math.MinInt, math.MaxInt, math.MaxInt - 1} {
			out = append(out, but(b, func(b *api.Boot) { b.Active, b.Version[1], b.Good[1] = n, 5, b.Trial || b.Good[1] }))
		}
	}
	return out
}

// allOdd are such that may not be, with each of the slots active, and with none.
func allOdd() []api.Boot {
	out := oddActive()
	for _, b := range odd() {
		out = append(out, b, turned(b))
	}
	return out
}

// even are such that may be, at and beside each limit; with the first slot active.
func even() []api.Boot {
	out := []api.Boot{
		plainly, ready, onTrial,
		{Least: 1, Version: [2]int{1, 0}, Good: [2]bool{true, false}},
		{Least: 1, Version: [2]int{1, 0}, Good: [2]bool{true, true}}, // the other one's version is asked on trial alone
		{Least: 1, Version: [2]int{2, 1}, Good: [2]bool{true, true}},
		{Least: 3, Version: [2]int{3, 2}, Good: [2]bool{true, true}},
		{Least: 3, Version: [2]int{3, 3}, Good: [2]bool{true, true}},
		{Least: 1, Version: [2]int{1073741824, 1073741824}, Good: [2]bool{true, false}},
		{Least: 1073741824, Version: [2]int{1073741824, 1073741824}, Good: [2]bool{true, true}},
		{Least: 1073741824, Version: [2]int{1073741824, 0}, Good: [2]bool{true, false}},
		{Least: 1073741823, Version: [2]int{1073741823, 1073741822}, Good: [2]bool{true, true}},
	}
	for tries := range 8 {
		out = append(out,
			api.Boot{Trial: true, Tries: tries, Least: 1, Version: [2]int{1, 1}, Good: [2]bool{true, true}},
			api.Boot{Trial: true, Tries: tries, Least: 3, Version: [2]int{3, 4}, Good: [2]bool{true, true}},
			api.Boot{Trial: true, Tries: tries, Least: 3, Version: [2]int{4, 3}, Good: [2]bool{true, true}},
			api.Boot{Trial: true, Tries: tries, Least: 1073741824, Version: [2]int{1073741824, 1073741824}, Good: [2]bool{true, true}})
	}
	return out
}

// allEven are such that may be, with each of the slots active.
func allEven() []api.Boot {
	var out []api.Boot
	for _, b := range even() {
		out = append(out, b, turned(b))
	}
	return out
}

// each calls a function with all that has these numbers at and beside the limits, whether it may be or not.
func each(call func(api.Boot)) {
	versions := []int{-1, 0, 1, 2, 3, 1073741824, 1073741825}
	for _, active := range []int{-1, 0, 1, 2} {
		for _, tries := range []int{-1, 0, 1, 2, 7, 8} {
			for _, least := range []int{-1, 0, 1, 2, 1073741824, 1073741825} {
				for _, first := range versions {
					for _, second := range versions {
						for flags := range 8 {
							call(api.Boot{
								Active:  active,
								Trial:   flags&1 > 0,
								Tries:   tries,
								Least:   least,
								Version: [2]int{first, second},
								Good:    [2]bool{flags&2 > 0, flags&4 > 0},
							})
						}
					}
				}
			}
		}
	}
}

func TestCheck(t *testing.T) {
	for _, b := range allEven() {
		if !Check(b) {
			t.Errorf("Check(%#v): false", b)
		}
	}
	for _, b := range allOdd() {
		if Check(b) {
			t.Errorf("Check(%#v): true", b)
		}
	}
}

func TestCheckOfAll(t *testing.T) {
	each(func(b api.Boot) {
		if _, may := plainOf(b); Check(b) != may {
			t.Errorf("Check(%#v): %t", b, !may)
		}
	})
}

// Numbers stand in the chapter as well as in api.
func TestNumbers(t *testing.T) {
	if api.BootPlain != 0 || api.BootReady != 1 || api.BootTrial != 2 || api.BootLast != 3 || api.MostTries != 7 || api.MostVersion != 1073741824 {
		t.Error("a state or a limit of another number")
	}
	if api.ErrOld != 210 || api.ErrTrial != 211 || api.ErrReady != 212 {
		t.Error("an error of another number")
	}
}

func TestState(t *testing.T) {
	for _, c := range []struct {
		of    api.Boot
		state int
	}{
		{plainly, 0},
		{ready, 1},
		{onTrial, 2},
		{but(onTrial, func(b *api.Boot) { b.Tries = 1 }), 2},
		{but(onTrial, func(b *api.Boot) { b.Tries = 7 }), 2},
		{but(onTrial, func(b *api.Boot) { b.Tries = 0 }), 3},
		{but(ready, func(b *api.Boot) { b.Version[1] = 2 }), 1}, // too old to be switched to, yet it was checked
	} {
		if s := State(c.of); s != c.state {
			t.Errorf("State(%#v) = %d, want %d", c.of, s, c.state)
		}
		if s := State(turned(c.of)); s != c.state {
			t.Errorf("State(%#v) = %d, want %d", turned(c.of), s, c.state)
		}
	}
}

// Of what may not be a state is told by what it says of a trial, and of the slots that are there.
func TestStateOfOdd(t *testing.T) {
	for _, b := range allOdd() {
		want := 0
		switch {
		case b.Trial && b.Tries <= 0:
			want = 3
		case b.Trial:
			want = 2
		case b.Active == 0 && b.Good[1], b.Active == 1 && b.Good[0]:
			want = 1
		}
		if s := State(b); s != want {
			t.Errorf("State(%#v) = %d, want %d", b, s, want)
		}
	}
}

func TestFirst(t *testing.T) {
	for _, c := range []struct {
		version int
		may     bool
	}{
		{1, true}, {2, true}, {3, true}, {300, true}, {1073741823, true}, {1073741824, true},
		{0, false}, {-1, false}, {1073741825, false}, {math.MinInt, false}, {math.MaxInt, false},
	} {
		b := First(c.version)
		want := api.Boot{Active: 0, Trial: false, Tries: 0, Least: c.version, Version: [2]int{c.version, 0}, Good: [2]bool{true, false}}
		if b != want || Check(b) != c.may || State(b) != 0 {
			t.Errorf("First(%d) = %#v, want %#v", c.version, b, want)
		}
	}
}

// step is one of the steps with its argument.
type step struct {
	name string
	do   func(api.Boot) (api.Boot, api.Errno)
	read func(api.Boot) (api.Boot, api.Errno) // a second reading of it
}

// arguments are what steps are asked with, at and beside each limit.
var (
	someVersions = []int{math.MinInt, -1, 0, 1, 2, 3, 4, 5, 1073741823, 1073741824, 1073741825, math.MaxInt}
	someTries    = []int{math.MinInt, -1, 0, 1, 2, 6, 7, 8, math.MaxInt}
)

// steps are all that change what is kept, but Start.
func steps() []step {
	out := []step{{"Ready", Ready, plainReady}, {"Confirm", Confirm, plainConfirm}}
	for _, version := range someVersions {
		out = append(out, step{
			"Install " + strconv.Itoa(version),
			func(b api.Boot) (api.Boot, api.Errno) { return Install(b, version) },
			func(b api.Boot) (api.Boot, api.Errno) { return plainInstall(b, version) },
		})
	}
	for _, tries := range someTries {
		out = append(out, step{
			"Switch " + strconv.Itoa(tries),
			func(b api.Boot) (api.Boot, api.Errno) { return Switch(b, tries) },
			func(b api.Boot) (api.Boot, api.Errno) { return plainSwitch(b, tries) },
		})
	}
	return out
}

// What may not be is told ahead of all else, and nothing with it.
func TestOddFirst(t *testing.T) {
	for _, b := range allOdd() {
		for _, s := range steps() {
			if c, err := s.do(b); err != 1 || c != (api.Boot{}) {
				t.Errorf("%s of %#v: %#v, %d", s.name, b, c, err)
			}
		}
		if slot, c, err := Start(b); err != 1 || slot != 0 || c != (api.Boot{}) {
			t.Errorf("Start(%#v): %d, %#v, %d", b, slot, c, err)
		}
	}
}

func TestStepsOfAll(t *testing.T) {
	all := steps()
	each(func(b api.Boot) {
		for _, s := range all {
			c, err := s.do(b)
			if want, wantErr := s.read(b); c != want || err != wantErr {
				t.Errorf("%s of %#v: %#v, %d, want %#v, %d", s.name, b, c, err, want, wantErr)
			}
			held(t, s.name, b, c, err)
		}
		slot, c, err := Start(b)
		if wantSlot, want, wantErr := plainStart(b); slot != wantSlot || c != want || err != wantErr {
			t.Errorf("Start(%#v): %d, %#v, %d, want %d, %#v, %d", b, slot, c, err, wantSlot, want, wantErr)
		}
		held(t, "Start", b, c, err)
	})
}

// held tells what holds of each step: nothing with an error; else it may be, and Least did not fall.
func held(t *testing.T, name string, b, c api.Boot, err api.Errno) {
	t.Helper()
	if err != api.OK && c != (api.Boot{}) {
		t.Errorf("%s of %#v: %#v beside error %d", name, b, c, err)
	}
	if err == api.OK && (!Check(c) || c.Least < b.Least) {
		t.Errorf("%s of %#v: %#v", name, b, c)
	}
}

// answer is what a step with an argument must answer: what is kept, or an error.
type answer struct {
	of   api.Boot
	n    int
	want api.Boot
	err  api.Errno
}

// answers asks a step for answers, and for the same with the slots' places changed.
func answers(t *testing.T, name string, do func(api.Boot, int) (api.Boot, api.Errno), all []answer) {
	t.Helper()
	for _, a := range all {
		if c, err := do(a.of, a.n); c != a.want || err != a.err {
			t.Errorf("%s(%#v, %d): %#v, %d, want %#v, %d", name, a.of, a.n, c, err, a.want, a.err)
		}
		want := a.want
		if a.err == api.OK {
			want = turned(want)
		}
		if c, err := do(turned(a.of), a.n); c != want || err != a.err {
			t.Errorf("%s(%#v, %d): %#v, %d, want %#v, %d", name, turned(a.of), a.n, c, err, want, a.err)
		}
	}
}

func TestInstall(t *testing.T) {
	has := func(version int) api.Boot {
		return api.Boot{Least: 3, Version: [2]int{5, version}, Good: [2]bool{true, false}}
	}
	last := but(onTrial, func(b *api.Boot) { b.Tries = 0 })
	answers(t, "Install", Install, []answer{
		{plainly, 3, has(3), 0},
		{plainly, 4, has(4), 0},
		{plainly, 5, has(5), 0},
		{plainly, 6, has(6), 0},
		{plainly, 1073741823, has(1073741823), 0},
		{plainly, 1073741824, has(1073741824), 0},
		{ready, 3, has(3), 0},
		{ready, 4, has(4), 0}, // the same version anew was not checked, either
		{ready, 1073741824, has(1073741824), 0},
		{plainly, 2, api.Boot{}, 210},
		{plainly, 0, api.Boot{}, 210},
		{plainly, -1, api.Boot{}, 210},
		{plainly, math.MinInt, api.Boot{}, 210},
		{ready, 2, api.Boot{}, 210},
		{plainly, 1073741825, api.Boot{}, 1},
		{ready, 1073741825, api.Boot{}, 1},
		{plainly, math.MaxInt, api.Boot{}, 1},
		{onTrial, 4, api.Boot{}, 211},
		{onTrial, 2, api.Boot{}, 211}, // ahead of ErrOld
		{onTrial, 1073741825, api.Boot{}, 211},
		{last, 4, api.Boot{}, 211},
		{last, 2, api.Boot{}, 211},
		{but(plainly, func(b *api.Boot) { b.Good[0] = false }), 2, api.Boot{}, 1}, // ahead of ErrOld
		{but(onTrial, func(b *api.Boot) { b.Tries = 8 }), 4, api.Boot{}, 1},       // ahead of ErrTrial
		{First(1073741824), 1073741824, api.Boot{Least: 1073741824, Version: [2]int{1073741824, 1073741824}, Good: [2]bool{true, false}}, 0},
		{First(1073741824), 1073741823, api.Boot{}, 210},
		{First(1073741824), 1073741825, api.Boot{}, 1},
		{First(1), 1, api.Boot{Least: 1, Version: [2]int{1, 1}, Good: [2]bool{true, false}}, 0},
		{First(1), 0, api.Boot{}, 210},
	})
}

func TestReady(t *testing.T) {
	old := but(plainly, func(b *api.Boot) { b.Version[1] = 2 })
	just := but(plainly, func(b *api.Boot) { b.Version[1] = 3 })
	last := but(onTrial, func(b *api.Boot) { b.Tries = 0 })
	none := but(plainly, func(b *api.Boot) { b.Version[1] = 0 })
	answers(t, "Ready", func(b api.Boot, _ int) (api.Boot, api.Errno) { return Ready(b) }, []answer{
		{plainly, 0, ready, 0},
		{ready, 0, ready, 0},
		{just, 0, but(just, func(b *api.Boot) { b.Good[1] = true }), 0},
		{old, 0, api.Boot{}, 210},
		{but(old, func(b *api.Boot) { b.Good[1] = true }), 0, api.Boot{}, 210},
		{none, 0, api.Boot{}, 210},
		{First(1), 0, api.Boot{}, 210}, // version 0 is below every Least
		{onTrial, 0, api.Boot{}, 211},
		{last, 0, api.Boot{}, 211},
		{but(old, func(b *api.Boot) { b.Tries = 1 }), 0, api.Boot{}, 1},           // ahead of ErrOld
		{but(onTrial, func(b *api.Boot) { b.Good[1] = false }), 0, api.Boot{}, 1}, // ahead of ErrTrial
		{but(onTrial, func(b *api.Boot) { b.Version[1] = 2 }), 0, api.Boot{}, 1},  // ahead of ErrTrial and ErrOld
		{but(plainly, func(b *api.Boot) { b.Version[1] = 1073741825 }), 0, api.Boot{}, 1},
	})
}

func TestSwitch(t *testing.T) {
	old := but(ready, func(b *api.Boot) { b.Version[1] = 2 })
	just := but(ready, func(b *api.Boot) { b.Version[1] = 3 })
	bare := but(plainly, func(b *api.Boot) { b.Version[1] = 2 })
	last := but(onTrial, func(b *api.Boot) { b.Tries = 0 })
	wrong := but(ready, func(b *api.Boot) { b.Good[0] = false })
	all := []answer{
		{just, 1, but(just, func(b *api.Boot) { b.Active, b.Trial, b.Tries = 1, true, 1 }), 0},
		{old, 1, api.Boot{}, 210},
		{old, 7, api.Boot{}, 210},
		{plainly, 1, api.Boot{}, 212},
		{bare, 1, api.Boot{}, 212}, // ahead of ErrOld
		{First(1), 7, api.Boot{}, 212},
		{onTrial, 1, api.Boot{}, 211},
		{last, 1, api.Boot{}, 211},
		{wrong, 1, api.Boot{}, 1},
		{but(plainly, func(b *api.Boot) { b.Tries = 1 }), 1, api.Boot{}, 1}, // ahead of ErrReady
		{but(old, func(b *api.Boot) { b.Tries = 1 }), 1, api.Boot{}, 1},     // ahead of ErrOld
		{but(onTrial, func(b *api.Boot) { b.Tries = 8 }), 1, api.Boot{}, 1}, // ahead of ErrTrial
	}
	for tries := 1; tries <= 7; tries++ {
		all = append(all, answer{ready, tries, api.Boot{Active: 1, Trial: true, Tries: tries, Least: 3, Version: [2]int{5, 4}, Good: [2]bool{true, true}}, 0})
	}
	for _, tries := range []int{0, -1, 8, math.MinInt, math.MaxInt} {
		for _, b := range []api.Boot{ready, old, plainly, bare, onTrial, last, wrong} {
			all = append(all, answer{b, tries, api.Boot{}, 1}) // ahead of all others
		}
	}
	answers(t, "Switch", Switch, all)
}

func TestStart(t *testing.T) {
	givenUp := api.Boot{Active: 1, Least: 3, Version: [2]int{5, 4}, Good: [2]bool{false, true}}
	tried := func(n int) api.Boot { return but(onTrial, func(b *api.Boot) { b.Tries = n }) }
	all := []struct {
		of, want api.Boot
		slot     int
	}{
		{plainly, plainly, 0},
		{ready, ready, 0},
		{but(ready, func(b *api.Boot) { b.Version[1] = 2 }), but(ready, func(b *api.Boot) { b.Version[1] = 2 }), 0},
		{tried(7), tried(6), 0},
		{tried(6), tried(5), 0},
		{tried(5), tried(4), 0},
		{tried(4), tried(3), 0},
		{tried(3), tried(2), 0},
		{tried(2), tried(1), 0},
		{tried(1), tried(0), 0},
		{tried(0), givenUp, 1},
		{givenUp, givenUp, 1},
		{First(3), First(3), 0},
	}
	for _, a := range all {
		if slot, c, err := Start(a.of); slot != a.slot || c != a.want || err != 0 {
			t.Errorf("Start(%#v): %d, %#v, %d, want %d, %#v", a.of, slot, c, err, a.slot, a.want)
		}
		if slot, c, err := Start(turned(a.of)); slot != 1-a.slot || c != turned(a.want) || err != 0 {
			t.Errorf("Start(%#v): %d, %#v, %d, want %d, %#v", turned(a.of), slot, c, err, 1-a.slot, turned(a.want))
		}
	}
}

func TestConfirm(t *testing.T) {
	higher := api.Boot{Trial: true, Tries: 3, Least: 3, Version: [2]int{7, 4}, Good: [2]bool{true, true}}
	equal := api.Boot{Trial: true, Tries: 1, Least: 3, Version: [2]int{3, 9}, Good: [2]bool{true, true}}
	all := []answer{
		{higher, 0, api.Boot{Least: 7, Version: [2]int{7, 4}, Good: [2]bool{true, true}}, 0},
		{equal, 0, api.Boot{Least: 3, Version: [2]int{3, 9}, Good: [2]bool{true, true}}, 0},
		{plainly, 0, api.Boot{}, 211},
		{ready, 0, api.Boot{}, 211},
		{First(3), 0, api.Boot{}, 211},
		{but(plainly, func(b *api.Boot) { b.Good[0] = false }), 0, api.Boot{}, 1}, // ahead of ErrTrial
		{but(ready, func(b *api.Boot) { b.Tries = 1 }), 0, api.Boot{}, 1},
		{but(onTrial, func(b *api.Boot) { b.Good[1] = false }), 0, api.Boot{}, 1},
	}
	for tries := range 8 {
		all = append(all, answer{but(onTrial, func(b *api.Boot) { b.Tries = tries }), 0, api.Boot{Least: 5, Version: [2]int{5, 4}, Good: [2]bool{true, true}}, 0})
	}
	answers(t, "Confirm", func(b api.Boot, _ int) (api.Boot, api.Errno) { return Confirm(b) }, all)
}

// must is what is kept behind a step that must be OK.
func must(t *testing.T) func(api.Boot, api.Errno) api.Boot {
	return func(b api.Boot, err api.Errno) api.Boot {
		t.Helper()
		if err != api.OK || !Check(b) {
			t.Fatalf("%#v, %d", b, err)
		}
		return b
	}
}

// The example of the chapter.
func TestOneTry(t *testing.T) {
	ok := must(t)
	b := ok(Switch(ok(Ready(ok(Install(First(3), 4)))), 1))
	slot, b, err := Start(b)
	if slot != 1 || err != 0 || State(b) != 3 {
		t.Fatalf("the first start: %d, %#v, %d", slot, b, err)
	}
	slot, b, err = Start(b)
	want := api.Boot{Least: 3, Version: [2]int{3, 4}, Good: [2]bool{true, false}}
	if slot != 0 || err != 0 || b != want {
		t.Fatalf("the second start: %d, %#v, %d, want %#v", slot, b, err, want)
	}
}

// A trial of each number of tries, that nobody confirms: so many starts of the new slot, and then the one ahead, for good.
func TestGivenUp(t *testing.T) {
	ok := must(t)
	for _, begin := range []api.Boot{First(3), turned(First(3))} {
		first := begin.Active
		for tries := 1; tries <= 7; tries++ {
			b := ok(Switch(ok(Ready(ok(Install(begin, 4)))), tries))
			for n := range tries {
				if State(b) != 2 || b.Tries != tries-n {
					t.Fatalf("ahead of start %d of %d: %#v", n, tries, b)
				}
				slot, c, err := Start(b)
				if slot != 1-first || c.Active != 1-first || err != 0 {
					t.Fatalf("start %d of %d: slot %d, %#v", n, tries, slot, c)
				}
				b = c
			}
			if State(b) != 3 {
				t.Fatalf("behind %d tries: %#v", tries, b)
			}
			for range 3 {
				slot, c, err := Start(b)
				if slot != first || err != 0 || State(c) != 0 || c.Least != 3 || c.Good[1-first] || c.Version[1-first] != 4 {
					t.Fatalf("given up behind %d tries: slot %d, %#v", tries, slot, c)
				}
				b = c
			}
			if _, err := Switch(b, 1); err != 212 {
				t.Errorf("what was given up is switched to: %d", err)
			}
			if _, err := Confirm(b); err != 211 {
				t.Errorf("what was given up is confirmed: %d", err)
			}
		}
	}
}

// A trial that is confirmed behind each number of starts: the new slot, and nothing older any more.
func TestConfirmed(t *testing.T) {
	ok := must(t)
	for _, begin := range []api.Boot{First(3), turned(First(3))} {
		first := begin.Active
		for tries := 1; tries <= 7; tries++ {
			for starts := range tries + 1 {
				b := ok(Switch(ok(Ready(ok(Install(begin, 4)))), tries))
				for range starts {
					_, b, _ = Start(b)
				}
				b = ok(Confirm(b))
				if b.Active != 1-first || b.Trial || b.Tries != 0 || b.Least != 4 || State(b) != 1 {
					t.Fatalf("confirmed behind %d starts of %d: %#v", starts, tries, b)
				}
				if slot, c, err := Start(b); slot != 1-first || c != b || err != 0 {
					t.Fatalf("start of what was confirmed: %d, %#v, %d", slot, c, err)
				}
				for name, do := range map[string]func() (api.Boot, api.Errno){
					"Install": func() (api.Boot, api.Errno) { return Install(b, 3) },
					"Ready":   func() (api.Boot, api.Errno) { return Ready(b) },
					"Switch":  func() (api.Boot, api.Errno) { return Switch(b, 1) },
				} {
					if c, err := do(); err != 210 || c != (api.Boot{}) {
						t.Errorf("%s of version 3 behind 4: %#v, %d", name, c, err)
					}
				}
				ok(Install(b, 4))
			}
		}
	}
}

// An image of the version that is active comes, too, and then both may be switched to.
func TestSameVersion(t *testing.T) {
	ok := must(t)
	b := ok(Confirm(ok(Switch(ok(Ready(ok(Install(First(3), 3)))), 2))))
	if b.Active != 1 || b.Least != 3 {
		t.Fatalf("%#v", b)
	}
	b = ok(Switch(b, 2))
	if b.Active != 0 || State(b) != 2 {
		t.Fatalf("%#v", b)
	}
}

// Of all that comes of steps: it may be, Least never falls, and what starts was checked and is not too old.
func TestAllThatComes(t *testing.T) {
	known := map[api.Boot]bool{}
	open := []api.Boot{First(1), First(2), First(1073741824)}
	for len(open) > 0 {
		b := open[0]
		open = open[1:]
		if known[b] {
			continue
		}
		known[b] = true
		slot, c, err := Start(b)
		if err != 0 || slot != c.Active || !c.Good[slot] || c.Version[slot] < b.Least || c.Least != b.Least {
			t.Fatalf("Start(%#v): %d, %#v, %d", b, slot, c, err)
		}
		if d, err := Get(Put(b)); d != b || err != 0 {
			t.Fatalf("%#v comes back as %#v, %d", b, d, err)
		}
		open = append(open, c)
		for _, s := range steps() {
			if c, err := s.do(b); err == api.OK {
				held(t, s.name, b, c, err)
				open = append(open, c)
			}
		}
	}
	if len(known) < 500 {
		t.Errorf("%d come of the steps", len(known))
	}
}

// Drawn runs beside a second reading.
func TestRuns(t *testing.T) {
	draw := rand.New(rand.NewSource(21))
	for range 300 {
		b := First(1 + draw.Intn(5))
		all := steps()
		for range 60 {
			if draw.Intn(3) == 0 {
				slot, c, err := Start(b)
				if wantSlot, want, _ := plainStart(b); slot != wantSlot || c != want || err != 0 {
					t.Fatalf("Start(%#v): %d, %#v, %d", b, slot, c, err)
				}
				b = c
				continue
			}
			s := all[draw.Intn(len(all))]
			c, err := s.do(b)
			if want, wantErr := s.read(b); c != want || err != wantErr {
				t.Fatalf("%s of %#v: %#v, %d", s.name, b, c, err)
			}
			if err == api.OK {
				b = c
			}
		}
	}
}

func TestPutBytes(t *testing.T) {
	for _, c := range []struct {
		of   api.Boot
		want string
	}{
		{First(3), "\x00\x00\x00\x01\x03\x01\x03\x01\x01\x00\x00"},
		{
			api.Boot{Active: 1, Trial: true, Tries: 7, Least: 300, Version: [2]int{301, 1073741824}, Good: [2]bool{true, true}},
			"\x01\x01\x01\x01\x01\x07\x02\x2c\x01\x02\x2d\x01\x01\x01\x04\x00\x00\x00\x40\x01\x01",
		},
		{
			api.Boot{Active: 1, Least: 2, Version: [2]int{5, 6}, Good: [2]bool{false, true}},
			"\x01\x01\x00\x00\x01\x02\x01\x05\x00\x01\x06\x01\x01",
		},
		{onTrial, "\x00\x01\x01\x01\x02\x01\x03\x01\x05\x01\x01\x01\x04\x01\x01"},
		{but(onTrial, func(b *api.Boot) { b.Tries = 0 }), "\x00\x01\x01\x00\x01\x03\x01\x05\x01\x01\x01\x04\x01\x01"},
	} {
		if s := Put(c.of); s != c.want {
			t.Errorf("Put(%#v) = %q, want %q", c.of, s, c.want)
		}
		if b, err := Get(c.want); b != c.of || err != 0 {
			t.Errorf("Get(%q) = %#v, %d, want %#v", c.want, b, err, c.of)
		}
	}
}

// Put writes what may not be as it stands, and Get refuses that.
func TestPutOdd(t *testing.T) {
	for _, c := range []struct {
		of   api.Boot
		want string
		err  api.Errno
	}{
		{api.Boot{}, strings.Repeat("\x00", 8), 3},
		{but(plainly, func(b *api.Boot) { b.Active = 2 }), "\x01\x02\x00\x00\x01\x03\x01\x05\x01\x01\x01\x04\x00", 5},
		{but(plainly, func(b *api.Boot) { b.Active = -1 }), "\x08\xff\xff\xff\xff\xff\xff\xff\xff\x00\x00\x01\x03\x01\x05\x01\x01\x01\x04\x00", 5},
		{but(plainly, func(b *api.Boot) { b.Tries = 1 }), "\x00\x00\x01\x01\x01\x03\x01\x05\x01\x01\x01\x04\x00", 3},
		{but(onTrial, func(b *api.Boot) { b.Tries = 8 }), "\x00\x01\x01\x01\x08\x01\x03\x01\x05\x01\x01\x01\x04\x01\x01", 5},
		{but(plainly, func(b *api.Boot) { b.Version[1] = -2 }), "\x00\x00\x00\x01\x03\x01\x05\x01\x01\x08\xfe\xff\xff\xff\xff\xff\xff\xff\x00", 5},
	} {
		if s := Put(c.of); s != c.want {
			t.Errorf("Put(%#v) = %q, want %q", c.of, s, c.want)
		}
		if b, err := Get(c.want); b != (api.Boot{}) || err != c.err {
			t.Errorf("Get(%q) = %#v, %d, want error %d", c.want, b, err, c.err)
		}
	}
}

// What may be comes back; all else is refused, by a limit or as what may not be.
func TestThereAndBack(t *testing.T) {
	for _, b := range allEven() {
		if c, err := Get(Put(b)); c != b || err != 0 {
			t.Errorf("%#v comes back as %#v, %d", b, c, err)
		}
	}
	for _, b := range allOdd() {
		if c, err := Get(Put(b)); c != (api.Boot{}) || err != 5 && err != 3 {
			t.Errorf("%#v comes back as %#v, %d", b, c, err)
		}
	}
	each(func(b api.Boot) {
		c, err := Get(Put(b))
		if want, wantErr := plainGet(Put(b)); c != want || err != wantErr {
			t.Errorf("%#v comes back as %#v, %d, want %#v, %d", b, c, err, want, wantErr)
		}
		if Check(b) != (err == api.OK && c == b) {
			t.Errorf("%#v comes back as %#v, %d", b, c, err)
		}
	})
}

func TestGetCut(t *testing.T) {
	for _, b := range allEven() {
		s := Put(b)
		for n := range len(s) {
			if c, err := Get(s[:n]); c != (api.Boot{}) || err != 2 {
				t.Errorf("Get(%q): %#v, %d", s[:n], c, err)
			}
		}
	}
	// Bytes that end too early are told ahead of what may not be.
	for _, b := range odd() {
		s := Put(b)
		if _, err := Get(s); err != 3 {
			continue
		}
		for n := range len(s) {
			if c, err := Get(s[:n]); c != (api.Boot{}) || err != 2 {
				t.Errorf("Get(%q): %#v, %d", s[:n], c, err)
			}
		}
	}
}

func TestGetExtra(t *testing.T) {
	for _, b := range append(allEven(), api.Boot{}, but(plainly, func(b *api.Boot) { b.Tries = 1 }), but(ready, func(b *api.Boot) { b.Least = 6 })) {
		for _, extra := range []string{"\x00", "\x01", "\xff", "\x00\x00", Put(First(1))} {
			if c, err := Get(Put(b) + extra); c != (api.Boot{}) || err != 4 {
				t.Errorf("Get(%q and %q behind it): %#v, %d", Put(b), extra, c, err)
			}
		}
	}
}

// numbers are the eight numbers of a ready one as bytes, each by itself.
func numbers() []string {
	return []string{"\x00", "\x00", "\x00", "\x01\x03", "\x01\x05", "\x01\x01", "\x01\x04", "\x01\x01"}
}

// Each number's own limit: at it, one above, and far above.
func TestGetLimits(t *testing.T) {
	if b, err := Get(strings.Join(numbers(), "")); b != ready || err != 0 {
		t.Fatalf("%#v, %d", b, err)
	}
	for place, most := range []uint64{1, 1, 7, 1073741824, 1073741824, 1, 1073741824, 1} {
		for _, n := range []uint64{most + 1, most + 2, 256 * (most + 1), 1 << 32, 1<<32 + 1, 1 << 63, math.MaxUint64} {
			all := numbers()
			all[place] = code.Num(n)
			for _, s := range []string{
				strings.Join(all, ""),
				strings.Join(all, "") + "x",     // ahead of what stands behind the end
				strings.Join(all[:place+1], ""), // ahead of an end that is too early
			} {
				if b, err := Get(s); b != (api.Boot{}) || err != 5 {
					t.Errorf("number %d is %d: %#v, %d", place, n, b, err)
				}
			}
		}
		all := numbers()
		all[place] = code.Num(most)
		if _, err := Get(strings.Join(all, "")); err != 0 && err != 3 {
			t.Errorf("number %d is %d: %d", place, most, err)
		}
	}
}

// A number that is written otherwise than it may be, at each place.
func TestGetOtherNumbers(t *testing.T) {
	for place := range numbers() {
		for _, other := range []string{"\x09", "\xff", "\x09\x01\x01\x01\x01\x01\x01\x01\x01\x01", "\x01\x00", "\x02\x01\x00", "\x08\x01\x00\x00\x00\x00\x00\x00\x00"} {
			all := numbers()
			all[place] = other
			if b, err := Get(strings.Join(all, "")); b != (api.Boot{}) || err != 3 {
				t.Errorf("number %d is %q: %#v, %d", place, other, b, err)
			}
			if b, err := Get(strings.Join(all, "") + "x"); b != (api.Boot{}) || err != 3 {
				t.Errorf("number %d is %q, with more behind the end: %#v, %d", place, other, b, err)
			}
		}
	}
	// Of two numbers that are wrong the first one's error is told.
	if _, err := Get("\x01\x02\x09"); err != 5 {
		t.Errorf("above its limit ahead of one of nine bytes: %d", err)
	}
	if _, err := Get("\x00\x01\x00\x01\x08"); err != 3 {
		t.Errorf("written otherwise ahead of one above its limit: %d", err)
	}
}

func TestGetMayNotBe(t *testing.T) {
	for _, b := range allOdd() {
		inLimits := b.Active>>1 == 0 && b.Tries>>3 == 0 && slices.Min([]int{b.Least, b.Version[0], b.Version[1]}) >= 0 &&
			slices.Max([]int{b.Least, b.Version[0], b.Version[1]}) <= 1073741824
		want := api.Errno(5)
		if inLimits {
			want = 3
		}
		if c, err := Get(Put(b)); c != (api.Boot{}) || err != want {
			t.Errorf("Get of %#v: %#v, %d, want %d", b, c, err, want)
		}
	}
}

// Each byte changed, left out or put in, beside a second reading.
func TestGetChanged(t *testing.T) {
	for _, b := range allEven() {
		s := Put(b)
		for n := range len(s) + 1 {
			for value := range 256 {
				put := s[:n] + string([]byte{byte(value)}) + s[n:]
				sameGet(t, put)
				if n < len(s) {
					sameGet(t, s[:n]+string([]byte{byte(value)})+s[n+1:])
				}
			}
			if n < len(s) {
				sameGet(t, s[:n]+s[n+1:])
			}
		}
	}
}

// Short bytes of each kind, and drawn ones.
func TestGetDrawn(t *testing.T) {
	sameGet(t, "")
	draw := rand.New(rand.NewSource(22))
	found := map[api.Errno]int{}
	for range 200000 {
		var s []byte
		for range draw.Intn(3) + 7 {
			n := uint64(draw.Intn(3))
			if draw.Intn(30) == 0 {
				n = draw.Uint64() >> draw.Intn(64)
			}
			s = append(s, code.Num(n)...)
		}
		if draw.Intn(4) == 0 {
			s[draw.Intn(len(s))] = byte(draw.Intn(12))
		}
		found[sameGet(t, string(s))]++
	}
	for _, err := range []api.Errno{0, 2, 3, 4, 5} {
		if found[err] < 100 {
			t.Errorf("error %d was drawn %d times", err, found[err])
		}
	}
}

// sameGet holds Get against the second reading, and tells the error.
func sameGet(t *testing.T, s string) api.Errno {
	t.Helper()
	b, err := Get(s)
	if want, wantErr := plainGet(s); b != want || err != wantErr {
		t.Errorf("Get(%q) = %#v, %d, want %#v, %d", s, b, err, want, wantErr)
	}
	// Bytes are written in one way alone.
	if err == api.OK && Put(b) != s {
		t.Errorf("%q comes back as %q", s, Put(b))
	}
	return err
}
