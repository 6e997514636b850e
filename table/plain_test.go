package table

import (
	"math/big"
	"slices"

	"tinderbox/api"
)

// plainSlot is what is kept of one slot.
type plainSlot struct {
	version int
	good    bool
}

// plainBoot is what is kept, by the active slot and the other one instead of by their numbers.
type plainBoot struct {
	active, other plainSlot
	tries         int // -1 without a trial
	least         int
	at            int // the active slot's number
}

// plainOf is what is kept, if it has just the numbers that may be.
func plainOf(b api.Boot) (plainBoot, bool) {
	slots := []plainSlot{{b.Version[0], b.Good[0]}, {b.Version[1], b.Good[1]}}
	p := plainBoot{least: b.Least, at: b.Active, tries: b.Tries}
	switch b.Active {
	case 0:
		p.active, p.other = slots[0], slots[1]
	case 1:
		p.active, p.other = slots[1], slots[0]
	default:
		return p, false
	}
	if !b.Trial {
		if b.Tries != 0 {
			return p, false
		}
		p.tries = -1
	} else if !slices.Contains([]int{0, 1, 2, 3, 4, 5, 6, 7}, b.Tries) {
		return p, false
	}
	for _, n := range []int{b.Least, b.Version[0], b.Version[1]} {
		if n < 0 || n > 1073741824 {
			return p, false
		}
	}
	must := []plainSlot{p.active}
	if b.Trial {
		must = append(must, p.other)
	}
	for _, s := range must {
		if !s.good || s.version < b.Least {
			return p, false
		}
	}
	return p, b.Least != 0
}

// boot is what is kept by the slots' numbers again.
func (p plainBoot) boot() api.Boot {
	first, second := p.active, p.other
	if p.at == 1 {
		first, second = second, first
	}
	b := api.Boot{
		Active:  p.at,
		Least:   p.least,
		Version: [2]int{first.version, second.version},
		Good:    [2]bool{first.good, second.good},
	}
	if p.tries >= 0 {
		b.Trial, b.Tries = true, p.tries
	}
	return b
}

// turn lets the other slot be the active one.
func (p *plainBoot) turn() { p.active, p.other, p.at = p.other, p.active, 1-p.at }

// plainFault is one of a step's errors, and whether it applies.
type plainFault struct {
	is  bool
	err api.Errno
}

// plainStep is what is kept behind a step, or the first of its errors.
func plainStep(b api.Boot, faults func(plainBoot) []plainFault, step func(*plainBoot)) (api.Boot, api.Errno) {
	p, may := plainOf(b)
	if !may {
		return api.Boot{}, api.ErrInput
	}
	for _, f := range faults(p) {
		if f.is {
			return api.Boot{}, f.err
		}
	}
	step(&p)
	return p.boot(), 0
}

func plainInstall(b api.Boot, version int) (api.Boot, api.Errno) {
	return plainStep(b, func(p plainBoot) []plainFault {
		return []plainFault{{p.tries >= 0, 211}, {version < p.least, 210}, {version > 1073741824, api.ErrInput}}
	}, func(p *plainBoot) { p.other = plainSlot{version, false} })
}

func plainReady(b api.Boot) (api.Boot, api.Errno) {
	return plainStep(b, func(p plainBoot) []plainFault {
		return []plainFault{{p.tries >= 0, 211}, {p.other.version < p.least, 210}}
	}, func(p *plainBoot) { p.other.good = true })
}

func plainSwitch(b api.Boot, tries int) (api.Boot, api.Errno) {
	return plainStep(b, func(p plainBoot) []plainFault {
		return []plainFault{{tries < 1 || tries > 7, api.ErrInput}, {p.tries >= 0, 211}, {!p.other.good, 212}, {p.other.version < p.least, 210}}
	}, func(p *plainBoot) {
		p.turn()
		p.tries = tries
	})
}

func plainConfirm(b api.Boot) (api.Boot, api.Errno) {
	return plainStep(b, func(p plainBoot) []plainFault {
		return []plainFault{{p.tries < 0, 211}}
	}, func(p *plainBoot) {
		p.tries = -1
		if p.least < p.active.version {
			p.least = p.active.version
		}
	})
}

func plainStart(b api.Boot) (int, api.Boot, api.Errno) {
	c, err := plainStep(b, func(plainBoot) []plainFault { return nil }, func(p *plainBoot) {
		if p.tries == 0 {
			p.active.good = false
			p.turn()
		}
		if p.tries >= 0 {
			p.tries--
		}
	})
	return c.Active, c, err
}

// plainNumber takes a number off bytes, by a number that has no end.
func plainNumber(s string, most int64) (n int, rest string, err api.Errno) {
	if s == "" {
		return 0, "", api.ErrShort
	}
	wide := int(s[0])
	switch {
	case wide > 8:
		return 0, "", api.ErrForm
	case len(s) < 1+wide:
		return 0, "", api.ErrShort
	case wide > 0 && s[wide] == 0:
		return 0, "", api.ErrForm
	}
	b := []byte(s[1 : 1+wide])
	slices.Reverse(b)
	value := new(big.Int).SetBytes(b)
	if value.Cmp(big.NewInt(most)) > 0 {
		return 0, "", api.ErrOver
	}
	return int(value.Int64()), s[1+wide:], api.OK
}

// plainGet reads all eight numbers into a list first.
func plainGet(s string) (api.Boot, api.Errno) {
	var n []int
	for _, most := range []int64{1, 1, 7, 1073741824, 1073741824, 1, 1073741824, 1} {
		value, rest, err := plainNumber(s, most)
		if err != api.OK {
			return api.Boot{}, err
		}
		n, s = append(n, value), rest
	}
	if s != "" {
		return api.Boot{}, api.ErrExtra
	}
	b := api.Boot{
		Active:  n[0],
		Trial:   n[1] == 1,
		Tries:   n[2],
		Least:   n[3],
		Version: [2]int{n[4], n[6]},
		Good:    [2]bool{n[5] == 1, n[7] == 1},
	}
	if _, may := plainOf(b); !may {
		return api.Boot{}, api.ErrForm
	}
	return b, api.OK
}
