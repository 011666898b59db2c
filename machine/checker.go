package machine

import (
	"slices"

	"retarget/api"
	"retarget/bits"
)

// isLimited reports whether the lists of m are not too long.
func isLimited(m api.Machine) bool {
	return len(m.Regs) <= api.MaxRegs && len(m.Units) <= api.MaxUnits &&
		few(m.Banks, api.MaxBanks, func(b api.MachBank) bool { return len(b.Regs) <= api.MaxRegs }) &&
		few(m.Instrs, api.MaxInstrs, func(i api.MachInstr) bool {
			return len(i.Effects) <= api.MaxEffects && few(i.Operands, api.MaxOperands, func(o api.MachOperand) bool { return len(o.Pieces) <= api.MaxPieces })
		})
}

// few reports whether l has at most this many elements, and each of them is within its limits.
func few[T any](l []T, most int, limited func(T) bool) bool {
	return len(l) <= most && !slices.ContainsFunc(l, func(x T) bool { return !limited(x) })
}

// A checker looks at a machine within the limits, and notes whether it is bad. Its widths are those of the variables of the instruction that it is at, by their names.
type checker struct {
	api.Machine
	widths map[string]int
	bad    bool
}

// must notes that the machine is bad unless all conditions hold.
func (c *checker) must(conditions ...bool) {
	c.bad = c.bad || slices.Contains(conditions, false)
}

// check goes through the parts of the machine. Each may rely on those before it, because it is reached only if these are right.
func (c *checker) check() {
	for _, part := range []func(){c.checkHead, c.checkRegs, c.checkBanks, c.checkUnits, c.checkInstrs} {
		if part(); c.bad {
			return
		}
	}
}

func (c *checker) checkHead() {
	c.must(bits.Name(c.Name), isIn(c.Word, 1, 4), c.Address == 16 || c.Address == 32)
}

func isIn(n, least, most int) bool { return least <= n && n <= most }

func (c *checker) checkRegs() {
	c.must(len(c.Regs) > 0, areNamed(c.Regs, func(r api.MachReg) string { return r.Name }))
	for _, r := range c.Regs {
		c.must(isIn(r.Width, 1, api.MaxWidth), isRoot(r) || c.isPart(r))
	}
}

// areNamed reports whether the names of the elements of l are names, and different ones.
func areNamed[T any](l []T, nameOf func(T) string) bool {
	met := make(map[string]bool, len(l))
	for _, x := range l {
		name := nameOf(x)
		if met[name] || !bits.Name(name) {
			return false
		}
		met[name] = true
	}
	return true
}

// isPart compares with differences of widths, because sums of any numbers might wrap around.
func (c *checker) isPart(r api.MachReg) bool {
	if !isIndex(r.Of, c.Regs) || !isRoot(c.Regs[r.Of]) {
		return false
	}
	width := c.Regs[r.Of].Width
	return r.Width < width && isIn(r.Low, 0, width-r.Width)
}

func (c *checker) checkBanks() {
	c.must(areNamed(c.Banks, func(b api.MachBank) string { return b.Name }))
	for _, b := range c.Banks {
		c.must(len(b.Regs) > 0, c.areAlike(b.Regs))
	}
}

// areAlike reports whether regs are different indices of registers of one width.
func (c *checker) areAlike(regs []int) bool {
	met := [api.MaxRegs]bool{}
	for _, reg := range regs {
		if !isIndex(reg, c.Regs) || met[reg] || c.Regs[reg].Width != c.Regs[regs[0]].Width {
			return false
		}
		met[reg] = true
	}
	return true
}

func (c *checker) checkUnits() {
	c.must(len(c.Units) > 0, areNamed(c.Units, func(u api.MachUnit) string { return u.Name }))
	for _, u := range c.Units {
		c.must(isIn(u.Count, 1, api.MaxCount))
	}
}

func (c *checker) checkInstrs() {
	c.must(areNamed(c.Instrs, func(i api.MachInstr) string { return i.Name }))
	c.widths = map[string]int{"pc": c.Address}
	for _, r := range c.Regs {
		c.widths["r."+r.Name] = r.Width
	}
	for _, i := range c.Instrs {
		if c.checkInstr(i); c.bad {
			return
		}
	}
}
