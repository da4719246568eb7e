package boards

import (
	"reflect"
	"testing"

	"timekeeper/api"
	"timekeeper/cpu"
	"timekeeper/kernel"
)

// plain is a plain reading of the chapter: cores in a row, of each whether it asked and how many answers its task had by then, lines of two lists of bools, and what tasks are answered handed on behind each instruction.
type plain struct {
	k      *kernel.Kernel
	cores  []*plainCore
	calls  [8]bool
	masked [8]bool
	binds  [8]api.Bind
}

type plainCore struct {
	h     uint32
	c     *cpu.Core
	asked bool
	had   int
}

func newPlain(s api.Setup) (*plain, api.Errno) {
	k, e := kernel.New(s)
	return &plain{k: k}, e
}

// taskOf is a task as it is seen; of one that is not there, the zero struct.
func (p *plain) taskOf(h uint32) api.Task {
	for _, t := range p.k.Tasks() {
		if t.Handle == h {
			return t
		}
	}
	return api.Task{}
}

func (p *plain) coreOf(h uint32) *plainCore {
	for _, x := range p.cores {
		if x.h == h {
			return x
		}
	}
	return nil
}

// handOn is 'What tasks are answered' of the section Words.
func (p *plain) handOn() {
	for _, x := range p.cores {
		t := p.taskOf(x.h)
		if x.asked && t.Handle != 0 && t.Answers > x.had {
			x.c.Answer(t.Last, t.Value)
			x.asked = false
		}
	}
}

// load is P22.2.
func (p *plain) load(m api.Image, rank int) (uint32, api.Errno) {
	c, e := cpu.New(m)
	if e != api.OK {
		return 0, api.ErrArg
	}
	h, e := p.k.Task(rank)
	if e == api.OK {
		p.cores = append(p.cores, &plainCore{h: h, c: c})
	}
	return h, e
}

// run is P22.3.
func (p *plain) run(n int) (int, api.Errno) {
	if n < 0 || n > 1000000 {
		return 0, api.ErrRange
	}
	p.handOn()
	done := 0
	for done < n {
		h := p.k.Runs()
		if h == 0 {
			break // no task runs
		}
		x := p.coreOf(h)
		if x == nil {
			break // a bare one does
		}
		asks, a, e := x.c.Step()
		if e == api.ErrFault {
			p.k.Fault(h)
		}
		if asks {
			x.asked, x.had = true, p.taskOf(h).Answers
			p.k.Ask(a)
		}
		done++
		p.handOn()
	}
	return done, api.OK
}

// serve is 'A line is served' of the section Words, of all lines.
func (p *plain) serve() {
	for line := range p.calls {
		if p.calls[line] && !p.masked[line] {
			p.calls[line] = false
			if x := p.binds[line]; x.H != 0 {
				p.k.Signal(x)
			}
		}
	}
}

// raise, mask and bind are P22.4.
func (p *plain) raise(line int) api.Errno {
	if line < 0 || line > 7 {
		return api.ErrArg
	}
	p.calls[line] = true
	p.serve()
	return api.OK
}

func (p *plain) mask(line int, on bool) api.Errno {
	if line < 0 || line > 7 {
		return api.ErrArg
	}
	p.masked[line] = on
	p.serve()
	return api.OK
}

func (p *plain) bind(line int, x api.Bind) api.Errno {
	if line < 0 || line > 7 {
		return api.ErrArg
	}
	p.binds[line] = x
	return api.OK
}

// inside is P22.6.
func (p *plain) inside(h uint32) inside {
	if p.taskOf(h).Handle == 0 {
		return inside{e: p.k.End(h)} // it names nobody, so that nobody ends
	}
	x := p.coreOf(h)
	if x == nil {
		return inside{e: api.ErrArg}
	}
	p.handOn()
	return inside{regs: x.c.Regs(), bytes: string(x.c.Bytes()), console: x.c.Console()}
}

// view is all that is seen of its kernel.
func (p *plain) view() view { return viewOf(&Board{kernel: p.k}) }

// both are a board and the plain reading of it: what is done to the one is done to the other, and they have to answer alike.
type both struct {
	b *Board
	p *plain
}

func newBoth(t *testing.T, s api.Setup) both {
	t.Helper()
	b, e := New(s)
	p, want := newPlain(s)
	if e != want {
		t.Fatalf("New: error %d, want %d", e, want)
	}
	return both{b, p}
}

func (x both) load(t *testing.T, m api.Image, rank int) uint32 {
	t.Helper()
	h, e := x.b.Load(m, rank)
	if want, wantE := x.p.load(m, rank); h != want || e != wantE {
		t.Fatalf("Load = %d, error %d, want %d, error %d", h, e, want, wantE)
	}
	return h
}

func (x both) run(t *testing.T, n int) int {
	t.Helper()
	done, e := x.b.Run(n)
	if want, wantE := x.p.run(n); done != want || e != wantE {
		t.Fatalf("Run(%d) = %d, error %d, want %d, error %d", n, done, e, want, wantE)
	}
	return done
}

// outside is what both kernels are asked from without.
func (x both) outside(t *testing.T, of func(k *kernel.Kernel) any) {
	t.Helper()
	if got, want := of(x.b.Kernel()), of(x.p.k); !reflect.DeepEqual(got, want) {
		t.Fatalf("the kernel answers %v, want %v", got, want)
	}
}

// inside holds what a core has against what is wanted; that hands on what was answered.
func (x both) inside(t *testing.T, h uint32) inside {
	t.Helper()
	got := insideOf(t, x.b, h)[0]
	if want := x.p.inside(h); got != want {
		t.Fatalf("of %d: %+v, want %+v", h, got, want)
	}
	return got
}

// seen holds all that is seen of the kernel against what is wanted.
func (x both) seen(t *testing.T) {
	t.Helper()
	isSeen(t, x.b, x.p.view())
}
