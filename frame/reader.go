package frame

import (
	"slices"

	"lodestar/api"
	"lodestar/crc"
	"lodestar/message"
	"lodestar/varint"
)

// phase is what a reader looks at next. Up to phaseLength it is also the place in the frame where that begins.
type phase int

const (
	phaseFirst phase = iota
	phaseSecond
	phaseVersion
	phaseKind
	phaseLength
	phaseRest   // the message's bytes and the sum are still to come
	phaseWhole  // all of the frame is there
	phaseFailed // an error was told, and is told from then on
)

// Reader finds frames in bytes.
type Reader struct {
	summer  *crc.Summer
	waiting []byte // what came and isn't gone: it begins with a frame
	phase   phase
	begin   int       // where the message's bytes begin, known behind phaseLength
	end     int       // where they end, and the sum begins
	err     api.Errno // what is told in phaseFailed
}

// New gives a reader to which nothing came.
func New() *Reader {
	return &Reader{summer: crc.New()}
}

// Feed takes bytes that came behind all that came ahead.
func (r *Reader) Feed(b []byte) {
	if r.phase != phaseFailed {
		r.waiting = append(r.waiting, b...)
	}
}

// Next gives the next frame's message.
func (r *Reader) Next() (api.Message, api.Errno) {
	for r.phase < phaseWhole {
		switch e := r.look(); e {
		case api.OK:
			r.phase++
		case api.ErrEnd:
			return api.Message{}, e
		default:
			return r.fail(e)
		}
	}
	if r.phase == phaseFailed {
		return api.Message{}, r.err
	}
	return r.take()
}

// Waits tells how many bytes came and aren't gone.
func (r *Reader) Waits() int {
	return len(r.waiting)
}

// look tells what is wrong with what the phase looks at, and ErrEnd as long as that isn't there.
func (r *Reader) look() api.Errno {
	switch r.phase {
	case phaseLength:
		return r.readLength()
	case phaseRest:
		return unless(len(r.waiting) >= r.end+sumSize, api.ErrEnd)
	}
	if len(r.waiting) <= int(r.phase) {
		return api.ErrEnd
	}
	return r.phase.check(r.waiting[r.phase])
}

// check tells what is wrong with b, the byte of a phase that looks at one.
func (p phase) check(b byte) api.Errno {
	switch p {
	case phaseFirst:
		return unless(b == markFirst, api.ErrMagic)
	case phaseSecond:
		return unless(b == markSecond, api.ErrMagic)
	case phaseVersion:
		return unless(b == version, api.ErrVersion)
	default:
		return unless(isKind(b), api.ErrKind)
	}
}

// readLength reads how many bytes the message has.
func (r *Reader) readLength() api.Errno {
	n, used, e := varint.Get(r.waiting[phaseLength:])
	if e != api.OK {
		return e
	}
	if n > api.MaxFrame {
		return api.ErrSize
	}
	r.begin = int(phaseLength) + used
	r.end = r.begin + int(n)
	return api.OK
}

// take takes the whole frame away and gives its message.
func (r *Reader) take() (api.Message, api.Errno) {
	ahead, behind := r.waiting[:r.end], r.waiting[r.end:]
	if !slices.Equal(behind[:sumSize], sumBytes(r.summer, ahead)) {
		return r.fail(api.ErrSum)
	}
	x, e := message.Get(ahead[phaseKind], ahead[r.begin:])
	if e != api.OK {
		return r.fail(e)
	}
	r.phase = phaseFirst
	r.waiting = behind[sumSize:]
	if len(r.waiting) == 0 {
		// A piece of no bytes would keep the memory of all that is gone.
		r.waiting = nil
	}
	return x, api.OK
}

// fail tells e, now and from then on, and keeps nothing else. The phase says so, not e alone: ErrEnd may be a whole frame's message's, which is told for ever, or a frame's that isn't whole yet.
func (r *Reader) fail(e api.Errno) (api.Message, api.Errno) {
	*r = Reader{phase: phaseFailed, err: e}
	return api.Message{}, e
}

// isKind tells whether b is a message's kind: message alone knows which there are.
func isKind(b byte) bool {
	_, e := message.Get(b, nil)
	return e != api.ErrKind
}

func unless(right bool, e api.Errno) api.Errno {
	if right {
		return api.OK
	}
	return e
}
