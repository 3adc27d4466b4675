package tcp

import (
	"undercroft/api"
)

// inward is the direction from the other side.
type inward struct {
	awaited uint32          // the next number
	came    []byte          // in order, and not received yet
	early   map[uint32]byte // out of order, by their numbers
	ended   bool            // whether the end of the stream is noted
	end     uint32          // the number at which
}

// ownWindow tells how many bytes there is room for.
func (in *inward) ownWindow() int { return api.Window - len(in.came) }

// room tells how many numbers may be noted, from the awaited one on: behind the end there is no byte.
func (in *inward) room() int {
	if in.ended {
		return int(in.end - in.awaited)
	}
	return in.ownWindow()
}

// take notes what a segment brings; true, if all has come now up to the end.
func (in *inward) take(s Segment) bool {
	in.note(s.Seq, s.Data)
	if s.has(Fin) {
		in.noteEnd(s.end())
	}
	return in.goOn()
}

// note notes those of some bytes, told by the first one's number, that are awaited; of two for one number the first one that came holds.
func (in *inward) note(seq uint32, data []byte) {
	at, room := int(seq-in.awaited), in.room()
	if at >= room { // then the awaited one, if it is among them, is where the numbers have gone round
		data = data[min(int(in.awaited-seq), len(data)):]
		seq, at = in.awaited, 0
	}
	data = data[:min(len(data), room-at)]
	if at == 0 && len(in.early) == 0 { // nearly always
		in.came = append(in.came, data...)
		in.awaited += uint32(len(data))
		return
	}
	for i, b := range data {
		n := seq + uint32(i)
		if _, noted := in.early[n]; !noted {
			in.early[n] = b
		}
	}
}

// noteEnd notes the end, if it is awaited, or is the end of what is.
func (in *inward) noteEnd(end uint32) {
	if !in.ended && int(end-in.awaited) <= in.ownWindow() {
		in.ended, in.end = true, end
	}
}

// goOn lets what was early come in order; true, if the end is passed.
func (in *inward) goOn() bool {
	for !in.ended || in.awaited != in.end {
		b, noted := in.early[in.awaited]
		if !noted {
			return false
		}
		delete(in.early, in.awaited)
		in.came = append(in.came, b)
		in.awaited++
	}
	in.awaited++
	in.early = nil
	return true
}
