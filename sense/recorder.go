package sense

import "ganglion/api"

// Recorder records events.
type Recorder struct {
	self   *Recorder // only a recorder that NewRecorder made is where it points to
	events []api.Event
}

// NewRecorder returns a recorder.
func NewRecorder() *Recorder {
	r := &Recorder{}
	r.self = r
	return r
}

// made says whether NewRecorder made the recorder.
func (r *Recorder) made() bool { return r != nil && r.self == r }

// Add records an event.
func (r *Recorder) Add(x api.Event) api.Errno {
	if !r.made() {
		return api.ErrNil
	}
	if e := checkNext(r.events, x); e != api.OK {
		return e
	}
	r.events = append(r.events, x)
	return api.OK
}

// Count returns how many events were recorded.
func (r *Recorder) Count() int {
	if !r.made() {
		return 0
	}
	return len(r.events)
}

// Bytes returns what was recorded as bytes.
func (r *Recorder) Bytes() ([]byte, api.Errno) {
	if !r.made() {
		return nil, api.ErrNil
	}
	return Pack(r.events)
}
