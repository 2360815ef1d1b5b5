package engine

import (
	"bytes"
	"math"
	"testing"

	"lodestar/api"
)

// P15.1: Stage, Chunk, Commit, Abort

func TestStage(t *testing.T) {
	r, v := withItems(t, graphConf("a"), 3)
	for _, name := range []string{"", "b", "aa"} {
		r.fails(staging(name), api.ErrNone)
	}
	for n := uint32(1); n <= api.MaxStages; n++ {
		r.by(uint64(n%2), 0, staging("a"), number(n))
	}
	r.fails(staging("a"), api.ErrFull)
	r.failsBy(1, 0, staging("a"), api.ErrFull)
	r.fails(staging("b"), api.ErrNone)
	r.by(1, 0, abort(3), api.Message{})
	r.want(staging("a"), number(5))
	r.fails(staging("a"), api.ErrFull)
	r.has(0, 0, 0)
	r.want(write("a", gone(1)), version(v+1))
}

func TestChunk(t *testing.T) {
	r, _ := withItems(t, flatConf("a"), 3)
	r.want(staging("a"), number(1))
	r.by(8, 0, staging("a"), number(2))
	for _, page := range []uint32{0, 2, 3, math.MaxUint32} {
		r.fails(chunk(1, page, []byte("x")), api.ErrStage)
	}
	r.fails(chunk(2, 1, []byte("x")), api.ErrStage)
	r.fails(chunk(3, 1, []byte("x")), api.ErrStage)
	r.fails(chunk(0, 1, nil), api.ErrStage)
	r.ok(chunk(1, 1, []byte("abc")))
	r.has(0, 3, 0)
	r.ok(chunk(1, 2, nil))
	r.fails(chunk(1, 2, []byte("x")), api.ErrStage)
	r.ok(chunk(1, 3, []byte("de")))
	r.by(8, 0, chunk(2, 1, []byte("f")), api.Message{})
	r.has(0, 6, 0)
	r.fails(chunk(1, 4, make([]byte, api.MaxStaged-4)), api.ErrFull)
	r.fails(chunk(1, 5, make([]byte, api.MaxStaged)), api.ErrStage)
	r.ok(chunk(1, 4, make([]byte, api.MaxStaged-5)))
	r.has(0, api.MaxStaged+1, 0)
	r.fails(chunk(1, 5, []byte("x")), api.ErrFull)
}

func TestAbort(t *testing.T) {
	r, _ := withItems(t, flatConf("a"), 3)
	r.upload(7, 1, "a", put(9, 9))
	long := r.upload(8, 2, "a", gone(1))
	r.fails(abort(2), api.ErrStage)
	r.fails(abort(0), api.ErrStage)
	r.fails(abort(3), api.ErrStage)
	r.ok(abort(1))
	r.has(0, long, 0)
	r.fails(abort(1), api.ErrStage)
	r.fails(commit(1), api.ErrStage)
	r.fails(chunk(1, 3, nil), api.ErrStage)
	r.items("a", item(1, 1), item(2, 2), item(3, 3))
}

func TestCommit(t *testing.T) {
	for _, c := range []api.Conf{flatConf("a"), graphConf("a")} {
		r, v := withItems(t, c, 3)
		r.makeIndex("a")
		r.upload(7, 1, "a", gone(2), put(9, 9, "t"), put(1, 7))
		r.upload(8, 2, "a", put(5, 5))
		before := told(r.e)
		r.fails(commit(2), api.ErrStage)
		r.failsBy(8, 0, commit(1), api.ErrStage)
		r.fails(commit(0), api.ErrStage)
		r.fails(commit(3), api.ErrStage)
		r.unchanged(before, "commits that failed")
		r.want(commit(1), version(v+1))
		r.items("a", item(1, 7), item(3, 3), item(9, 9, "t"))
		r.fails(commit(1), api.ErrStage)
		r.by(8, 0, commit(2), version(v+2))
		r.items("a", item(1, 7), item(3, 3), item(5, 5), item(9, 9, "t"))
		r.want(search("a", 9, 0), found(v+2, hit(9, 3), hit(25, 5), hit(49, 1), hit(81, 9)))
		r.has(0, 0, 0)
	}
}

func TestCommitOfMoreThanMayBeWrittenAtOnce(t *testing.T) {
	r := newRig(t)
	r.ok(create(flatConf("a")))
	var l []api.Change
	for id := range uint32(api.MaxItems) {
		l = append(l, put(id+1, 1))
	}
	r.upload(7, 1, "a", l...)
	r.want(commit(1), version(1))
	if many := len(r.e.Items("a")); many != api.MaxItems {
		t.Errorf("%d items", many)
	}
	r.upload(7, 2, "a", gone(1), put(500, 1), put(501, 1))
	r.want(commit(2), api.Message{Code: byte(api.ErrFull)})
	r.upload(7, 3, "a")
	r.want(commit(3), version(1))
	r.has(0, 0, 0)
}

func TestACommitThatFails(t *testing.T) {
	for _, c := range []api.Conf{flatConf("a"), graphConf("a")} {
		r, v := withItems(t, c, 3)
		r.makeIndex("a")
		before := told(r.e)
		for i, x := range []struct {
			b   []byte
			why api.Errno
		}{
			{nil, api.ErrEnd},
			{bytesOf(put(5, 5))[:3], api.ErrEnd},
			{append(bytesOf(put(5, 5)), 0), api.ErrMore},
			{bytes.Repeat([]byte{255}, 30), api.ErrVar},
			{bytesOf(put(5, 5), gone(8)), api.ErrNone},
			{bytesOf(put(5, 5), put(0, 8)), api.ErrArg},
			{bytesOf(put(5, 5), api.Change{Item: api.Item{Id: 4}}), api.ErrDim},
			{bytesOf(put(5, 5), put(4, 1<<20+1)), api.ErrPart},
			{bytesOf(put(5, 5), put(4, 4, "t", "s")), api.ErrTag},
		} {
			n := uint32(i + 1)
			r.want(staging("a"), number(n))
			r.ok(chunk(n, 1, x.b))
			r.want(commit(n), api.Message{Code: byte(x.why)})
			r.unchanged(before, x)
			r.fails(commit(n), api.ErrStage)
			r.fails(abort(n), api.ErrStage)
			r.fails(chunk(n, 2, nil), api.ErrStage)
		}
		r.want(write("a", gone(1)), version(v+1))
	}
}

func TestACommitForACollectionThatWasDropped(t *testing.T) {
	r, v := withItems(t, graphConf("a"), 3)
	r.makeIndex("a")
	r.upload(7, 1, "a", put(9, 9))
	r.upload(7, 2, "a", put(8, 8))
	r.ok(drop("a"))
	r.want(commit(1), api.Message{Code: byte(api.ErrNone)})
	r.fails(commit(1), api.ErrStage)
	// An upload is for a name: there may be another collection of it by then.
	r.ok(create(flatConf("a")))
	r.want(commit(2), version(v+1))
	r.items("a", item(8, 8))
	r.has(0, 0, 0)
}

func TestACommitForOneOfSeveralCollections(t *testing.T) {
	r := newRig(t)
	r.ok(create(flatConf("a")), create(graphConf("b")))
	r.upload(7, 1, "b", put(1, 1))
	r.upload(7, 2, "a", put(2, 2))
	r.want(commit(2), version(1))
	r.want(commit(1), version(2))
	r.items("a", item(2, 2))
	r.items("b", item(1, 1))
}

// P15.2: Staged

func TestStaged(t *testing.T) {
	r, v := withItems(t, flatConf("a"), 3)
	r.want(staging("a"), number(1))
	r.by(8, 0, staging("a"), number(2))
	r.has(0, 0, 0)
	r.ok(chunk(1, 1, make([]byte, 10)))
	r.by(8, 0, chunk(2, 1, make([]byte, 200)), api.Message{})
	r.has(0, 210, 0)
	r.ok(chunk(1, 2, make([]byte, 5)))
	r.has(0, 215, 0)
	r.want(commit(1), api.Message{Code: byte(api.ErrMore)})
	r.has(0, 200, 0)
	r.by(8, 0, abort(2), api.Message{})
	r.has(0, 0, 0)
	for n := uint32(3); n <= 6; n++ {
		r.want(staging("a"), number(n))
		r.ok(chunk(n, 1, make([]byte, api.MaxStaged)))
	}
	r.has(0, api.MaxStages*api.MaxStaged, 0)
	r.want(write("a", gone(1)), version(v+1))
	r.e.Leave(7)
	r.has(0, 0, 0)
}
