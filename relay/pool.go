package relay

import (
	"slices"
	"strings"
	"sync"

	"compact/api"
	"compact/hashes"
	"compact/wire"
)

// poolWorkers is how many work out the pool's short ids side by side.
const poolWorkers = 4

// pooled is a transaction of a pool, with its digest, so that no short block makes it be worked out again.
type pooled struct {
	digest      hashes.Digest
	transaction string
}

// pool has transactions, of which no two have the same digest. The zero pool is empty.
type pool struct{ byDigest map[hashes.Digest]pooled }

// Add: a transaction more (P6).
func (p *pool) Add(tx string) api.Errno {
	read, err := wire.Read(tx, (*wire.Reader).Transaction)
	if err != api.OK {
		return err
	}
	digest := hashes.Double(read)
	if _, has := p.byDigest[digest]; has {
		return api.ErrHas
	}
	if len(p.byDigest) >= api.MaxPool {
		return api.ErrFull
	}
	if p.byDigest == nil {
		p.byDigest = map[hashes.Digest]pooled{}
	}
	p.byDigest[digest] = pooled{digest, strings.Clone(read)}
	return api.OK
}

// Drop: a transaction less (P6).
func (p *pool) Drop(id string) bool {
	digest, ok := hashes.DigestOf(id)
	if !ok {
		return false
	}
	_, has := p.byDigest[digest]
	delete(p.byDigest, digest)
	return has
}

// IDs: of the pool (P6).
func (p *pool) IDs() []string {
	ids := make([]string, 0, len(p.byDigest))
	for digest := range p.byDigest {
		ids = append(ids, digest.Text())
	}
	slices.Sort(ids)
	return ids
}

// found is a transaction of a pool, with its short id.
type found struct {
	shortID     uint64
	transaction string
}

// find has workers work out the short ids of the pool: all of its transactions, in no order, out of a channel that is closed.
func (p *pool) find(key hashes.ShortKey) <-chan found {
	transactions := make(chan pooled)
	finds := make(chan found, len(p.byDigest)) // with room for all, so that no worker waits for one who receives
	var workers sync.WaitGroup
	for range poolWorkers {
		workers.Add(1)
		go func() {
			defer workers.Done()
			work(key, transactions, finds)
		}()
	}
	for _, tx := range p.byDigest {
		transactions <- tx
	}
	close(transactions)
	workers.Wait()
	close(finds)
	return finds
}

// work works out the short ids of transactions, until no more come.
func work(key hashes.ShortKey, transactions <-chan pooled, finds chan<- found) {
	for tx := range transactions {
		finds <- found{key.ShortID(tx.digest), tx.transaction}
	}
}

// single is by short id what was found; the transaction is empty, if several have that short id.
func single(finds <-chan found) map[uint64]found {
	byShortID := map[uint64]found{}
	for tx := range finds {
		if _, again := byShortID[tx.shortID]; again {
			tx.transaction = "" // whichever of them came first
		}
		byShortID[tx.shortID] = tx
	}
	return byShortID
}
